/- The walk of the law BitioWrites: it returns true at every input. -/
import Derived.Test.YtejbgoepaleakaaBitLaw5
import Derived.Deep.RegionWith
namespace Go.Proofs.Ytejbgoepaleakaa
set_option linter.unusedVariables false
set_option linter.unusedSimpArgs false
open Go.ChangeShapes Go.WideShapes Go.ChangeAt Go.RowKit

set_option maxRecDepth 100000 in
set_option maxHeartbeats 4000000 in
theorem writes_w (W : World) (v0 : Value) (x : WL) (h0 : isWrites W v0 x) : Calls Try.prog 4 #[v0] W fun e w' => e = .returned (.bool true) ∧ Keep [] W w' := by
  obtain ⟨hn, a1, cap1, rfl, hpos⟩ := h0
  go_enter Try.func4, Try.ntmps4
  go_wp2_with fail
  refine (new_c W).mono ?_; rintro e w1 ⟨r, rfl, hw, hk, hrW⟩
  have KA : Keep [] w1 (w1.alloc (.cells #[.slice none 0 0] 50)) := (Keep.refl [] _).alloc _
  have HB : BW W (w1.alloc (.cells #[.slice none 0 0] 50)) r w1.heap.size [] [] :=
    ⟨_, _, hw.keep KA (by simp) (by simp), ⟨Blk.new _ _ _, OwnB.nil _, by simp [Value.ownBlock]⟩, hk.trans KA (by simp), by have := hw.own_lt.1; omega, hrW, hk.size, by simp [Value.ownBlock], by simp [Value.ownBlock]⟩
  have Hpos := Lib.hid hpos
  clear hpos hw hk KA
  go_wp2_with fail
  generalize w1.alloc (.cells #[.slice none 0 0] 50) = w2 at HB ⊢
  generalize w1.heap.size = q at HB ⊢
  go_loopw [5] (fun i wr => ∃ (k : Nat) (bs : List Bool), k ≤ x.n ∧ k ≤ 60 ∧ i = .int .i64 k ∧ bs.length ≤ 400 * k ∧ BW W wr r q bs bs) (fun i _ => 60 - (intOf i).toNat)
  case atStart => exact ⟨0, [], by omega, by omega, rfl, by simp, HB⟩
  case round =>
    obtain ⟨k, bs, hk, hk6, rfl, hbl, HB⟩ := hrel
    have key : (k < x.n ∧ k < 60) ∨ ¬ k < x.n ∨ (k < x.n ∧ ¬ k < 60) := by omega
    rcases key with ⟨hlt, hlt2⟩ | hlt | ⟨hlt, hlt2⟩
    · obtain ⟨b1, off1, rfl, hcells⟩ := Hpos.out (by omega)
      obtain ⟨v, vx, hB⟩ := HB
      obtain ⟨e0, e1, e2, hx, e3, hbs⟩ := hcells k hlt
      have K1 := hB.2.2.1
      have E0 := K1.cell e0 (by simp)
      have E1 := Lib.hid e1; have E2 := Lib.hid e2; have E3 := Lib.hid e3; have Hbs := Lib.hid hbs
      clear hcells e0 e1 e2 e3 hbs
      generalize x.K k = z at E0
      generalize x.N k = nn at E1
      generalize x.X k = xx at E2 hx
      generalize x.V k = vv at E3 Hbs
      generalize x.B k = ll at Hbs
      go_upto_block 2 with fail
      go_cut [] (fun wx => ∃ bs' : List Bool, bs'.length ≤ 400 * (k + 1) ∧ BW W wx r q bs' bs')
      case first =>
        by_cases z0 : z = 0
        · subst z0
          have hcl := cln_le nn
          have e1 := K1.cell E1.out (by simp)
          have e2 := K1.cell E2.out (by simp)
          have hB1 := hB.keep ((Keep.refl [] wr).drew)
          have hp1 := Lib.hid (wput_c wr.drew r v bs xx nn hx hB1.1 (by omega))
          go_upto_region 16 with fail
          go_still_tail 11, (by kernel_rfl)
          change wpList _ _ _ _ _ wr.drew
          generalize wr.drew = w3 at hB1 hp1 ⊢
          clear e1 e2
          go_wp2_with fail
          refine hp1.out.mono ?_; rintro e w4 ⟨v4, rfl, hw4, hk4, hv4⟩
          have hB5 := hB1.step1 hw4 hk4 hv4
          have K5 := hB5.2.2.1
          have e1 := K5.cell E1.out (by simp)
          have e2 := K5.cell E2.out (by simp)
          have hB6 := hB5.keep ((Keep.refl [] w4).drew)
          have hp2 := Lib.hid (rput_c w4.drew q vx bs xx nn hx hB6.2.1 (by omega))
          clear hw4 hk4 hv4 hp1 hB1
          go_upto_region 17 with fail
          go_still_tail 11, (by kernel_rfl)
          change wpList _ _ _ _ _ w4.drew
          generalize w4.drew = w6 at hB6 hp2 ⊢
          clear e1 e2
          go_wp2_with fail
          refine hp2.out.mono ?_; rintro e w7 ⟨rfl, hR⟩
          obtain ⟨vx7, hB7, _⟩ := hB6.step2 hR
          go_wp2_with fail
          go_meet
          exact ⟨_, by rw [List.length_append, bitsOf_length]; omega, _, _, hB7⟩
        · have z0' : (z == 0) = false := by simpa using z0
          by_cases z1 : z = 1
          · subst z1
            have hpl := pad8_length bs
            have hp1 := Lib.hid (walign_c wr r v bs hB.1 (by omega))
            have Hpl := Lib.hid hpl; clear hpl
            go_wp2_with fail
            refine hp1.out.mono ?_; rintro e w4 ⟨v4, rfl, hw4, hk4, hv4⟩
            have hB5 := hB.step1 hw4 hk4 hv4
            have hp2 := Lib.hid (ralign8_c w4 q vx bs hB5.2.1 (by omega))
            clear hw4 hk4 hv4 hp1
            go_wp2_with fail
            refine hp2.out.mono ?_; rintro e w7 ⟨rfl, hR⟩
            obtain ⟨vx7, hB7, _⟩ := hB5.step2 hR
            go_wp2_with fail
            go_meet
            exact ⟨_, by rw [Hpl.out]; omega, _, _, hB7⟩
          · have z1' : (z == 1) = false := by simpa using z1
            clear z0 z1
            have e3 := K1.cell E3.out (by simp)
            have hbs := Hbs.out.keep K1 (by simp)
            go_wp2_with fail
            refine (cut_c wr vv ll 40 (by decide) hbs).mono ?_; rintro e w' ⟨vb, rfl, hb, hvb, rfl⟩
            have hl40 : (ll.take 40).length ≤ 40 := by rw [List.length_take]; omega
            generalize ll.take 40 = l at hb hl40
            clear e3 hbs
            go_wp2_with fail
            refine (copy_c wr vb l (by omega) hb).mono ?_; rintro e w3 ⟨vc, rfl, hc, hk3, hvc⟩
            have hB3 := hB.keep hk3
            have hclt := hc.lt
            have hfar : ∀ b, vc.ownBlock = some b → b ≠ r ∧ b ≠ q ∧ v.ownBlock ≠ some b ∧ vx.ownBlock ≠ some b ∧ W.heap.size ≤ b := fun b hb => by
              have h1 := hvc b hb
              have h2 := hB.1.own_lt
              have h3 := hB.2.1.1.lt
              have h4 := K1.size
              exact ⟨by omega, by omega, fun e => by have := h2.2 b e; omega, fun e => by have := (hB.2.2.2.2.2.2.2 b e).2.2; omega, by omega⟩
            have hpl := pad8_length bs
            have hp1 := Lib.hid (putbytes_c w3 r v bs vc l hB3.1 hc.bs (fun _ b hb => ⟨(hfar b hb).1, (hfar b hb).2.2.1⟩) (by omega))
            have Hpl := Lib.hid hpl; have Hfar := Lib.hid hfar; have Hclt := Lib.hid hclt
            clear hpl hfar hb hvc hvb hclt
            go_wp2_with fail
            refine hp1.out.mono ?_; rintro e w4 ⟨v4, rfl, hw4, hk4, hv4⟩
            have hc4 := hc.keep hk4 (fun b hb hm => by
              have := Hfar.out b hb
              simp at hm
              rcases hm with hm | hm
              · exact this.1 hm
              · exact this.2.2.1 hm)
            have hv4r : ∀ b, vc.ownBlock = some b → v4.ownBlock ≠ some b := fun b hb e => by
              rcases hv4 b e with h | h
              · exact (Hfar.out b hb).2.2.1 h
              · have := Hclt.out b hb; omega
            have hB5 := hB3.step1 hw4 hk4 hv4
            have hp2 := Lib.hid (rputbytes_c w4 q vx bs vc l hB5.2.1 hc4.bs (fun _ b hb => ⟨(Hfar.out b hb).2.1, (Hfar.out b hb).2.2.2.1⟩) (by omega))
            have hk4s := hk4.size
            clear hw4 hk4 hv4 hp1 hB3
            go_wp2_with fail
            refine hp2.out.mono ?_; rintro e w7 ⟨rfl, hR⟩
            obtain ⟨vx7, hB7, hk7, hv7⟩ := hB5.step2 hR
            have hc7 := hc4.keep hk7 (fun b hb hm => by
              have := Hfar.out b hb
              simp at hm
              rcases hm with hm | hm
              · exact this.2.1 hm
              · exact this.2.2.2.1 hm)
            have hsep : ∀ b, vc.ownBlock = some b → b ≠ r ∧ b ≠ q ∧ v4.ownBlock ≠ some b ∧ vx7.ownBlock ≠ some b ∧ W.heap.size ≤ b := fun b hb => by
              have h1 := Hfar.out b hb
              refine ⟨h1.1, h1.2.1, hv4r b hb, fun e => ?_, h1.2.2.2.2⟩
              rcases hv7 b e with h | h
              · exact h1.2.2.2.1 h
              · have := Hclt.out b hb; omega
            have HBx : Hid (BWv W w7 r q v4 vx7 (pad8 bs ++ toBits l) (pad8 bs ++ toBits l)) := hB7
            have Hsep := Lib.hid hsep
            obtain ⟨ac, cc, rfl, hcc1, hcc2⟩ := hc7.bs.shape
            unfold maxLen at hcc2
            clear hB5 hk7 hv7 hB7 hsep hv4r hp2 hc4 hc hB K1 hk3
            go_wp2_with fail
            go_loopw [7] (fun i wx => ∃ (j : Nat) (l' : List UInt8), j ≤ l.length ∧ i = .int .i64 j ∧ l'.length = l.length ∧ OwnB wx (.slice ac l.length cc) l' ∧ BWv W wx r q v4 vx7 (pad8 bs ++ toBits l) (pad8 bs ++ toBits l)) (fun i _ => l.length - (intOf i).toNat)
            case atStart => exact ⟨0, l, by omega, rfl, rfl, hc7, HBx⟩
            case round =>
              obtain ⟨j, l', hj, rfl, hl', hown, hB8⟩ := hrel
              have Hl' := Lib.hid hl'; clear hl'
              by_cases hjl : j < l.length
              · rcases hown.cases with ⟨h1, _⟩ | ⟨g, cap', h1, _, _, hcell, hg⟩
                · simp only [Value.slice.injEq] at h1; omega
                · simp only [Value.slice.injEq] at h1
                  obtain ⟨rfl, hxx, rfl⟩ := h1
                  clear hxx
                  have e1 := hcell j (by rw [Hl'.out]; exact hjl)
                  have f1 := hown.free j
                  obtain ⟨c, hc⟩ : ∃ c, c = l'[j]'(by rw [Hl'.out]; exact hjl) := ⟨_, rfl⟩
                  rw [← hc] at e1
                  have hs := hown.store j (by rw [Hl'.out]; exact hjl) (c + 1)
                  have hce : ((c + 1).toNat : Int) = (c.toNat + 1) % 256 := by simp [UInt8.toNat_add]
                  rw [hce] at hs
                  have hb1 : c.toNat < 256 := c.toNat_lt
                  generalize c.toNat = y at e1 hs hb1
                  have hB9 := hB8.keepB ((Keep.refl [g] _).setCell (p := ⟨g, j, none⟩) (by simp) (.int .u8 (((y : Int) + 1) % 256))) (Hsep.out g rfl)
                  clear hcell hc hce hB8
                  go_wp2
                  go_roundw
                  case rel => exact ⟨j + 1, _, by omega, by go_num, by rw [List.length_set]; exact Hl'.out, hs, hB9⟩
                  case measure => simp [intOf]; omega
              · go_wp2
                go_meet
                exact ⟨_, by rw [List.length_append, Hpl.out, toBits_length]; omega, _, _, hB8⟩
      case rest =>
        obtain ⟨b2, hb2, v2, vx2, hB2⟩ := hcut
        obtain ⟨ax, cx, rfl, hcx, hcm⟩ := hB2.2.1.2.1.bs.shape
        have hll : (b2.map bb).length = b2.length := by simp
        rw [hll] at hB2
        have hB3 := hB2.keep ((Keep.refl [] wc).drew)
        have hlen3 : b2.length ≤ 140737488353000 := by omega
        have hlen4 : b2.length ≤ 1125899906842000 := by omega
        clear hB2 hcx hcm hll
        go_wp2_with fail
        go_region_with (first
          | (go_at_call 34; (refine (wbytes_c wc.drew r v2 b2 hB3.1 hlen4).mono ?_); (rintro e wA ⟨vA, lA, rfl, hoA, hlA, hkA, hvA⟩); (have hBA := hB3.keep hkA))
          | (go_at_call 35; (refine (rwbytes_c wA q _ b2 hBA.2.1 hlen3).mono ?_); (rintro e wB ⟨vB, lB, rfl, hoB, hlB, hkB, hvB⟩); (obtain rfl : lB = lA := toBits_inj _ _ (by rw [hlA, hlB])); (have hBB := hBA.keep hkB); (have hoA2 := hoA.keep hkB (by simp)); (have d0 := hBB.2.1.1.cell 0 _ rfl))
          | (go_at_call 20; (refine (same_c wB vA vB _ _ hoA2.bs hoB.bs).mono ?_); (rintro e wC ⟨rfl, m, rfl⟩))
          | (go_at_call 36; (refine (wlen_c (wB.drewN m) r v2 b2 (hBB.keep ((Keep.refl [] wB).drewN m)).1 (by omega)).mono ?_); (rintro e wD ⟨rfl, m2, rfl⟩)))
        all_goals
          have hBE : BW W (wB.drewN (m + m2)) r q b2 b2 := ⟨_, _, hBB.keep ((Keep.refl [] wB).drewN (m + m2))⟩
          clear hB3 hBA hBB hoA hoA2 hoB hkA hkB d0 hB K1 E0
          try rw [World.drewN_drewN]
          generalize wB.drewN (m + m2) = wE at hBE ⊢
          go_wp2
          go_roundw
          case rel => exact ⟨k + 1, b2, by omega, by omega, by go_num, by omega, hBE⟩
          case measure => simp [intOf]; omega
    all_goals
      obtain ⟨v, vx, hB⟩ := HB
      have K1 := hB.2.2.1
      clear hB
      go_wp2_with (refine (lives_c _).mono ?_; rintro e w' ⟨rfl, hk⟩)
      go_ret
      exact ⟨rfl, K1.trans hk (by simp)⟩
end Go.Proofs.Ytejbgoepaleakaa
