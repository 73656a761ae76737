/- Contract of the document's One of layer 12. No condition beyond each theorem's own premises. -/
import Derived.Test.YtlnknnmlepgjfaaRefFol2
import Derived.Test.YtlnknnmlepgjfaaCutB
namespace Go.Proofs.Ytlnknnmlepgjfaa
set_option linter.unusedVariables false
set_option linter.unusedSimpArgs false
set_option maxRecDepth 100000
open Go.ChangeShapes Go.WideShapes Go.ChangeAt Go.RowKit

set_option maxHeartbeats 4000000 in
theorem one12_c (w : World) (v : Value) (b : List UInt8) (c : UInt8) (hb : Bs w v b) (hl : b.length ≤ 1000000) : Calls Try.prog 19 #[v, .int .u8 c.toNat] w fun e w' => ∃ v', e = .returned v' ∧ Bs w' v' (one12 b c.toNat) ∧ Keep [] w w' ∧ ∀ x, v'.ownBlock = some x → w.heap.size ≤ x := by
  unfold one12
  have HBE := Lib.hid (behind12_c w v b c hb hl)
  have hn := fun x => Nat.le_trans (cnB_le 0 b c.toNat x) hl
  generalize cnB 0 b c.toNat = n at hn HBE ⊢
  have HN := Lib.hid hn; clear hn
  have hz := (zero_of_info (P := Try.prog) alInfo).1
  rw [← AL_zero] at hz
  have hz256 : (AL fun _ => 0).size = 256 := AL_size _
  generalize hZ : AL (fun _ => 0) = Z at hz hz256
  clear hZ
  go_enter Try.func19, Try.ntmps19
  go_wp2_with fail
  refine HBE.out.mono ?_; rintro e w1 ⟨rfl, k1⟩
  have hg0 := Blk.new w1 Z 46
  have KA : Keep [] w (w1.alloc (.cells Z 46)) := k1.alloc _
  obtain ⟨g, hg⟩ : ∃ g, w1.heap.size = g := ⟨_, rfl⟩
  have hgw : w.heap.size ≤ g := by rw [← hg]; exact k1.size
  rw [hg] at hg0
  have hG := hg0.setRow (AL n)
  have KG : Keep [] w ((w1.alloc (.cells Z 46)).setRow g (AL n)) := KA.trans (Keep.setRow _) (fun x hx => by simp at hx; subst hx; exact .inr hgw)
  go_wp2_with (refine wpList_storeA256 rfl _ _ rfl _ _ (by rw [← hg]; rfl) rfl _ _ hg0 hz256 ?_)
  generalize (w1.alloc (.cells Z 46)).setRow g (AL n) = w2 at hG KG ⊢
  clear hg0 KA hz hz256 hg k1
  go_wp2_with fail
  go_loopw [6, 7] (fun lv iv wr => ∃ i : Nat, i ≤ 32 ∧ iv = .int .i64 i ∧ OwnB wr lv (topF n i) ∧ Blk wr g (AL n) 46 ∧ Keep [] w wr ∧ (∀ x, lv.ownBlock = some x → w.heap.size ≤ x ∧ x ≠ g)) (fun _ iv _ => 32 - (intOf iv).toNat)
  case atStart => exact ⟨0, by omega, rfl, OwnB.nil _, hG, KG, by simp [Value.ownBlock]⟩
  case round =>
    obtain ⟨i, hi, rfl, hO, hB, KK, hlv⟩ := hrel
    have htl := topF_len n i
    have hstep : topF n (i + 1) = if 0 ≤ bk n (topF n i) 256 then topF n i ++ [UInt8.ofNat (bk n (topF n i) 256).toNat] else topF n i := rfl
    obtain ⟨L, hL⟩ : ∃ L, topF n i = L := ⟨_, rfl⟩
    rw [hL] at hO htl hstep
    have HSTEP := Lib.hid hstep; have HL := Lib.hid hL
    clear hstep hL
    by_cases hi32 : i < 32
    · have t1 : decide (i < 32) = true := by simpa using hi32
      have t1' : decide ((i : Int) < 32) = true := by simp; omega
      have hs1 : IntKind.i64.wrap ((i : Int) + 1) = ((i + 1 : Nat) : Int) := by rw [IntKind.wrap_i64]; omega
      go_wp2_with fail
      go_loopw [8, 9] (fun bv kv wx => ∃ (k : Nat) (B : Int), k ≤ 256 ∧ kv = .int .i64 k ∧ bv = .int .i64 B ∧ Hid (bk n L k = B) ∧ OwnB wx u6 L ∧ Blk wx g (AL n) 46 ∧ Keep [] w wx) (fun _ kv _ => 256 - (intOf kv).toNat)
      case atStart => exact ⟨0, -1, by omega, rfl, rfl, rfl, hO, hB, KK⟩
      case round =>
        obtain ⟨k, B, hk, rfl, rfl, HBK, hO2, hB2, KK2⟩ := hrel
        by_cases hk256 : k < 256
        · skip
          have t2 : decide (k < 256) = true := by simpa using hk256
          have t2' : decide ((k : Int) < 256) = true := by simp; omega
          have hs2 : IntKind.i64.wrap ((k : Int) + 1) = ((k + 1 : Nat) : Int) := by rw [IntKind.wrap_i64]; omega
          have hkw : IntKind.u8.wrap (k : Int) = k := by rw [IntKind.wrap_u8']; omega
          have cell := hB2.cell k _ (AL_get n k hk256)
          have hst : bk n L (k + 1) = if 0 < n k ∧ inL L k = false ∧ (bk n L k < 0 ∨ n (bk n L k).toNat < n k) then (k : Int) else bk n L k := rfl
          have hbr := bk_range n L k
          rw [HBK.out] at hst hbr
          rw [inL_atU L k hk256] at hst
          have hat := fun m => (rat12_c (wr.drewN m) u6 L (UInt8.ofNat k) (hO2.bs.keep ((Keep.refl [] wr).drewN m) (by simp))).mono fun _ _ => sameD
          have hu := (u8_of k hk256).2
          simp only [hu] at hat
          generalize atU L (UInt8.ofNat k) = at1 at hst hat
          obtain ⟨nk, hnk⟩ : ∃ nk, n k = nk := ⟨_, rfl⟩
          rw [hnk] at hst cell
          have HAT := Lib.hid hat; clear hat hu
          have tails : ∀ B' : Int, bk n L (k + 1) = B' → Hid (bk n L (k + 1) = B') := fun _ h => h
          by_cases c1 : 0 < nk
          · have q1 : decide (0 < nk) = true := by simpa using c1
            have q1' : decide ((0 : Int) < (nk : Int)) = true := by simp; omega
            by_cases c2 : at1 < 0
            · have q2 : decide (at1 < 0) = true := by simpa using c2
              have q2' : decide (0 ≤ at1) = false := by simp; omega
              rw [q2'] at hst
              by_cases c3 : B < 0
              · have q3 : decide (B < 0) = true := by simpa using c3
                have hR := tails _ (by rw [hst, if_pos ⟨c1, rfl, .inl c3⟩])
                clear hst hbr c1 c2 c3 hnk tails q2'
                go_upto_region 10 with fail
                go_quiet ((go_at_call 30; exact Calls.quiet_of (HAT.out _)))
                have hO3 := hO2.keep ((Keep.refl [] wr).drewN nq) (by simp)
                have hB3 := hB2.drewN nq
                have KK3 := KK2.drewN nq
                generalize wr.drewN nq = w9 at hO3 hB3 KK3 ⊢
                clear cell
                go_wp2_with fail
                go_roundw
                case rel => exact ⟨k + 1, _, hk256, rfl, rfl, hR, hO3, hB3, KK3⟩
                case measure => simp [intOf]; omega
              · obtain ⟨bq, rfl⟩ : ∃ bq : Nat, B = bq := ⟨B.toNat, by omega⟩
                have hbq : bq < k := by omega
                have q3 : decide ((bq : Int) < 0) = false := by simp
                have q3' : decide ((bq : Int) < (0 : Int)) = false := by simp
                have cellb := hB2.cell bq _ (AL_get n bq (by omega))
                rw [Int.toNat_natCast] at hst
                obtain ⟨nb, hnb⟩ : ∃ nb, n bq = nb := ⟨_, rfl⟩
                rw [hnb] at hst cellb
                have hbq2 : (bq : Int) < 256 := by omega
                have hbq3 : bq < 256 := by omega
                by_cases c4 : nb < nk
                · have q4 : decide (nb < nk) = true := by simpa using c4
                  have q4' : decide ((nb : Int) < (nk : Int)) = true := by simp; omega
                  have hR := tails _ (by rw [hst, if_pos ⟨c1, rfl, .inr c4⟩])
                  clear hst hbr c1 c2 c3 c4 hnk hnb tails q2'
                  go_upto_region 10 with fail
                  go_quiet ((go_at_call 30; exact Calls.quiet_of (HAT.out _)))
                  have hO3 := hO2.keep ((Keep.refl [] wr).drewN nq) (by simp)
                  have hB3 := hB2.drewN nq
                  have KK3 := KK2.drewN nq
                  generalize wr.drewN nq = w9 at hO3 hB3 KK3 ⊢
                  clear cell cellb
                  go_wp2_with fail
                  go_roundw
                  case rel => exact ⟨k + 1, _, hk256, rfl, rfl, hR, hO3, hB3, KK3⟩
                  case measure => simp [intOf]; omega
                · have q4 : decide (nb < nk) = false := by simpa using c4
                  have q4' : decide ((nb : Int) < (nk : Int)) = false := by simp; omega
                  have hR := tails _ (by rw [hst, if_neg (fun h => by rcases h.2.2 with e | e; exact c3 e; exact c4 e)])
                  clear hst hbr c1 c2 c3 c4 hnk hnb tails q2'
                  go_upto_region 10 with fail
                  go_quiet ((go_at_call 30; exact Calls.quiet_of (HAT.out _)))
                  have hO3 := hO2.keep ((Keep.refl [] wr).drewN nq) (by simp)
                  have hB3 := hB2.drewN nq
                  have KK3 := KK2.drewN nq
                  generalize wr.drewN nq = w9 at hO3 hB3 KK3 ⊢
                  clear cell cellb
                  go_wp2_with fail
                  go_roundw
                  case rel => exact ⟨k + 1, _, hk256, rfl, rfl, hR, hO3, hB3, KK3⟩
                  case measure => simp [intOf]; omega
            · have q2 : decide (at1 < 0) = false := by simpa using c2
              have q2' : decide (0 ≤ at1) = true := by simp; omega
              rw [q2'] at hst
              have hR := tails _ (by rw [hst, if_neg (fun h => by cases h.2.1)])
              clear hst hbr c1 c2 hnk tails q2'
              go_upto_region 10 with fail
              go_quiet ((go_at_call 30; exact Calls.quiet_of (HAT.out _)))
              have hO3 := hO2.keep ((Keep.refl [] wr).drewN nq) (by simp)
              have hB3 := hB2.drewN nq
              have KK3 := KK2.drewN nq
              generalize wr.drewN nq = w9 at hO3 hB3 KK3 ⊢
              clear cell
              go_wp2_with fail
              go_roundw
              case rel => exact ⟨k + 1, _, hk256, rfl, rfl, hR, hO3, hB3, KK3⟩
              case measure => simp [intOf]; omega
          · have q1 : decide (0 < nk) = false := by simpa using c1
            have q1' : decide ((0 : Int) < (nk : Int)) = false := by simp; omega
            have hR := tails _ (by rw [hst, if_neg (fun h => c1 h.1)])
            clear hst hbr c1 hnk tails
            go_upto_region 10 with fail
            go_quiet ((go_at_call 30; exact Calls.quiet_of (HAT.out _)))
            have hO3 := hO2.keep ((Keep.refl [] wr).drewN nq) (by simp)
            have hB3 := hB2.drewN nq
            have KK3 := KK2.drewN nq
            generalize wr.drewN nq = w9 at hO3 hB3 KK3 ⊢
            clear cell
            go_wp2_with fail
            go_roundw
            case rel => exact ⟨k + 1, _, hk256, rfl, rfl, hR, hO3, hB3, KK3⟩
            case measure => simp [intOf]; omega
        · have hk2 : k = 256 := by omega
          subst hk2
          have hst := HSTEP.out
          rw [HBK.out] at hst
          have hbr := bk_range n L 256
          rw [HBK.out] at hbr
          by_cases cB : 0 ≤ B
          · rw [if_pos cB] at hst
            obtain ⟨bq, rfl⟩ := Int.eq_ofNat_of_zero_le cB
            rw [Int.toNat_natCast] at hst
            have hbq : bq < 256 := by omega
            have hu := (u8_of bq hbq).2
            have q1 : decide ((0 : Int) ≤ (bq : Int)) = true := by simp
            have hbw : IntKind.u8.wrap (bq : Int) = bq := by rw [IntKind.wrap_u8']; omega
            have hN1 := Bs.new1 wr (UInt8.ofNat bq)
            rw [hu] at hN1
            have HN1 := Lib.hid hN1
            have KA := (Keep.refl [] wr).alloc (.cells #[.int .u8 (bq : Int)] 5)
            have hO3 := hO2.keep KA (by simp)
            have hB3 := hB2.keep KA (by simp)
            have hll : L.length + [UInt8.ofNat bq].length ≤ 140737488355328 := by simp; omega
            have HLL := Lib.hid hll; have HST := Lib.hid hst
            have hlt := hB2.lt
            clear hN1 hll hst hbr hu
            go_wp2_with (at_builtin; (refine wpList_appendB (.tmp 50) (.tmp 53) rfl rfl u6 L rfl hO3 _ [UInt8.ofNat bq] rfl HN1.out HLL.out ?_); (intro v3 w3 ho3 hk3 hb3 hz3))
            go_roundw
            case rel =>
              have K3 : Keep [] w w3 := (KK2.trans KA (by simp)).trans hk3 (fun z hz => .inr (hlv z (by simpa using hz)).1)
              refine ⟨i + 1, by omega, rfl, by rw [HST.out]; exact ho3, hB3.keep hk3 (fun hm => (hlv g (by simpa using hm)).2 rfl), K3, fun x hx => ?_⟩
              rcases hb3 x hx with h' | h'
              · exact hlv x h'
              · have h1 := KK2.size
                rw [h']
                exact ⟨by simp; omega, by simp; omega⟩
            case measure => simp [intOf]; omega
          · rw [if_neg cB] at hst
            have q1 : decide (0 ≤ B) = false := by simpa using cB
            have HST := Lib.hid hst
            clear hst hbr
            go_wp2_with fail
            go_roundw
            case rel => exact ⟨i + 1, by omega, rfl, by rw [HST.out]; exact hO2, hB2, KK2, hlv⟩
            case measure => simp [intOf]; omega
    · have t1 : decide (i < 32) = false := by simpa using hi32
      have t1' : decide ((i : Int) < 32) = false := by simp; omega
      have hi2 : i = 32 := by omega
      have hone : oneN n = L.take (bl n L L.length) := by unfold oneN; rw [show topF n 32 = L from by rw [← hi2]; exact HL.out]
      clear hi32 hi2
      have HONE := Lib.hid hone
      obtain ⟨aL, cL, rfl, hcL, hcL2⟩ := hO.bs.shape
      obtain ⟨ln, hln⟩ : ∃ ln, L.length = ln := ⟨_, rfl⟩
      rw [hln] at hO hcL htl hlv ⊢
      have HLN := Lib.hid hln
      clear hone hln
      go_wp2_with fail
      go_loopw [10, 11] (fun qv jv wx => ∃ (j q : Nat), 1 ≤ j ∧ j ≤ ln + 1 ∧ jv = .int .i64 j ∧ qv = .int .i64 q ∧ Hid (bl n L (j - 1) = q) ∧ q ≤ ln ∧ OwnB wx (.slice aL ln cL) L ∧ Blk wx g (AL n) 46 ∧ Keep [] w wx) (fun _ jv _ => ln + 1 - (intOf jv).toNat)
      case atStart => exact ⟨1, 0, by omega, by omega, rfl, rfl, rfl, by omega, hO, hB, KK⟩
      case round =>
        obtain ⟨j, q, hj1, hj2, rfl, rfl, HQ, hq, hO2, hB2, KK2⟩ := hrel
        by_cases hjl : j ≤ ln
        · have t2 : decide (j ≤ ln) = true := by simpa using hjl
          have t2' : decide ((j : Int) ≤ (ln : Int)) = true := by simp; omega
          have hs2 : IntKind.i64.wrap ((j : Int) + 1) = ((j + 1 : Nat) : Int) := by rw [IntKind.wrap_i64]; omega
          have hbs := hO2.bs
          have hL2 := HLN.out
          obtain ⟨va, hva, hba, -⟩ := hbs.upto j j rfl (by omega)
          obtain ⟨vb, hvb, hbb, -⟩ := hbs.upto q q rfl (by omega)
          have hst : bl n L (j - 1 + 1) = if cst n (L.take (j - 1 + 1)) 256 < cst n (L.take (bl n L (j - 1))) 256 then j - 1 + 1 else bl n L (j - 1) := rfl
          rw [HQ.out, show j - 1 + 1 = j by omega] at hst
          have HC1 := Lib.hid (fun (ww : World) (kk : Keep [] wr ww) => cost12_c ww (AL n) n va (L.take j) ⟨AL_size n, AL_get n⟩ HN.out (hba.keep kk (by simp)) (by rw [List.length_take]; omega))
          have HC2 := Lib.hid (fun (ww : World) (kk : Keep [] wr ww) => cost12_c ww (AL n) n vb (L.take q) ⟨AL_size n, AL_get n⟩ HN.out (hbb.keep kk (by simp)) (by rw [List.length_take]; omega))
          obtain ⟨k1, hk1⟩ : ∃ k1, cst n (L.take j) 256 = k1 := ⟨_, rfl⟩
          obtain ⟨k2, hk2⟩ : ∃ k2, cst n (L.take q) 256 = k2 := ⟨_, rfl⟩
          rw [hk1, hk2] at hst
          rw [hk1] at HC1
          rw [hk2] at HC2
          have HLD := Lib.hid (fun p : Kept wr => Blk.load (P := Try.prog) (hB2.keep p.h (by simp)) _ Try.underlying46 rfl (by rw [AL_size]; exact alSize))
          clear hba hbb hbs hL2 hk1 hk2
          by_cases hlt : k1 < k2
          · have q1 : decide (k1 < k2) = true := by simpa using hlt
            rw [if_pos hlt] at hst
            have HST := Lib.hid hst
            clear hst hlt
            go_upto_region 18 with fail
            refine wp_region_kept (by kernel_rfl) (by kernel_rfl) ?_
            refine wpQuiet_loadA 46 (.tmp 5) rfl (by rfl) g rfl (AL n) HLD.out ?_
            repeat (quiet_step (first
              | (go_at_call 31; (first | with_reducible exact kept_of (HC1.out _ (Kept.h _)) | with_reducible exact kept_of (HC2.out _ (Kept.h _))))))
            refine wpQuiet_loadA 46 (.tmp 5) rfl (by rfl) g rfl (AL n) HLD.out ?_
            repeat (quiet_step (first
              | (go_at_call 31; (first | with_reducible exact kept_of (HC1.out _ (Kept.h _)) | with_reducible exact kept_of (HC2.out _ (Kept.h _))))))
            refine wpQuiet_nil ?_
            intro _ hw'
            obtain ⟨p, hw''⟩ := hw'
            subst hw''
            have hO3 := hO2.keep p.h (by simp)
            have hB3 := hB2.keep p.h (by simp)
            have KK3 := KK2.trans p.h (by simp)
            go_wp2_with fail
            go_roundw
            case rel => exact ⟨j + 1, _, by omega, by omega, rfl, rfl, by rw [Nat.add_sub_cancel]; exact HST.out, by omega, hO3, hB3, KK3⟩
            case measure => simp [intOf]; omega
          · have q1 : decide (k1 < k2) = false := by simpa using hlt
            rw [if_neg hlt] at hst
            have HST := Lib.hid hst
            clear hst hlt
            go_upto_region 18 with fail
            refine wp_region_kept (by kernel_rfl) (by kernel_rfl) ?_
            refine wpQuiet_loadA 46 (.tmp 5) rfl (by rfl) g rfl (AL n) HLD.out ?_
            repeat (quiet_step (first
              | (go_at_call 31; (first | with_reducible exact kept_of (HC1.out _ (Kept.h _)) | with_reducible exact kept_of (HC2.out _ (Kept.h _))))))
            refine wpQuiet_loadA 46 (.tmp 5) rfl (by rfl) g rfl (AL n) HLD.out ?_
            repeat (quiet_step (first
              | (go_at_call 31; (first | with_reducible exact kept_of (HC1.out _ (Kept.h _)) | with_reducible exact kept_of (HC2.out _ (Kept.h _))))))
            refine wpQuiet_nil ?_
            intro _ hw'
            obtain ⟨p, hw''⟩ := hw'
            subst hw''
            have hO3 := hO2.keep p.h (by simp)
            have hB3 := hB2.keep p.h (by simp)
            have KK3 := KK2.trans p.h (by simp)
            go_wp2_with fail
            go_roundw
            case rel => exact ⟨j + 1, _, by omega, by omega, rfl, rfl, by rw [Nat.add_sub_cancel]; exact HST.out, by omega, hO3, hB3, KK3⟩
            case measure => simp [intOf]; omega
        · have t2 : decide (j ≤ ln) = false := by simpa using hjl
          have t2' : decide ((j : Int) ≤ (ln : Int)) = false := by simp; omega
          have hj3 : j - 1 = ln := by omega
          rw [hj3] at HQ
          obtain ⟨vq, hvq, hbq, hoq⟩ := hO2.bs.upto q q rfl (by have := HLN.out; omega)
          have HR := Lib.hid hbq
          clear hj3 hjl hbq
          go_wp2_with fail
          go_ret
          refine ⟨vq, rfl, ?_, KK2, fun x hx => (hlv x (by rw [hoq] at hx; exact hx)).1⟩
          rw [HONE.out, HLN.out, HQ.out]
          exact HR.out
end Go.Proofs.Ytlnknnmlepgjfaa
