/- Texts put together: RefFol3 RefFol4 RefFol5 RefRed RefRed2 -/
import Derived.Test.YteahcpkaagjkkaaPart19
import Derived.Test.YteahcpkaagjkkaaPart8
import Derived.Test.YteahcpkaagjkkaaPart3
import Derived.Test.YteahcpkaagjkkaaPart5
namespace Go.Proofs.Yteahcpkaagjkkaa
set_option linter.unusedVariables false
set_option linter.unusedSimpArgs false
set_option maxRecDepth 100000
open Go.ChangeShapes Go.WideShapes Go.ChangeAt Go.RowKit

set_option maxHeartbeats 4000000 in
theorem one12_c (w : World) (v : Value) (b : List UInt8) (c : UInt8) (hb : Bs w v b) (hl : b.length ≤ 1000000) : Calls Try.prog 68 #[v, .int .u8 c.toNat] w fun e w' => ∃ v', e = .returned v' ∧ Bs w' v' (one12 b c.toNat) ∧ Keep [] w w' ∧ ∀ x, v'.ownBlock = some x → w.heap.size ≤ x := by
  unfold one12
  have HBE := Lib.hid (behind12_c w v b c hb hl)
  have hn := fun x => Nat.le_trans (cnB_le 0 b c.toNat x) hl
  generalize cnB 0 b c.toNat = n at hn HBE ⊢
  have HN := Lib.hid hn; clear hn
  have hz := (zero_of_info (P := Try.prog) alInfo).1
  rw [← AL_zero] at hz
  have hz256 : (AL fun _ => 0).size = 256 := AL_size _
  generalize hZ : AL (fun _ => 0) = Z at hz hz256
  clear hZ
  go_enter Try.func68, Try.ntmps68
  go_wp2_with fail
  refine HBE.out.mono ?_; rintro e w1 ⟨rfl, k1⟩
  have hg0 := Blk.new w1 Z 113
  have KA : Keep [] w (w1.alloc (.cells Z 113)) := k1.alloc _
  obtain ⟨g, hg⟩ : ∃ g, w1.heap.size = g := ⟨_, rfl⟩
  have hgw : w.heap.size ≤ g := by rw [← hg]; exact k1.size
  rw [hg] at hg0
  have hG := hg0.setRow (AL n)
  have KG : Keep [] w ((w1.alloc (.cells Z 113)).setRow g (AL n)) := KA.trans (Keep.setRow _) (fun x hx => by simp at hx; subst hx; exact .inr hgw)
  go_wp2_with (refine wpList_storeA256 rfl _ _ rfl _ _ (by rw [← hg]; rfl) rfl _ _ hg0 hz256 ?_)
  generalize (w1.alloc (.cells Z 113)).setRow g (AL n) = w2 at hG KG ⊢
  clear hg0 KA hz hz256 hg k1
  go_wp2_with fail
  go_loopw [6, 7] (fun lv iv wr => ∃ i : Nat, i ≤ 32 ∧ iv = .int .i64 i ∧ OwnB wr lv (topF n i) ∧ Blk wr g (AL n) 113 ∧ Keep [] w wr ∧ (∀ x, lv.ownBlock = some x → w.heap.size ≤ x ∧ x ≠ g)) (fun _ iv _ => 32 - (intOf iv).toNat)
  case atStart => exact ⟨0, by omega, rfl, OwnB.nil _, hG, KG, by simp [Value.ownBlock]⟩
  case round =>
    obtain ⟨i, hi, rfl, hO, hB, KK, hlv⟩ := hrel
    have htl := topF_len n i
    have hstep : topF n (i + 1) = if 0 ≤ bk n (topF n i) 256 then topF n i ++ [UInt8.ofNat (bk n (topF n i) 256).toNat] else topF n i := rfl
    obtain ⟨L, hL⟩ : ∃ L, topF n i = L := ⟨_, rfl⟩
    rw [hL] at hO htl hstep
    have HSTEP := Lib.hid hstep; have HL := Lib.hid hL
    clear hstep hL
    by_cases hi32 : i < 32
    · have t1 : decide (i < 32) = true := by simpa using hi32
      have t1' : decide ((i : Int) < 32) = true := by simp; omega
      have hs1 : IntKind.i64.wrap ((i : Int) + 1) = ((i + 1 : Nat) : Int) := by rw [IntKind.wrap_i64]; omega
      go_wp2_with fail
      go_loopw [8, 9] (fun bv kv wx => ∃ (k : Nat) (B : Int), k ≤ 256 ∧ kv = .int .i64 k ∧ bv = .int .i64 B ∧ Hid (bk n L k = B) ∧ OwnB wx u6 L ∧ Blk wx g (AL n) 113 ∧ Keep [] w wx) (fun _ kv _ => 256 - (intOf kv).toNat)
      case atStart => exact ⟨0, -1, by omega, rfl, rfl, rfl, hO, hB, KK⟩
      case round =>
        obtain ⟨k, B, hk, rfl, rfl, HBK, hO2, hB2, KK2⟩ := hrel
        by_cases hk256 : k < 256
        · skip
          have t2 : decide (k < 256) = true := by simpa using hk256
          have t2' : decide ((k : Int) < 256) = true := by simp; omega
          have hs2 : IntKind.i64.wrap ((k : Int) + 1) = ((k + 1 : Nat) : Int) := by rw [IntKind.wrap_i64]; omega
          have hkw : IntKind.u8.wrap (k : Int) = k := by rw [IntKind.wrap_u8']; omega
          have cell := hB2.cell k _ (AL_get n k hk256)
          have hst : bk n L (k + 1) = if 0 < n k ∧ inL L k = false ∧ (bk n L k < 0 ∨ n (bk n L k).toNat < n k) then (k : Int) else bk n L k := rfl
          have hbr := bk_range n L k
          rw [HBK.out] at hst hbr
          rw [inL_atU L k hk256] at hst
          have hat := fun m => (rat12_c (wr.drewN m) u6 L (UInt8.ofNat k) (hO2.bs.keep ((Keep.refl [] wr).drewN m) (by simp))).mono fun _ _ => sameD
          have hu := (u8_of k hk256).2
          simp only [hu] at hat
          generalize atU L (UInt8.ofNat k) = at1 at hst hat
          obtain ⟨nk, hnk⟩ : ∃ nk, n k = nk := ⟨_, rfl⟩
          rw [hnk] at hst cell
          have HAT := Lib.hid hat; clear hat hu
          have tails : ∀ B' : Int, bk n L (k + 1) = B' → Hid (bk n L (k + 1) = B') := fun _ h => h
          by_cases c1 : 0 < nk
          · have q1 : decide (0 < nk) = true := by simpa using c1
            have q1' : decide ((0 : Int) < (nk : Int)) = true := by simp; omega
            by_cases c2 : at1 < 0
            · have q2 : decide (at1 < 0) = true := by simpa using c2
              have q2' : decide (0 ≤ at1) = false := by simp; omega
              rw [q2'] at hst
              by_cases c3 : B < 0
              · have q3 : decide (B < 0) = true := by simpa using c3
                have hR := tails _ (by rw [hst, if_pos ⟨c1, rfl, .inl c3⟩])
                clear hst hbr c1 c2 c3 hnk tails q2'
                go_upto_region 10 with fail
                go_quiet ((go_at_call 70; exact Calls.quiet_of (HAT.out _)))
                have hO3 := hO2.keep ((Keep.refl [] wr).drewN nq) (by simp)
                have hB3 := hB2.drewN nq
                have KK3 := KK2.drewN nq
                generalize wr.drewN nq = w9 at hO3 hB3 KK3 ⊢
                clear cell
                go_wp2_with fail
                go_roundw
                case rel => exact ⟨k + 1, _, hk256, rfl, rfl, hR, hO3, hB3, KK3⟩
                case measure => simp [intOf]; omega
              · obtain ⟨bq, rfl⟩ : ∃ bq : Nat, B = bq := ⟨B.toNat, by omega⟩
                have hbq : bq < k := by omega
                have q3 : decide ((bq : Int) < 0) = false := by simp
                have q3' : decide ((bq : Int) < (0 : Int)) = false := by simp
                have cellb := hB2.cell bq _ (AL_get n bq (by omega))
                rw [Int.toNat_natCast] at hst
                obtain ⟨nb, hnb⟩ : ∃ nb, n bq = nb := ⟨_, rfl⟩
                rw [hnb] at hst cellb
                have hbq2 : (bq : Int) < 256 := by omega
                have hbq3 : bq < 256 := by omega
                by_cases c4 : nb < nk
                · have q4 : decide (nb < nk) = true := by simpa using c4
                  have q4' : decide ((nb : Int) < (nk : Int)) = true := by simp; omega
                  have hR := tails _ (by rw [hst, if_pos ⟨c1, rfl, .inr c4⟩])
                  clear hst hbr c1 c2 c3 c4 hnk hnb tails q2'
                  go_upto_region 10 with fail
                  go_quiet ((go_at_call 70; exact Calls.quiet_of (HAT.out _)))
                  have hO3 := hO2.keep ((Keep.refl [] wr).drewN nq) (by simp)
                  have hB3 := hB2.drewN nq
                  have KK3 := KK2.drewN nq
                  generalize wr.drewN nq = w9 at hO3 hB3 KK3 ⊢
                  clear cell cellb
                  go_wp2_with fail
                  go_roundw
                  case rel => exact ⟨k + 1, _, hk256, rfl, rfl, hR, hO3, hB3, KK3⟩
                  case measure => simp [intOf]; omega
                · have q4 : decide (nb < nk) = false := by simpa using c4
                  have q4' : decide ((nb : Int) < (nk : Int)) = false := by simp; omega
                  have hR := tails _ (by rw [hst, if_neg (fun h => by rcases h.2.2 with e | e; exact c3 e; exact c4 e)])
                  clear hst hbr c1 c2 c3 c4 hnk hnb tails q2'
                  go_upto_region 10 with fail
                  go_quiet ((go_at_call 70; exact Calls.quiet_of (HAT.out _)))
                  have hO3 := hO2.keep ((Keep.refl [] wr).drewN nq) (by simp)
                  have hB3 := hB2.drewN nq
                  have KK3 := KK2.drewN nq
                  generalize wr.drewN nq = w9 at hO3 hB3 KK3 ⊢
                  clear cell cellb
                  go_wp2_with fail
                  go_roundw
                  case rel => exact ⟨k + 1, _, hk256, rfl, rfl, hR, hO3, hB3, KK3⟩
                  case measure => simp [intOf]; omega
            · have q2 : decide (at1 < 0) = false := by simpa using c2
              have q2' : decide (0 ≤ at1) = true := by simp; omega
              rw [q2'] at hst
              have hR := tails _ (by rw [hst, if_neg (fun h => by cases h.2.1)])
              clear hst hbr c1 c2 hnk tails q2'
              go_upto_region 10 with fail
              go_quiet ((go_at_call 70; exact Calls.quiet_of (HAT.out _)))
              have hO3 := hO2.keep ((Keep.refl [] wr).drewN nq) (by simp)
              have hB3 := hB2.drewN nq
              have KK3 := KK2.drewN nq
              generalize wr.drewN nq = w9 at hO3 hB3 KK3 ⊢
              clear cell
              go_wp2_with fail
              go_roundw
              case rel => exact ⟨k + 1, _, hk256, rfl, rfl, hR, hO3, hB3, KK3⟩
              case measure => simp [intOf]; omega
          · have q1 : decide (0 < nk) = false := by simpa using c1
            have q1' : decide ((0 : Int) < (nk : Int)) = false := by simp; omega
            have hR := tails _ (by rw [hst, if_neg (fun h => c1 h.1)])
            clear hst hbr c1 hnk tails
            go_upto_region 10 with fail
            go_quiet ((go_at_call 70; exact Calls.quiet_of (HAT.out _)))
            have hO3 := hO2.keep ((Keep.refl [] wr).drewN nq) (by simp)
            have hB3 := hB2.drewN nq
            have KK3 := KK2.drewN nq
            generalize wr.drewN nq = w9 at hO3 hB3 KK3 ⊢
            clear cell
            go_wp2_with fail
            go_roundw
            case rel => exact ⟨k + 1, _, hk256, rfl, rfl, hR, hO3, hB3, KK3⟩
            case measure => simp [intOf]; omega
        · have hk2 : k = 256 := by omega
          subst hk2
          have hst := HSTEP.out
          rw [HBK.out] at hst
          have hbr := bk_range n L 256
          rw [HBK.out] at hbr
          by_cases cB : 0 ≤ B
          · rw [if_pos cB] at hst
            obtain ⟨bq, rfl⟩ := Int.eq_ofNat_of_zero_le cB
            rw [Int.toNat_natCast] at hst
            have hbq : bq < 256 := by omega
            have hu := (u8_of bq hbq).2
            have q1 : decide ((0 : Int) ≤ (bq : Int)) = true := by simp
            have hbw : IntKind.u8.wrap (bq : Int) = bq := by rw [IntKind.wrap_u8']; omega
            have hN1 := Bs.new1 wr (UInt8.ofNat bq)
            rw [hu] at hN1
            have HN1 := Lib.hid hN1
            have KA := (Keep.refl [] wr).alloc (.cells #[.int .u8 (bq : Int)] 5)
            have hO3 := hO2.keep KA (by simp)
            have hB3 := hB2.keep KA (by simp)
            have hll : L.length + [UInt8.ofNat bq].length ≤ 140737488355328 := by simp; omega
            have HLL := Lib.hid hll; have HST := Lib.hid hst
            have hlt := hB2.lt
            clear hN1 hll hst hbr hu
            go_wp2_with (at_builtin; (refine wpList_appendB (.tmp 50) (.tmp 53) rfl rfl u6 L rfl hO3 _ [UInt8.ofNat bq] rfl HN1.out HLL.out ?_); (intro v3 w3 ho3 hk3 hb3 hz3))
            go_roundw
            case rel =>
              have K3 : Keep [] w w3 := (KK2.trans KA (by simp)).trans hk3 (fun z hz => .inr (hlv z (by simpa using hz)).1)
              refine ⟨i + 1, by omega, rfl, by rw [HST.out]; exact ho3, hB3.keep hk3 (fun hm => (hlv g (by simpa using hm)).2 rfl), K3, fun x hx => ?_⟩
              rcases hb3 x hx with h' | h'
              · exact hlv x h'
              · have h1 := KK2.size
                rw [h']
                exact ⟨by simp; omega, by simp; omega⟩
            case measure => simp [intOf]; omega
          · rw [if_neg cB] at hst
            have q1 : decide (0 ≤ B) = false := by simpa using cB
            have HST := Lib.hid hst
            clear hst hbr
            go_wp2_with fail
            go_roundw
            case rel => exact ⟨i + 1, by omega, rfl, by rw [HST.out]; exact hO2, hB2, KK2, hlv⟩
            case measure => simp [intOf]; omega
    · have t1 : decide (i < 32) = false := by simpa using hi32
      have t1' : decide ((i : Int) < 32) = false := by simp; omega
      have hi2 : i = 32 := by omega
      have hone : oneN n = L.take (bl n L L.length) := by unfold oneN; rw [show topF n 32 = L from by rw [← hi2]; exact HL.out]
      clear hi32 hi2
      have HONE := Lib.hid hone
      obtain ⟨aL, cL, rfl, hcL, hcL2⟩ := hO.bs.shape
      obtain ⟨ln, hln⟩ : ∃ ln, L.length = ln := ⟨_, rfl⟩
      rw [hln] at hO hcL htl hlv ⊢
      have HLN := Lib.hid hln
      clear hone hln
      go_wp2_with fail
      go_loopw [10, 11] (fun qv jv wx => ∃ (j q : Nat), 1 ≤ j ∧ j ≤ ln + 1 ∧ jv = .int .i64 j ∧ qv = .int .i64 q ∧ Hid (bl n L (j - 1) = q) ∧ q ≤ ln ∧ OwnB wx (.slice aL ln cL) L ∧ Blk wx g (AL n) 113 ∧ Keep [] w wx) (fun _ jv _ => ln + 1 - (intOf jv).toNat)
      case atStart => exact ⟨1, 0, by omega, by omega, rfl, rfl, rfl, by omega, hO, hB, KK⟩
      case round =>
        obtain ⟨j, q, hj1, hj2, rfl, rfl, HQ, hq, hO2, hB2, KK2⟩ := hrel
        by_cases hjl : j ≤ ln
        · have t2 : decide (j ≤ ln) = true := by simpa using hjl
          have t2' : decide ((j : Int) ≤ (ln : Int)) = true := by simp; omega
          have hs2 : IntKind.i64.wrap ((j : Int) + 1) = ((j + 1 : Nat) : Int) := by rw [IntKind.wrap_i64]; omega
          have hbs := hO2.bs
          have hL2 := HLN.out
          obtain ⟨va, hva, hba, -⟩ := hbs.upto j j rfl (by omega)
          obtain ⟨vb, hvb, hbb, -⟩ := hbs.upto q q rfl (by omega)
          have hst : bl n L (j - 1 + 1) = if cst n (L.take (j - 1 + 1)) 256 < cst n (L.take (bl n L (j - 1))) 256 then j - 1 + 1 else bl n L (j - 1) := rfl
          rw [HQ.out, show j - 1 + 1 = j by omega] at hst
          have HC1 := Lib.hid (fun (ww : World) (kk : Keep [] wr ww) => cost12_c ww (AL n) n va (L.take j) ⟨AL_size n, AL_get n⟩ HN.out (hba.keep kk (by simp)) (by rw [List.length_take]; omega))
          have HC2 := Lib.hid (fun (ww : World) (kk : Keep [] wr ww) => cost12_c ww (AL n) n vb (L.take q) ⟨AL_size n, AL_get n⟩ HN.out (hbb.keep kk (by simp)) (by rw [List.length_take]; omega))
          obtain ⟨k1, hk1⟩ : ∃ k1, cst n (L.take j) 256 = k1 := ⟨_, rfl⟩
          obtain ⟨k2, hk2⟩ : ∃ k2, cst n (L.take q) 256 = k2 := ⟨_, rfl⟩
          rw [hk1, hk2] at hst
          rw [hk1] at HC1
          rw [hk2] at HC2
          have HLD := Lib.hid (fun p : Kept wr => Blk.load (P := Try.prog) (hB2.keep p.h (by simp)) _ Try.underlying113 rfl (by rw [AL_size]; exact alSize))
          clear hba hbb hbs hL2 hk1 hk2
          by_cases hlt : k1 < k2
          · have q1 : decide (k1 < k2) = true := by simpa using hlt
            rw [if_pos hlt] at hst
            have HST := Lib.hid hst
            clear hst hlt
            go_upto_region 18 with fail
            refine wp_region_kept (by kernel_rfl) (by kernel_rfl) ?_
            refine wpQuiet_loadA 113 (.tmp 5) rfl (by rfl) g rfl (AL n) HLD.out ?_
            repeat (quiet_step (first
              | (go_at_call 98; (first | with_reducible exact kept_of (HC1.out _ (Kept.h _)) | with_reducible exact kept_of (HC2.out _ (Kept.h _))))))
            refine wpQuiet_loadA 113 (.tmp 5) rfl (by rfl) g rfl (AL n) HLD.out ?_
            repeat (quiet_step (first
              | (go_at_call 98; (first | with_reducible exact kept_of (HC1.out _ (Kept.h _)) | with_reducible exact kept_of (HC2.out _ (Kept.h _))))))
            refine wpQuiet_nil ?_
            intro _ hw'
            obtain ⟨p, hw''⟩ := hw'
            subst hw''
            have hO3 := hO2.keep p.h (by simp)
            have hB3 := hB2.keep p.h (by simp)
            have KK3 := KK2.trans p.h (by simp)
            go_wp2_with fail
            go_roundw
            case rel => exact ⟨j + 1, _, by omega, by omega, rfl, rfl, by rw [Nat.add_sub_cancel]; exact HST.out, by omega, hO3, hB3, KK3⟩
            case measure => simp [intOf]; omega
          · have q1 : decide (k1 < k2) = false := by simpa using hlt
            rw [if_neg hlt] at hst
            have HST := Lib.hid hst
            clear hst hlt
            go_upto_region 18 with fail
            refine wp_region_kept (by kernel_rfl) (by kernel_rfl) ?_
            refine wpQuiet_loadA 113 (.tmp 5) rfl (by rfl) g rfl (AL n) HLD.out ?_
            repeat (quiet_step (first
              | (go_at_call 98; (first | with_reducible exact kept_of (HC1.out _ (Kept.h _)) | with_reducible exact kept_of (HC2.out _ (Kept.h _))))))
            refine wpQuiet_loadA 113 (.tmp 5) rfl (by rfl) g rfl (AL n) HLD.out ?_
            repeat (quiet_step (first
              | (go_at_call 98; (first | with_reducible exact kept_of (HC1.out _ (Kept.h _)) | with_reducible exact kept_of (HC2.out _ (Kept.h _))))))
            refine wpQuiet_nil ?_
            intro _ hw'
            obtain ⟨p, hw''⟩ := hw'
            subst hw''
            have hO3 := hO2.keep p.h (by simp)
            have hB3 := hB2.keep p.h (by simp)
            have KK3 := KK2.trans p.h (by simp)
            go_wp2_with fail
            go_roundw
            case rel => exact ⟨j + 1, _, by omega, by omega, rfl, rfl, by rw [Nat.add_sub_cancel]; exact HST.out, by omega, hO3, hB3, KK3⟩
            case measure => simp [intOf]; omega
        · have t2 : decide (j ≤ ln) = false := by simpa using hjl
          have t2' : decide ((j : Int) ≤ (ln : Int)) = false := by simp; omega
          have hj3 : j - 1 = ln := by omega
          rw [hj3] at HQ
          obtain ⟨vq, hvq, hbq, hoq⟩ := hO2.bs.upto q q rfl (by have := HLN.out; omega)
          have HR := Lib.hid hbq
          clear hj3 hjl hbq
          go_wp2_with fail
          go_ret
          refine ⟨vq, rfl, ?_, KK2, fun x hx => (hlv x (by rw [hoq] at hx; exact hx)).1⟩
          rw [HONE.out, HLN.out, HQ.out]
          exact HR.out
end Go.Proofs.Yteahcpkaagjkkaa
namespace Go.Proofs.Yteahcpkaagjkkaa
set_option linter.unusedVariables false
set_option linter.unusedSimpArgs false
set_option maxRecDepth 100000
open Go.ChangeShapes Go.WideShapes Go.ChangeAt Go.RowKit

/-- cells of 256 slices that hold the bytes f -/
def SC (w : World) (cs : Array Value) (f : Nat → List UInt8) : Prop := cs.size = 256 ∧ ∀ c, c < 256 → ∃ v, cs[c]? = some v ∧ Bs w v (f c)
/-- sets as a value -/
def SV (w : World) (V : Value) (f : Nat → List UInt8) : Prop := ∃ cs, V = .agg cs ∧ SC w cs f
theorem SC.keep {w w' : World} {cs : Array Value} {f : Nat → List UInt8} (h : SC w cs f) (k : Keep [] w w') : SC w' cs f :=
  ⟨h.1, fun c hc => by obtain ⟨v, h1, h2⟩ := h.2 c hc; exact ⟨v, h1, h2.keep k (by simp)⟩⟩
theorem SV.keep {w w' : World} {V : Value} {f : Nat → List UInt8} (h : SV w V f) (k : Keep [] w w') : SV w' V f := by
  obtain ⟨cs, rfl, h⟩ := h; exact ⟨cs, rfl, h.keep k⟩
theorem SC.one {w : World} {cs : Array Value} {f : Nat → List UInt8} (h : SC w cs f) : ∀ v ∈ cs.toList, v.oneCell' = true := by
  intro v hv
  obtain ⟨i, hi, rfl⟩ := List.getElem_of_mem hv
  have hi2 : i < 256 := by have := h.1; simp at hi; omega
  obtain ⟨v, h1, h2⟩ := h.2 i hi2
  obtain ⟨a, cp, rfl, _⟩ := h2.shape
  have : cs.toList[i] = .slice a (f i).length cp := by
    have := Array.getElem?_eq_some_iff.1 h1
    simpa using this.2
  rw [this]; rfl
/-- sets in the block q -/
def SB (w : World) (q : Nat) (t : TypeId) (f : Nat → List UInt8) : Prop := ∃ cs, Blk w q cs t ∧ cs.size = 256 ∧ ∀ c, c < 256 → ∃ v, cs[c]? = some v ∧ Bs w v (f c) ∧ (f c ≠ [] → ∀ x, v.ownBlock = some x → x ≠ q)
theorem SB.keep {w w' : World} {q : Nat} {t : TypeId} {f : Nat → List UInt8} (h : SB w q t f) (k : Keep [] w w') : SB w' q t f := by
  obtain ⟨cs, h1, h2, h3⟩ := h
  refine ⟨cs, h1.keep k (by simp), h2, fun c hc => ?_⟩
  obtain ⟨v, a, b, d⟩ := h3 c hc
  exact ⟨v, a, b.keep k (by simp), d⟩
theorem SB.lt {w : World} {q : Nat} {t : TypeId} {f : Nat → List UInt8} (h : SB w q t f) : q < w.heap.size := by
  obtain ⟨cs, h1, _⟩ := h; exact h1.lt
theorem SB.cell {w : World} {q : Nat} {t : TypeId} {f : Nat → List UInt8} (h : SB w q t f) (c : Nat) (hc : c < 256) : ∃ a cp, w.cell? ⟨q, c, none⟩ = some (.slice a (f c).length cp) ∧ Bs w (.slice a (f c).length cp) (f c) := by
  obtain ⟨cs, h1, h2, h3⟩ := h
  obtain ⟨v, a, b, d⟩ := h3 c hc
  obtain ⟨ad, cp, rfl, _⟩ := b.shape
  exact ⟨ad, cp, h1.cell c _ a, b⟩
theorem SB.free {w : World} {q : Nat} {t : TypeId} {f : Nat → List UInt8} (h : SB w q t f) (c : Nat) : w.frozen? ⟨q, c, none⟩ = false := by
  obtain ⟨cs, h1, _⟩ := h; exact h1.free c
theorem SB.set {w : World} {q : Nat} {t : TypeId} {f : Nat → List UInt8} (h : SB w q t f) (c : Nat) (hc : c < 256) (v : Value) (l : List UInt8) (hv : Bs w v l) (hq : l ≠ [] → ∀ x, v.ownBlock = some x → x ≠ q) : SB (w.setCell ⟨q, c, none⟩ v) q t (fun i => if i = c then l else f i) := by
  obtain ⟨cs, h1, h2, h3⟩ := h
  have KC : Keep [q] w (w.setCell ⟨q, c, none⟩ v) := (Keep.refl [q] w).setCell (by simp) _
  refine ⟨_, h1.set c v, by simp [h2], fun i hi => ?_⟩
  rw [Array.getElem?_setIfInBounds, h2]
  by_cases e : i = c
  · subst e
    rw [if_pos rfl, if_pos hc]
    exact ⟨v, rfl, by show Bs _ v (if i = i then l else f i); rw [if_pos rfl]; exact hv.keep' KC (by simpa using hq), fun hne => hq (by simpa using hne)⟩
  · rw [if_neg (fun h => e h.symm)]
    obtain ⟨u, a, b, d⟩ := h3 i hi
    exact ⟨u, a, by show Bs _ u (if i = c then l else f i); rw [if_neg e]; exact b.keep' KC (by simpa using d), fun hne => d (by simpa [e] using hne)⟩
theorem SB.congr {w : World} {q : Nat} {t : TypeId} {f f' : Nat → List UInt8} (h : SB w q t f) (e : ∀ c, c < 256 → f c = f' c) : SB w q t f' := by
  obtain ⟨cs, h1, h2, h3⟩ := h
  exact ⟨cs, h1, h2, fun c hc => by rw [← e c hc]; exact h3 c hc⟩
/-- sets without followers -/
def zset : Array Value := Array.replicate 256 (.slice none 0 0)
theorem setsInfo : (Try.prog.info? 94).map (fun i => (i.zero, i.size)) = some (some (.agg zset), 256) := by kernel_rfl
theorem SB.zero {w : World} {q : Nat} {t : TypeId} (h : Blk w q zset t) : SB w q t (fun _ => []) := by
  refine ⟨zset, h, by simp [zset], fun c hc => ⟨.slice none 0 0, ?_, Bs.nil _, by simp [Value.ownBlock]⟩⟩
  simp [zset, hc]
end Go.Proofs.Yteahcpkaagjkkaa
namespace Go.Proofs.Yteahcpkaagjkkaa
set_option linter.unusedVariables false
set_option linter.unusedSimpArgs false
set_option maxRecDepth 100000
open Go.ChangeShapes Go.WideShapes Go.ChangeAt Go.RowKit

/-- the sets of the bytes that came -/
def bstK (b : List UInt8) (k : Nat) (c : Nat) : List UInt8 := if c = 0 ∨ (∃ a ∈ b.take k, a.toNat = c) then one12 b c else []
theorem bstK_all (b : List UInt8) (c : Nat) : bstK b b.length c = one12 b c := by
  unfold bstK
  rw [List.take_length]
  by_cases h : c = 0 ∨ (∃ a ∈ b, a.toNat = c)
  · rw [if_pos h]
  · rw [if_neg h]
    exact (one12_none b c (fun e => h (.inl e)) (fun a ha e => h (.inr ⟨a, ha, e⟩))).symm
theorem bstK_step (b : List UInt8) (k : Nat) (hk : k < b.length) (c : Nat) : bstK b (k + 1) c = if c = b[k].toNat then one12 b c else bstK b k c := by
  unfold bstK
  have ht : b.take (k + 1) = b.take k ++ [b[k]] := List.take_succ_eq_append_getElem hk
  rw [ht]
  by_cases e : c = b[k].toNat
  · rw [if_pos e, if_pos (.inr ⟨b[k], List.mem_append.2 (.inr (List.mem_singleton.2 rfl)), e.symm⟩)]
  · rw [if_neg e]
    by_cases h : c = 0 ∨ (∃ a ∈ b.take k, a.toNat = c)
    · rw [if_pos h, if_pos]
      rcases h with h | ⟨a, ha, hac⟩
      · exact .inl h
      · exact .inr ⟨a, List.mem_append.2 (.inl ha), hac⟩
    · rw [if_neg h, if_neg]
      rintro (h' | ⟨a, ha, hac⟩)
      · exact h (.inl h')
      · rcases List.mem_append.1 ha with ha | ha
        · exact h (.inr ⟨a, ha, hac⟩)
        · simp at ha; subst ha; exact e hac.symm
theorem bstK_zero (b : List UInt8) (k : Nat) : bstK b k 0 = one12 b 0 := by unfold bstK; rw [if_pos (.inl rfl)]
theorem bstK_one (b : List UInt8) (k c : Nat) (h : bstK b k c ≠ []) : bstK b k c = one12 b c := by
  unfold bstK at h ⊢
  split
  · rfl
  · rename_i e; rw [if_neg e] at h; exact absurd rfl h
set_option maxHeartbeats 4000000 in
theorem best12_c (w : World) (v : Value) (b : List UInt8) (hb : Bs w v b) (hl : b.length ≤ 1000000) : Calls Try.prog 35 #[v] w fun e w' => ∃ q, e = .returned (.pointer (some ⟨q, 0, none⟩)) ∧ SB w' q 94 (one12 b) ∧ Keep [] w w' := by
  have hz := (zero_of_info (P := Try.prog) setsInfo).1
  generalize hZ : zset = Z at hz
  have HZ := Lib.hid hZ; clear hZ
  have HB := Lib.hid hb
  obtain ⟨a, cp, rfl, _, _⟩ := hb.shape
  have HO := Lib.hid (fun (w' : World) (k : Keep [] w w') (c : UInt8) => one12_c w' _ b c (hb.keep k (by simp)) hl)
  clear hb
  go_enter Try.func35, Try.ntmps35
  go_wp2_with fail
  have KA : Keep [] w (w.alloc (.cells Z 94)) := (Keep.refl [] w).alloc _
  have hS : SB (w.alloc (.cells Z 94)) w.heap.size 94 (fun _ => []) := by
    refine SB.zero ?_
    rw [HZ.out]; exact Blk.new _ _ _
  obtain ⟨q, hq⟩ : ∃ q, w.heap.size = q := ⟨_, rfl⟩
  have HQ := Lib.hid hq
  rw [hq] at hS ⊢
  clear hq
  generalize w.alloc (.cells Z 94) = w1 at KA hS ⊢
  have hqlt := hS.lt
  go_upto_region 2 with fail
  go_cut [] (fun wx => SB wx q 94 (bstK b 0) ∧ Keep [] w wx)
  case first =>
    have HC := Lib.hid (HO.out w1.drew KA.drew 0)
    have h0 : ((0 : UInt8).toNat : Int) = 0 := rfl
    have S1 := hS.keep ((Keep.refl [] w1).drew)
    go_region_with (first | (go_at_call 68; (refine HC.out.mono ?_); (rintro e w3 ⟨v3, rfl, hb3, k3, o3⟩); (have S3 := S1.keep k3); (obtain ⟨a3, c3, rfl, _⟩ := hb3.shape); (obtain ⟨a0, cp0, cell0, _⟩ := S3.cell 0 (by decide)); (have ff := S3.free 0)))
    all_goals
      have S4 := S3.set 0 (by decide) _ _ hb3 (fun _ x hx => by have := o3 x hx; simp at this; omega)
      have K4 : Keep [] w (w3.setCell ⟨q, 0, none⟩ (.slice a3 (one12 b (0 : UInt8).toNat).length c3)) := (KA.drew.trans k3 (by simp)).setCell (.inr (by have := HQ.out; simp; omega)) _
      have SF := S4.congr (f' := bstK b 0) (fun c hc => by
        unfold bstK
        by_cases e : c = 0
        · subst e; simp
        · rw [if_neg e, if_neg (by simp [e])])
      have HSF := Lib.hid SF
      clear SF S4
      go_wp2_with fail
      go_meet
      exact ⟨by first | exact HSF.out | exact HSF.out.keep ((Keep.refl [] _).drew), by first | exact K4 | exact K4.drew⟩
  case rest =>
    obtain ⟨hS0, K0⟩ := hcut
    generalize wc = w2 at *
    clear hS KA
    go_wp2_with fail
    go_loopw [4] (fun iv wr => ∃ k : Nat, k ≤ b.length ∧ iv = .int .i64 k ∧ SB wr q 94 (bstK b k) ∧ Keep [] w wr) (fun iv _ => b.length - (intOf iv).toNat)
    case atStart => exact ⟨0, by omega, rfl, hS0, K0⟩
    case round =>
      obtain ⟨k, hk, rfl, hS, KK⟩ := hrel
      by_cases hx : k < b.length
      · have t1 : decide (k < b.length) = true := by simpa using hx
        have hs : IntKind.i64.wrap ((k : Int) + 1) = ((k + 1 : Nat) : Int) := by rw [IntKind.wrap_i64]; omega
        obtain ⟨b0, o0, c0, e0, cellb⟩ := (HB.out.keep KK (by simp)).spot k hx
        obtain ⟨rfl, -⟩ : a = some ⟨b0, o0, none⟩ ∧ cp = c0 := by simpa using e0
        clear e0
        have hstep := bstK_step b k hx
        obtain ⟨y, hy⟩ : ∃ y, b[k] = y := ⟨_, rfl⟩
        rw [hy] at cellb hstep
        have HST := Lib.hid hstep
        have hy9 : y.toNat < 256 := y.toNat_lt
        have hy10 : (y.toNat : Int) < 256 := by omega
        clear hstep hy
        by_cases hy0 : y.toNat = 0
        · have q1 : decide (0 < y.toNat) = false := by simp; omega
          have q1' : decide ((0 : Int) < (y.toNat : Int)) = false := by simp; omega
          have hS2 := hS.congr (f' := bstK b (k + 1)) (fun c hc => by
            rw [HST.out]
            by_cases e : c = y.toNat
            · rw [if_pos e, e, hy0, bstK_zero]
            · rw [if_neg e])
          clear hy0
          go_upto_region 6 with fail
          go_quiet (fail)
          go_wp2_with fail
          go_roundw
          case rel => exact ⟨k + 1, by omega, rfl, hS2.keep ((Keep.refl [] _).drewN _), KK.drewN _⟩
          case measure => simp [intOf]; omega
        · have q1 : decide (0 < y.toNat) = true := by simp; omega
          have q1' : decide ((0 : Int) < (y.toNat : Int)) = true := by simp; omega
          obtain ⟨ad, cpd, cells, _⟩ := hS.cell y.toNat hy9
          obtain ⟨m, hm⟩ : ∃ m, (bstK b k y.toNat).length = m := ⟨_, rfl⟩
          rw [hm] at cells
          by_cases hm0 : m = 0
          · have q2 : ((m : Int) == 0) = true := by simp; omega
            have q2' : (m == 0) = true := by simp; omega
            clear hy0 hm hm0
            go_upto_region 6 with fail
            go_quiet (fail)
            have hS2 := hS.keep ((Keep.refl [] wr).drewN nq)
            have KK2 := KK.drewN nq
            have cellb2 : (wr.drewN nq).cell? ⟨b0, o0 + k, none⟩ = some (.int .u8 y.toNat) := cellb
            generalize wr.drewN nq = w5 at hS2 KK2 cellb2 ⊢
            clear hS KK cellb cells
            have HC := Lib.hid (HO.out w5.drew KK2.drew y)
            have S1 := hS2.keep ((Keep.refl [] w5).drew)
            have cellb3 : w5.drew.cell? ⟨b0, o0 + k, none⟩ = some (.int .u8 y.toNat) := cellb2
            have hb0 : b0 < w.heap.size := HB.out.lt (by intro e; rw [e] at hx; simp at hx) b0 rfl
            go_wp2_with fail
            go_upto_region 7 with fail
            go_region_with (first | (go_at_call 68; (refine HC.out.mono ?_); (rintro e w3 ⟨v3, rfl, hb3, k3, o3⟩); (have S3 := S1.keep k3); (have cellb4 := k3.cell cellb3 (by simp)); (obtain ⟨a3, c3, rfl, _⟩ := hb3.shape); (obtain ⟨a0, cp0, cell0, _⟩ := S3.cell y.toNat hy9); (have ff := S3.free y.toNat)))
            all_goals
              have S4 := S3.set y.toNat hy9 _ _ hb3 (fun _ x hx => by have := o3 x hx; have := hS2.lt; simp at *; omega)
              have K4 : Keep [] w (w3.setCell ⟨q, y.toNat, none⟩ (.slice a3 (one12 b y.toNat).length c3)) := (KK2.drew.trans k3 (by simp)).setCell (.inr (by have := HQ.out; simp; omega)) _
              have SF := S4.congr (f' := bstK b (k + 1)) (fun c hc => by
                rw [HST.out]
                by_cases e : c = y.toNat
                · subst e; simp
                · rw [if_neg e, if_neg e])
              have HSF := Lib.hid SF
              clear SF S4
              go_wp2_with fail
              go_roundw
              case rel => exact ⟨k + 1, by omega, rfl, by first | exact HSF.out | exact HSF.out.keep ((Keep.refl [] _).drew), by first | exact K4 | exact K4.drew⟩
              case measure => simp [intOf]; omega
          · have q2 : ((m : Int) == 0) = false := by simp; omega
            have q2' : (m == 0) = false := by simp; omega
            have hS2 := hS.congr (f' := bstK b (k + 1)) (fun c hc => by
              rw [HST.out]
              by_cases e : c = y.toNat
              · rw [if_pos e, e]
                exact bstK_one b k _ (by intro h; rw [h] at hm; simp at hm; omega)
              · rw [if_neg e])
            clear hy0 hm hm0
            go_upto_region 6 with fail
            go_quiet (fail)
            go_wp2_with fail
            go_roundw
            case rel => exact ⟨k + 1, by omega, rfl, hS2.keep ((Keep.refl [] _).drewN _), KK.drewN _⟩
            case measure => simp [intOf]; omega
      · have t1 : decide (k < b.length) = false := by simpa using hx
        have hk2 : k = b.length := by omega
        have HK := Lib.hid hk2
        clear hx hk2
        go_wp2_with fail
        go_ret
        exact ⟨q, rfl, hS.congr (fun c hc => by rw [HK.out, bstK_all]), KK⟩
end Go.Proofs.Yteahcpkaagjkkaa
namespace Go.Proofs.Yteahcpkaagjkkaa
set_option linter.unusedVariables false
set_option linter.unusedSimpArgs false
set_option maxRecDepth 100000
open Go.ChangeShapes Go.WideShapes Go.ChangeAt Go.RowKit

/-- sets in the block q; neither it nor any follower lies in the blocks S -/
def SBo (w : World) (q : Nat) (t : TypeId) (f : Nat → List UInt8) (S : List Nat) : Prop := ∃ cs, Blk w q cs t ∧ cs.size = 256 ∧ q ∉ S ∧ ∀ c, c < 256 → ∃ v, cs[c]? = some v ∧ Bs w v (f c) ∧ (f c ≠ [] → ∀ x, v.ownBlock = some x → x ∉ S)
theorem SBo.keep {w w' : World} {q : Nat} {t : TypeId} {f : Nat → List UInt8} {S : List Nat} (h : SBo w q t f S) (k : Keep S w w') : SBo w' q t f S := by
  obtain ⟨cs, h1, h2, h3, h4⟩ := h
  refine ⟨cs, h1.keep k h3, h2, h3, fun c hc => ?_⟩
  obtain ⟨v, a, b, d⟩ := h4 c hc
  exact ⟨v, a, b.keep' k d, d⟩
theorem SBo.lt {w : World} {q : Nat} {t : TypeId} {f : Nat → List UInt8} {S : List Nat} (h : SBo w q t f S) : q < w.heap.size := by
  obtain ⟨cs, h1, _⟩ := h; exact h1.lt
/-- blocks that came up later are none of the sets' -/
theorem SBo.more {w : World} {q : Nat} {t : TypeId} {f : Nat → List UInt8} {S S' : List Nat} (h : SBo w q t f S) (hs : ∀ x ∈ S', x ∈ S ∨ w.heap.size ≤ x) : SBo w q t f S' := by
  obtain ⟨cs, h1, h2, h3, h4⟩ := h
  refine ⟨cs, h1, h2, fun hm => ?_, fun c hc => ?_⟩
  · rcases hs q hm with h | h
    · exact h3 h
    · have := h1.lt; omega
  · obtain ⟨v, a, b, d⟩ := h4 c hc
    refine ⟨v, a, b, fun hne x hx hm => ?_⟩
    rcases hs x hm with h | h
    · exact d hne x hx h
    · have := b.lt hne x hx; omega
theorem SB.off {w : World} {q : Nat} {t : TypeId} {f : Nat → List UInt8} {S : List Nat} (h : SB w q t f) (hs : ∀ x ∈ S, w.heap.size ≤ x) : SBo w q t f S := by
  obtain ⟨cs, h1, h2, h3⟩ := h
  refine ⟨cs, h1, h2, fun hm => by have := hs q hm; have := h1.lt; omega, fun c hc => ?_⟩
  obtain ⟨v, a, b, d⟩ := h3 c hc
  exact ⟨v, a, b, fun hne x hx hm => by have := hs x hm; have := b.lt hne x hx; omega⟩
theorem SBo.cell {w : World} {q : Nat} {t : TypeId} {f : Nat → List UInt8} {S : List Nat} (h : SBo w q t f S) (c : Nat) (hc : c < 256) : ∃ v, w.cell? ⟨q, c, none⟩ = some v ∧ Bs w v (f c) ∧ (f c ≠ [] → ∀ x, v.ownBlock = some x → x ∉ S) := by
  obtain ⟨cs, h1, h2, h3, h4⟩ := h
  obtain ⟨v, a, b, d⟩ := h4 c hc
  exact ⟨v, h1.cell c _ a, b, d⟩
theorem rcut12_c (w : World) (v : Value) (l : List UInt8) (h : Bs w v l) : Calls Try.prog 51 #[v] w fun e w' => ∃ v', e = .returned v' ∧ Bs w v' (l.take 32) ∧ v'.ownBlock = v.ownBlock ∧ w = w' := by
  have HC := Lib.hid (cut_c w v l 32 (by decide) h)
  go_enter Try.func51, Try.ntmps51
  go_wp2_with fail
  refine HC.out.mono ?_; rintro e w1 ⟨v1, rfl, h1, h2, rfl⟩
  go_wp2_with fail
  go_ret
  exact ⟨v1, rfl, h1, h2, rfl⟩
theorem cln_nat (n : Nat) (h : n ≤ 32) : cln (n : Int) = n := by unfold cln; omega
set_option maxHeartbeats 4000000 in
theorem refput12_c (w : World) (r : Nat) (v : Value) (bs : List Bool) (q : Nat) (s : Nat → List UInt8) (S : List Nat) (p c : UInt8) (H : Rw w r v bs) (hS : SBo w q 94 s S) (hl : bs.length ≤ 140737488354000) :
    Calls Try.prog 37 #[.pointer (some ⟨r, 0, none⟩), .pointer (some ⟨q, 0, none⟩), .int .u8 p.toNat, .int .u8 c.toNat] w fun e w' => e = .returned (.tuple #[]) ∧ RwTo w w' r v (bs ++ fput (s p.toNat) c) := by
  obtain ⟨P, hP⟩ : ∃ P, p.toNat = P := ⟨_, rfl⟩
  have hp9 : P < 256 := by have := p.toNat_lt; omega
  have hp10 : (P : Int) < 256 := by omega
  rw [hP]
  clear hP
  obtain ⟨vp, cell, hbp, _⟩ := hS.cell P hp9
  unfold fput
  generalize s P = l at hbp ⊢
  obtain ⟨L, hL⟩ : ∃ L, l.take 32 = L := ⟨_, rfl⟩
  have hL32 : L.length ≤ 32 := by rw [← hL, List.length_take]; omega
  have HCN := Lib.hid (rcut12_c w vp l hbp)
  rw [hL] at HCN ⊢
  obtain ⟨X, hX⟩ : ∃ X, (if L.length = 0 then bitsOf c.toNat 8 else if 0 ≤ atU L c then bitsOf 0 1 ++ bitsOf (atU L c).toNat (widthN L.length) else bitsOf 1 1 ++ bitsOf c.toNat 8) = X := ⟨_, rfl⟩
  have HX := Lib.hid hX
  rw [hX]
  have hcu : IntKind.u32.wrap (c.toNat : Int) = c.toNat := by have := c.toNat_lt; simp [IntKind.wrap, IntKind.bits, IntKind.signed]; omega
  have hc9 : c.toNat < 4294967296 := by have := c.toNat_lt; omega
  have HW := Lib.hid H
  obtain ⟨av, cpv, rfl, _⟩ := hbp.shape
  clear hX hL hbp hS H
  go_enter Try.func37, Try.ntmps37
  go_wp2_with fail
  refine HCN.out.mono ?_; rintro e w1 ⟨v2, rfl, hb2, -, rfl⟩
  have HAT := Lib.hid (rat12_c w v2 L c hb2)
  obtain ⟨a2, c2, rfl, _⟩ := hb2.shape
  clear HCN cell hb2
  go_wp2_with fail
  refine HAT.out.mono ?_; rintro e w1 ⟨rfl, rfl⟩
  clear HAT
  by_cases h0 : L.length = 0
  · have z1 : decide (0 < L.length) = false := by rw [h0]; rfl
    have z1' : decide ((0 : Int) < (L.length : Int)) = false := by rw [h0]; rfl
    have HX2 : Hid (bitsOf c.toNat 8 = X) := by rw [← HX.out, if_pos h0]; rfl
    have HP := Lib.hid (rput_c w r v bs c.toNat 8 hc9 HW.out (by omega))
    clear HX h0
    generalize atU L c = z
    go_wp2_with fail
    refine HP.out.mono ?_; rintro e w3 ⟨rfl, h3⟩
    go_wp2_with fail
    go_end0
    exact ⟨rfl, by rw [← HX2.out]; exact h3⟩
  · have z1 : decide (0 < L.length) = true := by simp; omega
    have z1' : decide ((0 : Int) < (L.length : Int)) = true := by simp; omega
    by_cases hat : 0 ≤ atU L c
    · have HX2 : Hid ((bitsOf 0 1 ++ bitsOf (atU L c).toNat (widthN L.length)) = X) := by rw [← HX.out, if_neg h0, if_pos hat]; rfl
      have hlt : (atU L c).toNat < L.length := by
        have hh := hat
        unfold atU at hh ⊢
        cases e : L.findIdx? (· == c) with
        | none => rw [e] at hh; exact absurd hh (by decide)
        | some i =>
          rw [List.findIdx?_eq_some_iff_getElem] at e
          simpa using e.1
      obtain ⟨k, hk⟩ : ∃ k : Nat, atU L c = (k : Int) := ⟨(atU L c).toNat, by omega⟩
      rw [hk] at hlt HX2 ⊢
      rw [Int.toNat_natCast] at hlt HX2
      have hkd : decide ((0 : Int) ≤ (k : Int)) = true := by simp
      have hku : IntKind.u32.wrap (k : Int) = k := by simp [IntKind.wrap, IntKind.bits, IntKind.signed]; omega
      have HP := Lib.hid (rput_c w r v bs 0 1 (by decide) HW.out (by omega))
      have HWD := Lib.hid (fun w => width_c w L.length (by omega))
      have hW5 := widthN_le L.length
      generalize widthN L.length = W at HWD hW5 HX2
      clear hat hk h0 HX
      go_wp2_with fail
      refine HP.out.mono ?_; rintro e w3 ⟨rfl, v3, h3, k3, b3⟩
      have HP3 := Lib.hid (rput_c w3 r v3 _ k (W : Int) (by omega) h3 (by rw [List.length_append, bitsOf_length]; have : cln 1 = 1 := rfl; omega))
      have K3 := Lib.hid k3
      have B3 := Lib.hid b3
      clear h3 k3 b3 HP
      go_wp2_with fail
      refine (HWD.out _).mono ?_; rintro e w4 ⟨rfl, rfl⟩
      go_wp2_with fail
      refine HP3.out.mono ?_; rintro e w5 ⟨rfl, h5⟩
      rw [cln_nat W (by omega), List.append_assoc] at h5
      go_wp2_with fail
      refine bodyPost_ret (results_none rfl _ _ _) rfl ?_
      exact ⟨rfl, by rw [← HX2.out]; exact RwTo.trans K3.out B3.out h5⟩
    · have HX2 : Hid ((bitsOf 1 1 ++ bitsOf c.toNat 8) = X) := by rw [← HX.out, if_neg h0, if_neg hat]; rfl
      obtain ⟨z, hz⟩ : ∃ z, atU L c = z := ⟨_, rfl⟩
      rw [hz] at hat ⊢
      have hzd : decide ((0 : Int) ≤ z) = false := by simp; omega
      have HP := Lib.hid (rput_c w r v bs 1 1 (by decide) HW.out (by omega))
      clear hat hz h0 HX
      go_wp2_with fail
      refine HP.out.mono ?_; rintro e w3 ⟨rfl, v3, h3, k3, b3⟩
      have HP3 := Lib.hid (rput_c w3 r v3 _ c.toNat 8 hc9 h3 (by rw [List.length_append, bitsOf_length]; have : cln 1 = 1 := rfl; omega))
      have K3 := Lib.hid k3
      have B3 := Lib.hid b3
      clear h3 k3 b3 HP
      go_wp2_with fail
      refine HP3.out.mono ?_; rintro e w5 ⟨rfl, h5⟩
      rw [List.append_assoc] at h5
      go_wp2_with fail
      go_end0
      exact ⟨rfl, by rw [← HX2.out]; exact RwTo.trans K3.out B3.out h5⟩
end Go.Proofs.Yteahcpkaagjkkaa
namespace Go.Proofs.Yteahcpkaagjkkaa
set_option linter.unusedVariables false
set_option linter.unusedSimpArgs false
set_option maxRecDepth 100000
open Go.ChangeShapes Go.WideShapes Go.ChangeAt Go.RowKit

theorem SBo.cellW {w wr : World} {q : Nat} {t : TypeId} {f : Nat → List UInt8} {S : List Nat} (h : SBo w q t f S) (k : Keep S w wr) (c : Nat) (hc : c < 256) : ∃ v, wr.cell? ⟨q, c, none⟩ = some v ∧ Bs wr v (f c) ∧ (f c ≠ [] → ∀ x, v.ownBlock = some x → x ∉ S ∧ x < w.heap.size) := by
  obtain ⟨cs, h1, h2, h3, h4⟩ := h
  obtain ⟨v, a, b, d⟩ := h4 c hc
  exact ⟨v, (h1.keep k h3).cell c _ a, b.keep' k d, fun hne x hx => ⟨d hne x hx, b.lt hne x hx⟩⟩
set_option maxHeartbeats 4000000 in
theorem refputsets12_c (w : World) (r : Nat) (v : Value) (bs : List Bool) (q : Nat) (s : Nat → List UInt8) (H : Rw w r v bs) (hS : SBo w q 94 s (r :: v.ownBlock.toList)) (hl : bs.length ≤ 140737488200000) :
    Calls Try.prog 36 #[.pointer (some ⟨r, 0, none⟩), .pointer (some ⟨q, 0, none⟩)] w fun e w' => e = .returned (.tuple #[]) ∧ RwTo w w' r v (bs ++ fss s 256) := by
  obtain ⟨M, hM⟩ : ∃ M, M = 256 := ⟨_, rfl⟩
  obtain ⟨F, hF⟩ : ∃ F, fss s 256 = F := ⟨_, rfl⟩
  have hFl : F.length ≤ 262 * 256 := by rw [← hF]; exact fss_le s 256
  have hF0 : fss s 256 = F := hF
  rw [← hM] at hF0
  have HF := Lib.hid hF0
  rw [hF]
  clear hF hF0
  have HS := Lib.hid hS; clear hS
  go_enter Try.func36, Try.ntmps36
  go_wp2_with fail
  go_loopw [4] (fun iv wr => ∃ (m : Nat) (A : List Bool), m ≤ 256 ∧ iv = .int .i64 ((m : Int) - 1) ∧ Hid (F = A ++ fss s m) ∧ A.length ≤ F.length ∧ RwTo w wr r v (bs ++ A)) (fun iv _ => ((intOf iv) + 1).toNat)
  case atStart => exact ⟨256, [], by omega, rfl, by unfold Hid; rw [List.nil_append, ← hM]; exact HF.out.symm, Nat.zero_le _, by rw [List.append_nil]; exact RwTo.refl H⟩
  case round =>
    obtain ⟨m, A, hm, rfl, HA, hAl, HR⟩ := hrel
    cases m with
    | zero =>
      have e : (((0 : Nat) : Int) - 1) = -1 := rfl
      rw [e]
      have hA2 := HA.out
      rw [fss, List.append_nil] at hA2
      have HA2 := Lib.hid hA2
      clear HA hA2
      go_wp2_with fail
      go_end0
      exact ⟨rfl, by rw [HA2.out]; exact HR⟩
    | succ c =>
      obtain ⟨wo, rfl⟩ : ∃ wo, wo = wr := ⟨_, rfl⟩
      have e : (((c + 1 : Nat) : Int) - 1) = (c : Int) := by omega
      rw [e]
      have q0 : decide ((0 : Int) ≤ (c : Int)) = true := by simp
      have hc1 : (c : Int) < 256 := by omega
      have hc2 : c < 256 := by omega
      have hs1 : IntKind.i64.wrap ((c : Int) - 1) = (c : Int) - 1 := by rw [IntKind.wrap_i64]; omega
      obtain ⟨vw, hw1, hk1, hb1⟩ := HR
      obtain ⟨vc, cell, hbc, hno⟩ := HS.out.cellW hk1 c hc2
      have hA2 := HA.out
      rw [fss] at hA2
      have HCN := Lib.hid (rcut12_c wo vc (s c) hbc)
      have hnl : (s c).take 32 ≠ [] → ∀ x, vc.ownBlock = some x → x ∉ r :: vw.ownBlock.toList := fun hne x hx hm => by
        obtain ⟨n1, n2⟩ := hno (fun e => hne (by rw [e]; rfl)) x hx
        rcases List.mem_cons.1 hm with h | h
        · exact n1 (by rw [h]; simp)
        · rcases hb1 x (by simpa using h) with h2 | h2
          · exact n1 (by simp [h2])
          · omega
      obtain ⟨L, hL⟩ : ∃ L, (s c).take 32 = L := ⟨_, rfl⟩
      have hL32 : L.length ≤ 32 := by rw [← hL, List.length_take]; omega
      rw [hL] at HCN hA2 hnl
      have HA2 := Lib.hid hA2
      have HNO := Lib.hid hnl
      obtain ⟨av, cpv, rfl, _⟩ := hbc.shape
      clear hA2 HA hbc hno hL hnl
      have hAF : A.length + (6 + 8 * L.length) ≤ F.length := by
        have := congrArg List.length HA2.out
        simp only [List.length_append, bitsOf_length, flat8_len] at this
        omega
      go_wp2_with fail
      refine HCN.out.mono ?_; rintro e w1 ⟨v2, rfl, hb2, ho2, rfl⟩
      have HB2 := Lib.hid (show ∀ ww, Keep (r :: vw.ownBlock.toList) wo ww → ∀ k (hk : k < L.length), ∃ b0 o0 cp0, v2 = .slice (some ⟨b0, o0, none⟩) L.length cp0 ∧ ww.cell? ⟨b0, o0 + k, none⟩ = some (.int .u8 (L[k]).toNat) from fun ww kk k hk => by
        have hne : L ≠ [] := by intro e; rw [e] at hk; simp at hk
        exact (hb2.keep kk (fun b hb => HNO.out hne b (by rw [← ho2]; exact hb))).spot k hk)
      obtain ⟨a2, c2, rfl, _⟩ := hb2.shape
      have hLu : IntKind.u32.wrap (L.length : Int) = L.length := by simp [IntKind.wrap, IntKind.bits, IntKind.signed]; omega
      have HP := Lib.hid (rput_c wo r vw (bs ++ A) L.length 6 (by omega) hw1 (by rw [List.length_append]; omega))
      have HK1 := Lib.hid hk1; have HB1 := Lib.hid hb1
      clear HCN cell hb2 ho2 hw1 hk1 hb1
      go_wp2_with fail
      refine HP.out.mono ?_; rintro e w3 ⟨rfl, h3⟩
      have h3' : RwTo wo w3 r vw ((bs ++ A) ++ bitsOf L.length 6) := h3
      clear h3 HP
      go_wp2_with fail
      go_loopw [7] (fun kv wx => ∃ k : Nat, k ≤ L.length ∧ kv = .int .i64 k ∧ RwTo wo wx r vw (((bs ++ A) ++ bitsOf L.length 6) ++ (L.take k).flatMap (fun x => bitsOf x.toNat 8))) (fun kv _ => L.length - (intOf kv).toNat)
      case atStart => exact ⟨0, Nat.zero_le _, rfl, by simpa using h3'⟩
      case round =>
        obtain ⟨k, hk, rfl, HX⟩ := hrel
        by_cases hx : k < L.length
        · have q1 : decide (k < L.length) = true := by simpa using hx
          have hs9 : IntKind.i64.wrap ((k : Int) + 1) = ((k + 1 : Nat) : Int) := by rw [IntKind.wrap_i64]; omega
          obtain ⟨vx, hwx, hkx, hbx⟩ := HX
          obtain ⟨b0, o0, cp0, e0, cellW⟩ := HB2.out wr hkx k hx
          obtain ⟨rfl, -⟩ : a2 = some ⟨b0, o0, none⟩ ∧ c2 = cp0 := by simpa using e0
          clear e0
          have hsnoc : (L.take (k + 1)).flatMap (fun x => bitsOf x.toNat 8) = (L.take k).flatMap (fun x => bitsOf x.toNat 8) ++ bitsOf (L[k]).toNat 8 := by
            rw [List.take_succ_eq_append_getElem hx, List.flatMap_append]; simp
          obtain ⟨y, hy⟩ : ∃ y, L[k] = y := ⟨_, rfl⟩
          rw [hy] at cellW hsnoc
          have hyu : IntKind.u32.wrap (y.toNat : Int) = y.toNat := by have := y.toNat_lt; simp [IntKind.wrap, IntKind.bits, IntKind.signed]; omega
          have HP := Lib.hid (rput_c wr r vx _ y.toNat 8 (by have := y.toNat_lt; omega) hwx (by
            rw [List.length_append, List.length_append, List.length_append, bitsOf_length, flat8_len, List.length_take]
            have : cln 6 = 6 := rfl
            omega))
          have HK2 := Lib.hid hkx; have HB3 := Lib.hid hbx; have HSN := Lib.hid hsnoc
          clear hsnoc hy hwx hkx hbx
          go_wp2_with fail
          refine HP.out.mono ?_; rintro e w5 ⟨rfl, h5⟩
          have h6 : RwTo wo w5 r vw _ := RwTo.trans HK2.out HB3.out h5
          rw [List.append_assoc _ _ (bitsOf y.toNat (cln 8))] at h6
          clear h5
          go_wp2_with fail
          go_roundw
          case rel => exact ⟨k + 1, by omega, by first | rfl | simp, by rw [HSN.out]; exact h6⟩
          case measure => simp [intOf]; omega
        · have q1 : decide (k < L.length) = false := by simpa using hx
          have hkL : k = L.length := by omega
          have HKL := Lib.hid hkL
          clear hx hkL
          go_wp2_with fail
          go_roundw
          case rel =>
            refine ⟨c, A ++ (bitsOf L.length 6 ++ L.flatMap (fun x => bitsOf x.toNat 8)), by omega, by first | rfl | simp, ?_, ?_, ?_⟩
            · unfold Hid; rw [HA2.out]; simp [List.append_assoc]
            · rw [List.length_append, List.length_append, bitsOf_length, flat8_len]; omega
            · have h7 := RwTo.trans HK1.out HB1.out HX
              rw [HKL.out, List.take_length] at h7
              have e9 : bs ++ (A ++ (bitsOf L.length 6 ++ L.flatMap (fun x => bitsOf x.toNat 8))) = bs ++ A ++ bitsOf L.length 6 ++ L.flatMap (fun x => bitsOf x.toNat 8) := by simp [List.append_assoc]
              rw [e9]; exact h7
          case measure => simp [intOf]
end Go.Proofs.Yteahcpkaagjkkaa
