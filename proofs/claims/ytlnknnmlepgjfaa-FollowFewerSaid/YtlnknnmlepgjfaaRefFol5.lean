/- Contract of the document's Best of layer 12. No condition beyond each theorem's own premises. -/
import Derived.Test.YtlnknnmlepgjfaaRefFol4
namespace Go.Proofs.Ytlnknnmlepgjfaa
set_option linter.unusedVariables false
set_option linter.unusedSimpArgs false
set_option maxRecDepth 100000
open Go.ChangeShapes Go.WideShapes Go.ChangeAt Go.RowKit

/-- the sets of the bytes that came -/
def bstK (b : List UInt8) (k : Nat) (c : Nat) : List UInt8 := if c = 0 ∨ (∃ a ∈ b.take k, a.toNat = c) then one12 b c else []
theorem bstK_all (b : List UInt8) (c : Nat) : bstK b b.length c = one12 b c := by
  unfold bstK
  rw [List.take_length]
  by_cases h : c = 0 ∨ (∃ a ∈ b, a.toNat = c)
  · rw [if_pos h]
  · rw [if_neg h]
    exact (one12_none b c (fun e => h (.inl e)) (fun a ha e => h (.inr ⟨a, ha, e⟩))).symm
theorem bstK_step (b : List UInt8) (k : Nat) (hk : k < b.length) (c : Nat) : bstK b (k + 1) c = if c = b[k].toNat then one12 b c else bstK b k c := by
  unfold bstK
  have ht : b.take (k + 1) = b.take k ++ [b[k]] := List.take_succ_eq_append_getElem hk
  rw [ht]
  by_cases e : c = b[k].toNat
  · rw [if_pos e, if_pos (.inr ⟨b[k], List.mem_append.2 (.inr (List.mem_singleton.2 rfl)), e.symm⟩)]
  · rw [if_neg e]
    by_cases h : c = 0 ∨ (∃ a ∈ b.take k, a.toNat = c)
    · rw [if_pos h, if_pos]
      rcases h with h | ⟨a, ha, hac⟩
      · exact .inl h
      · exact .inr ⟨a, List.mem_append.2 (.inl ha), hac⟩
    · rw [if_neg h, if_neg]
      rintro (h' | ⟨a, ha, hac⟩)
      · exact h (.inl h')
      · rcases List.mem_append.1 ha with ha | ha
        · exact h (.inr ⟨a, ha, hac⟩)
        · simp at ha; subst ha; exact e hac.symm
theorem bstK_zero (b : List UInt8) (k : Nat) : bstK b k 0 = one12 b 0 := by unfold bstK; rw [if_pos (.inl rfl)]
theorem bstK_one (b : List UInt8) (k c : Nat) (h : bstK b k c ≠ []) : bstK b k c = one12 b c := by
  unfold bstK at h ⊢
  split
  · rfl
  · rename_i e; rw [if_neg e] at h; exact absurd rfl h
set_option maxHeartbeats 4000000 in
theorem best12_c (w : World) (v : Value) (b : List UInt8) (hb : Bs w v b) (hl : b.length ≤ 1000000) : Calls Try.prog 9 #[v] w fun e w' => ∃ q, e = .returned (.pointer (some ⟨q, 0, none⟩)) ∧ SB w' q 39 (one12 b) ∧ Keep [] w w' := by
  have hz := (zero_of_info (P := Try.prog) setsInfo).1
  generalize hZ : zset = Z at hz
  have HZ := Lib.hid hZ; clear hZ
  have HB := Lib.hid hb
  obtain ⟨a, cp, rfl, _, _⟩ := hb.shape
  have HO := Lib.hid (fun (w' : World) (k : Keep [] w w') (c : UInt8) => one12_c w' _ b c (hb.keep k (by simp)) hl)
  clear hb
  go_enter Try.func9, Try.ntmps9
  go_wp2_with fail
  have KA : Keep [] w (w.alloc (.cells Z 39)) := (Keep.refl [] w).alloc _
  have hS : SB (w.alloc (.cells Z 39)) w.heap.size 39 (fun _ => []) := by
    refine SB.zero ?_
    rw [HZ.out]; exact Blk.new _ _ _
  obtain ⟨q, hq⟩ : ∃ q, w.heap.size = q := ⟨_, rfl⟩
  have HQ := Lib.hid hq
  rw [hq] at hS ⊢
  clear hq
  generalize w.alloc (.cells Z 39) = w1 at KA hS ⊢
  have hqlt := hS.lt
  go_upto_region 2 with fail
  go_cut [] (fun wx => SB wx q 39 (bstK b 0) ∧ Keep [] w wx)
  case first =>
    have HC := Lib.hid (HO.out w1.drew KA.drew 0)
    have h0 : ((0 : UInt8).toNat : Int) = 0 := rfl
    have S1 := hS.keep ((Keep.refl [] w1).drew)
    go_region_with (first | (go_at_call 19; (refine HC.out.mono ?_); (rintro e w3 ⟨v3, rfl, hb3, k3, o3⟩); (have S3 := S1.keep k3); (obtain ⟨a3, c3, rfl, _⟩ := hb3.shape); (obtain ⟨a0, cp0, cell0, _⟩ := S3.cell 0 (by decide)); (have ff := S3.free 0)))
    all_goals
      have S4 := S3.set 0 (by decide) _ _ hb3 (fun _ x hx => by have := o3 x hx; simp at this; omega)
      have K4 : Keep [] w (w3.setCell ⟨q, 0, none⟩ (.slice a3 (one12 b (0 : UInt8).toNat).length c3)) := (KA.drew.trans k3 (by simp)).setCell (.inr (by have := HQ.out; simp; omega)) _
      have SF := S4.congr (f' := bstK b 0) (fun c hc => by
        unfold bstK
        by_cases e : c = 0
        · subst e; simp
        · rw [if_neg e, if_neg (by simp [e])])
      have HSF := Lib.hid SF
      clear SF S4
      go_wp2_with fail
      go_meet
      exact ⟨by first | exact HSF.out | exact HSF.out.keep ((Keep.refl [] _).drew), by first | exact K4 | exact K4.drew⟩
  case rest =>
    obtain ⟨hS0, K0⟩ := hcut
    generalize wc = w2 at *
    clear hS KA
    go_wp2_with fail
    go_loopw [4] (fun iv wr => ∃ k : Nat, k ≤ b.length ∧ iv = .int .i64 k ∧ SB wr q 39 (bstK b k) ∧ Keep [] w wr) (fun iv _ => b.length - (intOf iv).toNat)
    case atStart => exact ⟨0, by omega, rfl, hS0, K0⟩
    case round =>
      obtain ⟨k, hk, rfl, hS, KK⟩ := hrel
      by_cases hx : k < b.length
      · have t1 : decide (k < b.length) = true := by simpa using hx
        have hs : IntKind.i64.wrap ((k : Int) + 1) = ((k + 1 : Nat) : Int) := by rw [IntKind.wrap_i64]; omega
        obtain ⟨b0, o0, c0, e0, cellb⟩ := (HB.out.keep KK (by simp)).spot k hx
        obtain ⟨rfl, -⟩ : a = some ⟨b0, o0, none⟩ ∧ cp = c0 := by simpa using e0
        clear e0
        have hstep := bstK_step b k hx
        obtain ⟨y, hy⟩ : ∃ y, b[k] = y := ⟨_, rfl⟩
        rw [hy] at cellb hstep
        have HST := Lib.hid hstep
        have hy9 : y.toNat < 256 := y.toNat_lt
        have hy10 : (y.toNat : Int) < 256 := by omega
        clear hstep hy
        by_cases hy0 : y.toNat = 0
        · have q1 : decide (0 < y.toNat) = false := by simp; omega
          have q1' : decide ((0 : Int) < (y.toNat : Int)) = false := by simp; omega
          have hS2 := hS.congr (f' := bstK b (k + 1)) (fun c hc => by
            rw [HST.out]
            by_cases e : c = y.toNat
            · rw [if_pos e, e, hy0, bstK_zero]
            · rw [if_neg e])
          clear hy0
          go_upto_region 6 with fail
          go_quiet (fail)
          go_wp2_with fail
          go_roundw
          case rel => exact ⟨k + 1, by omega, rfl, hS2.keep ((Keep.refl [] _).drewN _), KK.drewN _⟩
          case measure => simp [intOf]; omega
        · have q1 : decide (0 < y.toNat) = true := by simp; omega
          have q1' : decide ((0 : Int) < (y.toNat : Int)) = true := by simp; omega
          obtain ⟨ad, cpd, cells, _⟩ := hS.cell y.toNat hy9
          obtain ⟨m, hm⟩ : ∃ m, (bstK b k y.toNat).length = m := ⟨_, rfl⟩
          rw [hm] at cells
          by_cases hm0 : m = 0
          · have q2 : ((m : Int) == 0) = true := by simp; omega
            have q2' : (m == 0) = true := by simp; omega
            clear hy0 hm hm0
            go_upto_region 6 with fail
            go_quiet (fail)
            have hS2 := hS.keep ((Keep.refl [] wr).drewN nq)
            have KK2 := KK.drewN nq
            have cellb2 : (wr.drewN nq).cell? ⟨b0, o0 + k, none⟩ = some (.int .u8 y.toNat) := cellb
            generalize wr.drewN nq = w5 at hS2 KK2 cellb2 ⊢
            clear hS KK cellb cells
            have HC := Lib.hid (HO.out w5.drew KK2.drew y)
            have S1 := hS2.keep ((Keep.refl [] w5).drew)
            have cellb3 : w5.drew.cell? ⟨b0, o0 + k, none⟩ = some (.int .u8 y.toNat) := cellb2
            have hb0 : b0 < w.heap.size := HB.out.lt (by intro e; rw [e] at hx; simp at hx) b0 rfl
            go_wp2_with fail
            go_upto_region 7 with fail
            go_region_with (first | (go_at_call 19; (refine HC.out.mono ?_); (rintro e w3 ⟨v3, rfl, hb3, k3, o3⟩); (have S3 := S1.keep k3); (have cellb4 := k3.cell cellb3 (by simp)); (obtain ⟨a3, c3, rfl, _⟩ := hb3.shape); (obtain ⟨a0, cp0, cell0, _⟩ := S3.cell y.toNat hy9); (have ff := S3.free y.toNat)))
            all_goals
              have S4 := S3.set y.toNat hy9 _ _ hb3 (fun _ x hx => by have := o3 x hx; have := hS2.lt; simp at *; omega)
              have K4 : Keep [] w (w3.setCell ⟨q, y.toNat, none⟩ (.slice a3 (one12 b y.toNat).length c3)) := (KK2.drew.trans k3 (by simp)).setCell (.inr (by have := HQ.out; simp; omega)) _
              have SF := S4.congr (f' := bstK b (k + 1)) (fun c hc => by
                rw [HST.out]
                by_cases e : c = y.toNat
                · subst e; simp
                · rw [if_neg e, if_neg e])
              have HSF := Lib.hid SF
              clear SF S4
              go_wp2_with fail
              go_roundw
              case rel => exact ⟨k + 1, by omega, rfl, by first | exact HSF.out | exact HSF.out.keep ((Keep.refl [] _).drew), by first | exact K4 | exact K4.drew⟩
              case measure => simp [intOf]; omega
          · have q2 : ((m : Int) == 0) = false := by simp; omega
            have q2' : (m == 0) = false := by simp; omega
            have hS2 := hS.congr (f' := bstK b (k + 1)) (fun c hc => by
              rw [HST.out]
              by_cases e : c = y.toNat
              · rw [if_pos e, e]
                exact bstK_one b k _ (by intro h; rw [h] at hm; simp at hm; omega)
              · rw [if_neg e])
            clear hy0 hm hm0
            go_upto_region 6 with fail
            go_quiet (fail)
            go_wp2_with fail
            go_roundw
            case rel => exact ⟨k + 1, by omega, rfl, hS2.keep ((Keep.refl [] _).drewN _), KK.drewN _⟩
            case measure => simp [intOf]; omega
      · have t1 : decide (k < b.length) = false := by simpa using hx
        have hk2 : k = b.length := by omega
        have HK := Lib.hid hk2
        clear hx hk2
        go_wp2_with fail
        go_ret
        exact ⟨q, rfl, hS.congr (fun c hc => by rw [HK.out, bstK_all]), KK⟩
end Go.Proofs.Ytlnknnmlepgjfaa
