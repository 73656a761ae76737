/- Contracts of the document's own steps and sums (duffelref03). -/
import Derived.Test.YtplamdejdibbhaaCrcMath
import Derived.Test.YtplamdejdibbhaaRefKit
import Derived.Laws.BitsAllLaws
namespace Go.Proofs.Ytplamdejdibbhaa
set_option linter.unusedVariables false
set_option linter.unusedSimpArgs false
open Go.ChangeShapes Go.WideShapes Go.ChangeAt Go.RowKit

theorem refstep_c (w : World) (x : Nat) (hx : x < 4294967296) : Calls Try.prog 20 #[.int .u32 x] w fun e w' => e = .returned (.int .u32 (cstep x)) ∧ w = w' := by
  by_cases h : x % 2 = 1
  · have h1 : ((x : Int) % 2 == 1) = true := by simp; omega
    have hf : bits .xor .u32 ((x : Int) / 2) 3988292384 = ((cstep x : Nat) : Int) := by
      have := u32_xor_nat (x / 2) 3988292384 (by omega) (by decide)
      rw [show ((x : Int) / 2) = ((x / 2 : Nat) : Int) by omega]
      unfold cstep; rw [if_pos h]; exact this
    have HF := Lib.hid hf; clear hf
    go_enter Try.func20, Try.ntmps20
    go_wp2
    go_ret
    rw [← HF.out]
    exact ⟨rfl, rfl⟩
  · have h1 : ((x : Int) % 2 == 1) = false := by simp; omega
    have hf : (x : Int) / 2 = ((cstep x : Nat) : Int) := by unfold cstep; rw [if_neg h]; simp
    have HF := Lib.hid hf; clear hf
    go_enter Try.func20, Try.ntmps20
    go_wp2
    go_ret
    rw [← HF.out]
    exact ⟨rfl, rfl⟩
theorem refword_c (w : World) (c : UInt8) : Calls Try.prog 9 #[.int .u8 c.toNat] w fun e w' => e = .returned (.int .u32 (csteps 8 c.toNat)) ∧ w = w' := by
  have hc := c.toNat_lt
  go_enter Try.func9, Try.ntmps9
  go_wp2_with fail
  go_loop [3, 4] (fun vx vi => ∃ (k : Nat) (y : Nat), k ≤ 8 ∧ vi = .int .i64 k ∧ vx = .int .u32 y ∧ y < 4294967296 ∧ Hid (csteps 8 c.toNat = csteps (8 - k) y)) (fun _ vi => 8 - (intOf vi).toNat)
  case atStart => exact ⟨0, c.toNat, by omega, rfl, by simp, by omega, rfl⟩
  case round =>
    obtain ⟨k, y, hk, rfl, rfl, hy, hh⟩ := hrel
    by_cases hlt : k < 8
    · have HN : Hid (csteps 8 c.toNat = csteps (8 - (k + 1)) (cstep y)) := by
        have h := hh.out
        rw [show 8 - k = (8 - (k + 1)) + 1 by omega, csteps] at h
        exact h
      have hy2 := cstep_lt y hy
      go_wp2_with fail
      refine (refstep_c _ y hy).mono ?_; rintro e w' ⟨rfl, rfl⟩
      go_wp2_with fail
      go_round
      case rel => exact ⟨k + 1, _, by omega, by go_num, rfl, hy2, HN⟩
      case measure => simp [intOf]; omega
    · obtain rfl : k = 8 := by omega
      go_wp2
      go_ret
      have h := hh.out
      rw [h]
      exact ⟨rfl, rfl⟩
/-- the sum of a text, going on from s -/
def crcSum (s : Nat) (l : List UInt8) : Nat := cfold (s ^^^ 4294967295) l ^^^ 4294967295
/-- by any table -/
def crcWith (T : Nat → Nat) (s : Nat) (l : List UInt8) : Nat := wfold T (s ^^^ 4294967295) l ^^^ 4294967295
theorem crcWith_steps (s : Nat) (l : List UInt8) : crcWith (csteps 8) s l = crcSum s l := by unfold crcWith crcSum; rw [wfold_steps]
theorem xor_lt32 (a b : Nat) (ha : a < 4294967296) (hb : b < 4294967296) : a ^^^ b < 4294967296 := Nat.xor_lt_two_pow (n := 32) ha hb
theorem crcSum_lt (s : Nat) (l : List UInt8) (hs : s < 4294967296) : crcSum s l < 4294967296 := xor_lt32 _ _ (cfold_lt _ _ (xor_lt32 _ _ hs (by decide))) (by decide)
set_option maxHeartbeats 1000000 in
theorem refsum_c (w : World) (s : Nat) (v : Value) (l : List UInt8) (hs : s < 4294967296) (h : Bs w v l) : Calls Try.prog 14 #[.int .u32 s, v] w fun e w' => e = .returned (.int .u32 (crcSum s l)) ∧ ∃ n, w' = w.drewN n := by
  have h0 : bits .xor .u32 (s : Int) 4294967295 = ((s ^^^ 4294967295 : Nat) : Int) := u32_xor_nat s 4294967295 hs (by decide)
  have hlt0 := xor_lt32 s 4294967295 hs (by decide)
  unfold crcSum
  generalize s ^^^ 4294967295 = x0 at h0 hlt0 ⊢
  have hn : l.length ≤ 9223372036854775807 := by obtain ⟨_, _, _, h1, h2⟩ := h.shape; unfold maxLen at h2; omega
  have hcell : ∀ k (hk : k < l.length), ∃ b off cap, v = .slice (some ⟨b, off, none⟩) l.length cap ∧ w.cell? ⟨b, off + k, none⟩ = some (.int .u8 (l[k].toNat)) := by
    rcases h.cases with ⟨rfl, _⟩ | ⟨hp, b, off, cap, rfl, h1, h2, hb, hc⟩
    · intro k hk; simp at hk
    · intro k hk; exact ⟨b, off, cap, rfl, hc k hk⟩
  have HC := Lib.hid hcell
  obtain ⟨a, cap, rfl, _, _⟩ := h.shape
  clear hcell h
  go_enter Try.func14, Try.ntmps14
  go_wp2_with fail
  go_loopw [5, 6] (fun vx vi wr => ∃ (k : Nat) (y : Nat), k ≤ l.length ∧ vi = .int .i64 k ∧ vx = .int .u32 y ∧ y < 4294967296 ∧ Hid (y = cfold x0 (l.take k)) ∧ ∃ n, wr = w.drewN n) (fun _ vi _ => l.length - (intOf vi).toNat)
  case atStart => exact ⟨0, x0, by omega, rfl, rfl, hlt0, rfl, 0, rfl⟩
  case round =>
    obtain ⟨k, y, hk, rfl, rfl, hy, hh, n, rfl⟩ := hrel
    by_cases hlt : k < l.length
    · obtain ⟨b, off, cap', hv, e1⟩ := HC.out k hlt
      simp only [Value.slice.injEq] at hv
      obtain ⟨rfl, _, rfl⟩ := hv
      have hsn : Hid (cfold x0 (l.take (k + 1)) = csteps 8 (y ^^^ l[k].toNat)) := by
        unfold Hid; rw [List.take_succ_eq_append_getElem hlt, cfold_snoc, ← hh.out]; rfl
      have hb := l[k].toNat_lt
      have hx : bits .xor .u32 (y : Int) (l[k].toNat : Int) = ((y ^^^ l[k].toNat : Nat) : Int) := u32_xor_nat y _ hy (by omega)
      have hlx := xor_lt32 y l[k].toNat hy (by omega)
      generalize y ^^^ l[k].toNat = z at hsn hx hlx
      generalize l[k].toNat = c at e1 hb hx
      clear hh
      go_wp2_with fail
      go_loop [5, 7] (fun vx vi => ∃ (j : Nat) (u : Nat), j ≤ 8 ∧ vi = .int .i64 j ∧ vx = .int .u32 u ∧ u < 4294967296 ∧ Hid (cfold x0 (l.take (k + 1)) = csteps (8 - j) u)) (fun _ vi => 8 - (intOf vi).toNat)
      case atStart => exact ⟨0, z, by omega, rfl, by first | rfl | (rw [hx]), hlx, hsn⟩
      case round =>
        obtain ⟨j, u, hj, rfl, rfl, hu, hh⟩ := hrel
        by_cases hlt8 : j < 8
        · have HN : Hid (cfold x0 (l.take (k + 1)) = csteps (8 - (j + 1)) (cstep u)) := by
            have h := hh.out
            rw [show 8 - j = (8 - (j + 1)) + 1 by omega, csteps] at h
            exact h
          have hu2 := cstep_lt u hu
          go_wp2_with fail
          refine (refstep_c _ u hu).mono ?_; rintro e w' ⟨rfl, rfl⟩
          go_wp2_with fail
          go_round
          case rel => exact ⟨j + 1, _, by omega, by go_num, rfl, hu2, HN⟩
          case measure => simp [intOf]; omega
        · obtain rfl : j = 8 := by omega
          have HN : Hid (u = cfold x0 (l.take (k + 1))) := hh.out.symm
          go_wp2
          go_roundw
          case rel => exact ⟨k + 1, u, by omega, by go_num, rfl, hu, HN, _, rfl⟩
          case measure => simp [intOf]; omega
    · obtain rfl : k = l.length := by omega
      have hx : bits .xor .u32 (y : Int) 4294967295 = ((y ^^^ 4294967295 : Nat) : Int) := u32_xor_nat y 4294967295 hy (by decide)
      have h := hh.out
      rw [List.take_of_length_le (Nat.le_refl _)] at h
      have HH := Lib.hid h; have HX := Lib.hid hx
      clear h hx hh
      go_wp2
      go_ret
      rw [← HH.out, ← HX.out]
      exact ⟨rfl, _, rfl⟩
/-- v is an array of 256 words, T their values -/
def Tab (v : Value) (T : Nat → Nat) : Prop := ∃ cs : Array Value, v = .agg cs ∧ cs.size = 256 ∧ ∀ i, i < 256 → cs[i]? = some (.int .u32 (T i)) ∧ T i < 4294967296
/-- the array itself -/
def tabOf (T : Nat → Nat) : Array Value := Array.ofFn (n := 256) fun i => .int .u32 (T i : Nat)
theorem tabOf_size (T : Nat → Nat) : (tabOf T).size = 256 := by unfold tabOf; exact Array.size_ofFn
theorem tabOf_get (T : Nat → Nat) (i : Nat) (hi : i < 256) : (tabOf T)[i]? = some (.int .u32 (T i : Nat)) := by
  unfold tabOf; rw [Array.getElem?_ofFn, dif_pos hi]
theorem Tab.eq {v : Value} {T : Nat → Nat} (h : Tab v T) : v = .agg (tabOf T) := by
  obtain ⟨cs, rfl, hs, hc⟩ := h
  have e : cs = tabOf T := by
    apply Array.ext_getElem?
    intro i
    by_cases hi : i < 256
    · rw [(hc i hi).1, tabOf_get T i hi]
    · rw [Array.getElem?_eq_none (by omega), Array.getElem?_eq_none (by rw [tabOf_size]; omega)]
  rw [e]
theorem tabOf_tab (T : Nat → Nat) (h : ∀ i, i < 256 → T i < 4294967296) : Tab (.agg (tabOf T)) T := ⟨_, rfl, tabOf_size T, fun i hi => ⟨tabOf_get T i hi, h i hi⟩⟩
set_option maxHeartbeats 1000000 in
theorem refwith_c (w : World) (tv : Value) (T : Nat → Nat) (s : Nat) (v : Value) (l : List UInt8) (ht : Tab tv T) (hs : s < 4294967296) (h : Bs w v l) : Calls Try.prog 16 #[tv, .int .u32 s, v] w fun e w' => e = .returned (.int .u32 (crcWith T s l)) ∧ Keep [] w w' := by
  obtain ⟨cs, rfl, hsz, hcs⟩ := ht
  have h0 : bits .xor .u32 (s : Int) 4294967295 = ((s ^^^ 4294967295 : Nat) : Int) := u32_xor_nat s 4294967295 hs (by decide)
  have hlt0 := xor_lt32 s 4294967295 hs (by decide)
  unfold crcWith
  generalize s ^^^ 4294967295 = x0 at h0 hlt0 ⊢
  have KA : Keep [] w (w.alloc (.cells cs 23)) := (Keep.refl [] w).alloc _
  have HB : Blk (w.alloc (.cells cs 23)) w.heap.size cs 23 := Blk.new w cs _
  have hB := h.keep KA (by simp)
  have hn : l.length ≤ 9223372036854775807 := by obtain ⟨_, _, _, h1, h2⟩ := h.shape; unfold maxLen at h2; omega
  have hcell : ∀ k (hk : k < l.length), ∃ b off cap, v = .slice (some ⟨b, off, none⟩) l.length cap ∧ (w.alloc (.cells cs 23)).cell? ⟨b, off + k, none⟩ = some (.int .u8 (l[k].toNat)) := by
    rcases hB.cases with ⟨rfl, _⟩ | ⟨hp, b, off, cap, rfl, h1, h2, hb, hc⟩
    · intro k hk; simp at hk
    · intro k hk; exact ⟨b, off, cap, rfl, hc k hk⟩
  have HC := Lib.hid hcell
  have HT := Lib.hid (fun i (hi : i < 256) => HB.cell i _ (hcs i hi).1)
  have HCs := Lib.hid hcs
  obtain ⟨a, cap, rfl, _, _⟩ := h.shape
  clear hcell h hB hcs HB hsz
  go_enter Try.func16, Try.ntmps16
  go_wp2_with fail
  generalize w.alloc (.cells cs 23) = wA at KA HC HT ⊢
  generalize w.heap.size = r at HT ⊢
  go_loopw [7, 8] (fun vx vi wr => ∃ (k : Nat) (y : Nat), k ≤ l.length ∧ vi = .int .i64 k ∧ vx = .int .u32 y ∧ y < 4294967296 ∧ Hid (y = wfold T x0 (l.take k)) ∧ ∃ n, wr = wA.drewN n) (fun _ vi _ => l.length - (intOf vi).toNat)
  case atStart => exact ⟨0, x0, by omega, rfl, rfl, hlt0, rfl, 0, rfl⟩
  case round =>
    obtain ⟨k, y, hk, rfl, rfl, hy, hh, n, rfl⟩ := hrel
    by_cases hlt : k < l.length
    · obtain ⟨b, off, cap', hv, e1⟩ := HC.out k hlt
      simp only [Value.slice.injEq] at hv
      obtain ⟨rfl, _, rfl⟩ := hv
      have hb := l[k].toNat_lt
      have hi1 : bits .xor .u32 ((y : Int) % 256) (l[k].toNat : Int) = ((y % 256 ^^^ l[k].toNat : Nat) : Int) := by
        have := u32_xor_nat (y % 256) l[k].toNat (by omega) (by omega)
        rw [← this]; simp
      have hi2 : y % 256 ^^^ l[k].toNat < 256 := Nat.xor_lt_two_pow (n := 8) (by omega) hb
      have e2 := HT.out _ hi2
      have hTl := (HCs.out _ hi2).2
      have hx : bits .xor .u32 ((T (y % 256 ^^^ l[k].toNat) : Nat) : Int) ((y : Int) / 256) = ((wbyte T y l[k] : Nat) : Int) := by
        have := u32_xor_nat (T (y % 256 ^^^ l[k].toNat)) (y / 256) hTl (by omega)
        unfold wbyte
        rw [← this]; simp
      have hlx : wbyte T y l[k] < 4294967296 := xor_lt32 _ _ hTl (by omega)
      have hsn : Hid (wbyte T y l[k] = wfold T x0 (l.take (k + 1))) := by
        unfold Hid; rw [List.take_succ_eq_append_getElem hlt, wfold_snoc, ← hh.out]
      generalize wbyte T y l[k] = z at hx hlx hsn
      generalize T (y % 256 ^^^ l[k].toNat) = tt at e2 hTl hx
      generalize y % 256 ^^^ l[k].toNat = ii at hi1 hi2 e2
      generalize l[k].toNat = c at e1 hb hi1
      clear hh
      go_wp2_with fail
      go_roundw
      case rel => exact ⟨k + 1, z, by omega, by go_num, rfl, hlx, hsn, _, rfl⟩
      case measure => simp [intOf]; omega
    · obtain rfl : k = l.length := by omega
      have hx : bits .xor .u32 (y : Int) 4294967295 = ((y ^^^ 4294967295 : Nat) : Int) := u32_xor_nat y 4294967295 hy (by decide)
      have h := hh.out
      rw [List.take_of_length_le (Nat.le_refl _)] at h
      have HH := Lib.hid h; have HX := Lib.hid hx
      clear h hx hh
      go_wp2
      go_ret
      rw [← HH.out, ← HX.out]
      exact ⟨rfl, KA.drewN _⟩
end Go.Proofs.Ytplamdejdibbhaa
