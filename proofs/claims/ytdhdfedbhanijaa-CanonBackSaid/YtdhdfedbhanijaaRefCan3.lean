/- The document's Words where there are none, Longest, SameCodes and Next. -/
import Derived.Test.YtdhdfedbhanijaaRefCan2
namespace Go.Proofs.Ytdhdfedbhanijaa
set_option linter.unusedVariables false
set_option linter.unusedSimpArgs false
open Go.ChangeShapes Go.WideShapes Go.ChangeAt Go.RowKit

theorem Cds.nix (w : World) : Cds w (.slice none 0 0) [] := ⟨none, 0, rfl, by simp, by simp, fun _ => rfl, fun x hx => nomatch hx⟩
theorem Cds.keep {w w' : World} {v : Value} {L : List Nat} {S : List Nat} (h : Cds w v L) (k : Keep S w w') (hb : ∀ b, v.ownBlock = some b → b ∉ S) : Cds w' v L := Sts.keep h k hb
theorem Cds.drewN {w : World} {v : Value} {L : List Nat} (h : Cds w v L) (n : Nat) : Cds (w.drewN n) v L := h.keep ((Keep.refl [] w).drewN _) (by simp)
theorem Cds.shape {w : World} {v : Value} {L : List Nat} (h : Cds w v L) : ∃ a cap, v = .slice a L.length cap ∧ L.length ≤ 9223372036854775807 := by
  obtain ⟨a, cap, rfl, h1, h2, _⟩ := h
  unfold maxLen at h2
  exact ⟨a, cap, rfl, by omega⟩
theorem Cds.at {w : World} {v : Value} {L : List Nat} (h : Cds w v L) (i : Nat) (hi : i < L.length) : ∃ b off cap, v = .slice (some ⟨b, off, none⟩) L.length cap ∧ w.cell? ⟨b, off + i * 2, none⟩ = some (.int .u32 (code L i)) ∧ w.cell? ⟨b, off + i * 2 + 1, none⟩ = some (.int .i64 (len L i)) := by
  rcases Sts.cases (by decide) h with ⟨h0, _⟩ | ⟨_, b, off, cap, rfl, _, _, _, hc⟩
  · omega
  · exact ⟨b, off, cap, rfl, hc i hi 0 (by omega), hc i hi 1 (by omega)⟩
set_option maxHeartbeats 1000000 in
theorem refwords_err (w : World) (v : Value) (zs : List Int) (h : Is .i64 w v zs) (h0 : werr zs ≠ 0) : Calls Try.prog 11 #[v] w fun e w' => e = .returned (.tuple #[.slice none 0 0, .int .i64 (werr zs)]) ∧ Keep [] w w' := by
  have HC := Lib.hid (fun w' (k : Keep [] w w') => refcheck_c w' _ zs (h.keep k (by simp)))
  obtain ⟨a, cap, rfl, _, _⟩ := h.shape
  by_cases h5 : chk zs = 5
  · have n5 : (((chk zs : Nat) : Int) == 5) = true := by simp; omega
    have hw : Hid (werr zs = 2) := by unfold Hid werr; rw [if_pos h5]
    generalize chk zs = ck at n5 HC
    clear h5 h h0
    go_enter Try.func11, Try.ntmps11
    go_wp2_with fail
    refine (HC.out _ (Keep.refl _ _)).mono ?_; rintro e w1 ⟨rfl, m1, rfl⟩
    go_wp2_with fail
    go_ret2
    exact ⟨by rw [hw.out]; rfl, (Keep.refl _ _).drewN _⟩
  · have h2 : chk zs = 2 := by
      unfold werr at h0
      rw [if_neg h5] at h0
      by_cases e : chk zs = 2
      · exact e
      · rw [if_neg e] at h0; omega
    have n5 : (((chk zs : Nat) : Int) == 5) = false := by simp; omega
    have n2 : (((chk zs : Nat) : Int) == 2) = true := by simp; omega
    have hw : Hid (werr zs = 6) := by unfold Hid werr; rw [if_neg h5, if_pos h2]
    generalize chk zs = ck at n5 n2 HC
    clear h5 h2 h h0
    go_enter Try.func11, Try.ntmps11
    go_wp2_with fail
    refine (HC.out _ (Keep.refl _ _)).mono ?_; rintro e w1 ⟨rfl, m1, rfl⟩
    go_wp2_with fail
    refine (HC.out _ ((Keep.refl _ _).drewN _)).mono ?_; rintro e w1 ⟨rfl, m2, rfl⟩
    go_wp2_with fail
    go_ret2
    exact ⟨by rw [hw.out]; rfl, (Keep.refl _ _).drewN _⟩
/-- lengths whose words are asked for: none where there is an error -/
def Lw (zs : List Int) : List Nat := if werr zs = 0 then Ln zs else []
theorem refwords_c (w : World) (v : Value) (zs : List Int) (h : Is .i64 w v zs) : Calls Try.prog 11 #[v] w fun e w' => ∃ v', e = .returned (.tuple #[v', .int .i64 (werr zs)]) ∧ Cds w' v' (Lw zs) ∧ Keep [] w w' ∧ (∀ b, v'.ownBlock = some b → w.heap.size ≤ b) ∧ (werr zs ≠ 0 → v' = .slice none 0 0) := by
  unfold Lw
  by_cases h0 : werr zs = 0
  · rw [if_pos h0]
    refine (refwords_ok w v zs h h0).mono ?_
    rintro e w' ⟨v', rfl, a, b, c⟩
    exact ⟨v', by rw [h0]; rfl, a, b, c, fun h => absurd h0 h⟩
  · rw [if_neg h0]
    refine (refwords_err w v zs h h0).mono ?_
    rintro e w' ⟨rfl, a⟩
    exact ⟨_, rfl, Cds.nix _, a, by simp [Value.ownBlock], fun _ => rfl⟩
theorem longest_take (L : List Nat) (i : Nat) (h : i < L.length) : longest (L.take (i + 1)) = max (longest (L.take i)) (len L i) := by
  rw [List.take_succ_eq_append_getElem h, longest_snoc, ← len_get L i h]
set_option maxHeartbeats 1000000 in
theorem reflongest_c (w : World) (v : Value) (L : List Nat) (hL : ∀ x ∈ L, x ≤ 16) (h : Cds w v L) : Calls Try.prog 17 #[v] w fun e w' => e = .returned (.int .i64 (longest L)) ∧ ∃ n, w' = w.drewN n := by
  have HI := Lib.hid (fun i hi => h.at i hi)
  obtain ⟨a, cap, rfl, hm⟩ := h.shape
  have hl16 := longest_le L 16 hL
  have HL16 := Lib.hid (fun i => longest_ge L i)
  clear h
  go_enter Try.func17, Try.ntmps17
  go_wp2_with fail
  go_loopw [3, 4] (fun x i wr => ∃ (k y : Nat), k ≤ L.length ∧ i = .int .i64 k ∧ x = .int .i64 y ∧ Hid (y = longest (L.take k)) ∧ y ≤ 16 ∧ ∃ n, wr = w.drewN n) (fun _ i _ => L.length - (intOf i).toNat)
  case atStart => exact ⟨0, 0, by omega, rfl, rfl, by simp [Hid, longest], by omega, 0, rfl⟩
  case round =>
    obtain ⟨k, y, hk, rfl, rfl, HY, hy, n, rfl⟩ := hrel
    by_cases hlt : k < L.length
    · obtain ⟨b, off, cap', hv, e0, e1⟩ := HI.out k hlt
      simp only [Value.slice.injEq] at hv
      obtain ⟨rfl, _, rfl⟩ := hv
      have HT := Lib.hid (longest_take L k hlt)
      have h16 : len L k ≤ 16 := by have := HL16.out k; omega
      have HT2 : Hid (longest (L.take (k + 1)) = max y (len L k)) := by unfold Hid; rw [HT.out, HY.out]
      generalize len L k = z at *
      by_cases hz : y < z
      · go_wp2_with fail
        go_roundw
        case rel => exact ⟨k + 1, z, by omega, by go_num, rfl, by unfold Hid; rw [HT2.out]; omega, h16, _, rfl⟩
        case measure => simp [intOf]; omega
      · go_wp2_with fail
        go_roundw
        case rel => exact ⟨k + 1, y, by omega, by go_num, rfl, by unfold Hid; rw [HT2.out]; omega, hy, _, rfl⟩
        case measure => simp [intOf]; omega
    · obtain rfl : k = L.length := by omega
      have hy2 := HY.out
      rw [List.take_length] at hy2
      have HY2 := Lib.hid hy2
      clear hy2
      go_wp2_with fail
      go_ret
      exact ⟨by rw [HY2.out]; rfl, _, rfl⟩
set_option maxHeartbeats 1000000 in
theorem samecodes_c (w : World) (v v' : Value) (L : List Nat) (h : Cds w v L) (h' : Cds w v' L) : Calls Try.prog 15 #[v, v'] w fun e w' => e = .returned (.bool true) ∧ ∃ n, w' = w.drewN n := by
  have HI := Lib.hid (fun i hi => h.at i hi)
  have HI' := Lib.hid (fun i hi => h'.at i hi)
  obtain ⟨a, cap, rfl, hm⟩ := h.shape
  obtain ⟨a', cap', rfl, _⟩ := h'.shape
  clear h h'
  go_enter Try.func15, Try.ntmps15
  go_wp2_with fail
  go_loopw [5] (fun i wr => ∃ k : Nat, k ≤ L.length ∧ i = .int .i64 k ∧ ∃ n, wr = w.drewN n) (fun i _ => L.length - (intOf i).toNat)
  case atStart => exact ⟨0, by omega, rfl, 0, rfl⟩
  case round =>
    obtain ⟨k, hk, rfl, n, rfl⟩ := hrel
    by_cases hlt : k < L.length
    · obtain ⟨b, off, cap1, hv, e0, e1⟩ := HI.out k hlt
      simp only [Value.slice.injEq] at hv
      obtain ⟨rfl, _, rfl⟩ := hv
      obtain ⟨b', off', cap1', hv, d0, d1⟩ := HI'.out k hlt
      simp only [Value.slice.injEq] at hv
      obtain ⟨rfl, _, rfl⟩ := hv
      go_wp2_with fail
      go_quiet (fail)
      go_wp2_with fail
      go_roundw
      case rel => exact ⟨k + 1, by omega, by go_num, _, rfl⟩
      case measure => simp [intOf]; omega
    · obtain rfl : k = L.length := by omega
      go_wp2_with fail
      go_ret
      exact ⟨rfl, _, rfl⟩
end Go.Proofs.Ytdhdfedbhanijaa
