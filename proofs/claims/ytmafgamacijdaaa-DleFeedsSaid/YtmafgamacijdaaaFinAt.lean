/- equal over the landed code. -/
import Derived.Test.YtmafgamacijdaaaFinBks
import Derived.Test.YtmafgamacijdaaaRefFin
import Derived.BigQuiet
import Derived.Lib.MinMax
namespace Go.Proofs.Ytmafgamacijdaaa
set_option linter.unusedVariables false
set_option linter.unusedSimpArgs false
open Go.ChangeShapes Go.WideShapes Go.ChangeAt Go.RowKit

/-- block q is a text with what is needed to find copies -/
structure Srch (w : World) (q : Nat) (v bv : Value) (b : List UInt8) (s : Sh) : Prop where
  blk : Blk w q #[v, .int .i64 s.win, .int .i64 s.min, .int .i64 s.max, .int .i64 s.chain, .bool s.lazy, bv] 80
  text : Bs w v b
  back : Gs el32 w bv ((List.range b.length).map (bck b s.min.toNat))
theorem Srch.keep {w w' : World} {q : Nat} {v bv : Value} {b : List UInt8} {s : Sh} (h : Srch w q v bv b s) (k : Keep [] w w') : Srch w' q v bv b s :=
  ⟨h.blk.keep k (by simp), h.text.keep k (by simp), h.back.keep' good32 k (by simp)⟩
set_option maxRecDepth 100000 in
set_option maxHeartbeats 4000000 in
theorem equal_c (w : World) (q : Nat) (v bv : Value) (b : List UInt8) (s : Sh) (hs : s.ok) (h : Srch w q v bv b s) (p i M : Nat) (hp : p ≤ i) (hi : i ≤ b.length) (hb : b.length ≤ 100000) (hM : M = min s.max.toNat (b.length - i)) (hmn : s.min.toNat ≤ M) (he : eqm b p i s.min.toNat) :
    Calls Try.prog 55 #[.pointer (some ⟨q, 0, none⟩), .int .i64 p, .int .i64 i, .int .i64 M] w fun e w' => e = .returned (.int .i64 (sme b p i s.max.toNat : Nat)) ∧ ∃ n, w' = w.drewN n := by
  have hs' := hs
  unfold Sh.ok at hs'
  obtain ⟨win, mn, mx, ch, lz⟩ := s
  simp only at hs' hM hmn he ⊢
  obtain ⟨mn, rfl⟩ := Int.eq_ofNat_of_zero_le (show 0 ≤ mn by omega)
  obtain ⟨mx, rfl⟩ := Int.eq_ofNat_of_zero_le (show 0 ≤ mx by omega)
  have e1 : ((mn : Int).toNat) = mn := by simp
  have e2 : ((mx : Int).toNat) = mx := by simp
  rw [e1] at hmn he
  rw [e2] at hM ⊢
  have HI := Lib.hid (fun k hk => h.text.spot k hk)
  have HBL : Hid (Blk w q #[v, .int .i64 win, .int .i64 mn, .int .i64 mx, .int .i64 ch, .bool lz, bv] 80) := h.blk
  have HF : Hid (∀ n, n ≤ M → (∀ j, j < n → b.getD (p + j) 0 = b.getD (i + j) 0) → (n = M ∨ b.getD (p + n) 0 ≠ b.getD (i + n) 0) → sme b p i mx = n) := fun n h1 h2 h3 => sme_from hi (by omega) h2 (by rw [hM] at h3; exact h3)
  have HE := Lib.hid he.2
  have hMi : i + M ≤ b.length := by omega
  obtain ⟨a, cap, rfl, hc1, hc2⟩ := h.text.shape
  clear h hc1 hc2 hs hs' e1 e2 he
  have s0 := HBL.out.cell 0 _ rfl
  have s2 := HBL.out.cell 2 _ rfl
  simp only [List.getElem_toArray, List.getElem_cons_zero, List.getElem_cons_succ] at s0 s2
  clear hM
  go_enter Try.func55, Try.ntmps55
  go_wp2_with fail
  go_loopw [9] (fun n wr => ∃ k : Nat, mn ≤ k ∧ k ≤ M ∧ n = .int .i64 k ∧ Hid (∀ j, j < k → b.getD (p + j) 0 = b.getD (i + j) 0) ∧ ∃ n, wr = w.drewN n) (fun n _ => M - (intOf n).toNat)
  case atStart => exact ⟨mn, by omega, by omega, rfl, HE.out, 0, rfl⟩
  case round =>
    obtain ⟨k, hk, hkb, rfl, HC, n, rfl⟩ := hrel
    by_cases h1 : k < M
    case neg =>
      obtain rfl : k = M := by omega
      have HC2 := Lib.hid (HF.out k (Nat.le_refl _) HC.out (.inl rfl))
      clear HC h1
      go_wp2_with fail
      go_quiet (fail)
      go_wp2_with fail
      go_ret
      exact ⟨by rw [HC2.out]; rfl, _, World.drewN_drewN _ _ _⟩
    have d1 : (k : Int) < (M : Int) := by omega
    obtain ⟨g, off, cap1, hv, e1⟩ := HI.out (i + k) (by omega)
    simp only [Value.slice.injEq] at hv
    obtain ⟨rfl, h3, rfl⟩ := hv
    clear h3
    obtain ⟨g', off', cap2, hv, e2⟩ := HI.out (p + k) (by omega)
    simp only [Value.slice.injEq, Option.some.injEq, Addr.mk.injEq] at hv
    obtain ⟨⟨rfl, rfl, hh⟩, h3, rfl⟩ := hv
    clear h3 hh
    have d2 : (i : Int) + k < (b.length : Int) := by omega
    have d3 : (p : Int) + k < (b.length : Int) := by omega
    have g1 : b.getD (p + k) 0 = b[p + k]'(by omega) := by rw [List.getD_eq_getElem?_getD, List.getElem?_eq_getElem (by omega)]; rfl
    have g2 : b.getD (i + k) 0 = b[i + k]'(by omega) := by rw [List.getD_eq_getElem?_getD, List.getElem?_eq_getElem (by omega)]; rfl
    by_cases he : b[p + k]'(by omega) = b[i + k]'(by omega)
    · have hb1 : (((b[p + k]'(by omega)).toNat : Int) == (b[i + k]'(by omega)).toNat) = true := by rw [he]; simp
      have HC2 : Hid (∀ j, j < k + 1 → b.getD (p + j) 0 = b.getD (i + j) 0) := fun j hj => by
        by_cases ej : j = k
        · subst ej; rw [g1, g2, he]
        · exact HC.out j (by omega)
      generalize (b[p + k]'(by omega)).toNat = x1 at e2 hb1
      generalize (b[i + k]'(by omega)).toNat = x2 at e1 hb1
      clear he HC g1 g2
      go_wp2_with fail
      go_quiet (fail)
      go_wp2_with fail
      go_roundw
      case rel => exact ⟨k + 1, by omega, by omega, by go_num, HC2, _, rfl⟩
      case measure => simp [intOf]; omega
    · have hb1 : (((b[p + k]'(by omega)).toNat : Int) == (b[i + k]'(by omega)).toNat) = false := by
        have : (b[p + k]'(by omega)).toNat ≠ (b[i + k]'(by omega)).toNat := fun e => he (UInt8.toNat_inj.1 e)
        simp; omega
      have HC2 := Lib.hid (HF.out k (by omega) HC.out (.inr (by rw [g1, g2]; exact he)))
      generalize (b[p + k]'(by omega)).toNat = x1 at e2 hb1
      generalize (b[i + k]'(by omega)).toNat = x2 at e1 hb1
      clear he HC g1 g2
      go_wp2_with fail
      go_quiet (fail)
      go_wp2_with fail
      go_ret
      exact ⟨by rw [HC2.out]; rfl, _, World.drewN_drewN _ _ _⟩
end Go.Proofs.Ytmafgamacijdaaa
