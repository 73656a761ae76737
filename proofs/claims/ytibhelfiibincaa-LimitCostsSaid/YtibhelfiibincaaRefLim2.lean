/- The document's Weight and Falling. -/
import Derived.Test.YtibhelfiibincaaRefLim
namespace Go.Proofs.Ytibhelfiibincaa
set_option linter.unusedVariables false
set_option linter.unusedSimpArgs false
open Go.ChangeShapes Go.WideShapes Go.ChangeAt Go.RowKit

/-- every symbol that comes has a length from 1 to most -/
def LenOK (zs ls : List Int) (most : Int) (k : Nat) : Prop := ∀ i, i < k → fn zs i ≠ 0 → i < ls.length ∧ 1 ≤ zn ls i ∧ zn ls i ≤ most
def pw (zs ls : List Int) (k : Nat) : Nat := sm (fun i => if fn zs i = 0 then 0 else 2 ^ (16 - fn ls i)) k
theorem pw_all (zs ls : List Int) : pw zs ls zs.length = wsum zs.length (fn zs) (fn ls) 16 := rfl
theorem half_step (k z : Nat) (h : k < z) (hz : z ≤ 16) : 2 ^ (16 - k) / 2 = 2 ^ (16 - (k + 1)) := by
  rw [show 16 - k = (16 - (k + 1)) + 1 by omega, Nat.pow_succ]; simp
set_option maxRecDepth 100000 in
set_option maxHeartbeats 1000000 in
theorem refweight_c (w : World) (v v' : Value) (zs ls : List Int) (M : Nat) (hM : M ≤ 16) (hz : okF zs = true) (hlz : zs.length ≤ 4096) (h : Is .i64 w v zs) (h' : Is .i64 w v' ls) : Calls Try.prog 14 #[v, v', .int .i64 M] w fun e w' => ∃ y : Int, e = .returned (.int .i64 y) ∧ ((LenOK zs ls M zs.length ∧ y = pw zs ls zs.length) ∨ (¬ LenOK zs ls M zs.length ∧ y = -1)) ∧ ∃ n, w' = w.drewN n := by
  have HI := Lib.hid (fun i hi => h.at i hi)
  have HI' := Lib.hid (fun i hi => h'.at i hi)
  have HG := Lib.hid (fun i hi => okF_get hz i hi)
  obtain ⟨a, cap, rfl, hl⟩ := h.sh
  obtain ⟨a', cap', rfl, hl'⟩ := h'.sh
  clear h h' hz
  go_enter Try.func14, Try.ntmps14
  go_wp2_with fail
  go_loopw [7, 8] (fun x i wr => ∃ (k y : Nat), k ≤ zs.length ∧ i = .int .i64 k ∧ x = .int .i64 y ∧ y ≤ k * 65536 ∧ Hid (y = pw zs ls k) ∧ Hid (LenOK zs ls M k) ∧ ∃ n, wr = w.drewN n) (fun _ i _ => zs.length - (intOf i).toNat)
  case atStart => exact ⟨0, 0, by omega, rfl, rfl, by omega, rfl, fun i hi => by omega, 0, rfl⟩
  case round =>
    obtain ⟨k, y, hk, rfl, rfl, hy, HY, HL, n, rfl⟩ := hrel
    by_cases hlt : k < zs.length
    · obtain ⟨b, off, cap1, hv, e1⟩ := HI.out k hlt
      simp only [Value.slice.injEq] at hv
      obtain ⟨rfl, h2, rfl⟩ := hv
      clear h2
      obtain ⟨g1, g2⟩ := HG.out k hlt
      rw [g1] at e1
      clear g1
      by_cases hF : fn zs k = 0
      · have HY2 : Hid (y = pw zs ls (k + 1)) := by unfold Hid pw; rw [sm, if_pos hF, Nat.add_zero]; exact HY.out
        have HL2 : Hid (LenOK zs ls M (k + 1)) := by
          intro i hi hne
          by_cases e : i = k
          · subst e; exact absurd hF hne
          · exact HL.out i (by omega) hne
        rw [hF] at e1
        clear hF g2
        go_wp2_with fail
        go_roundw
        case rel => exact ⟨k + 1, y, by omega, by go_num, rfl, Nat.le_trans hy (Nat.mul_le_mul_right _ (Nat.le_succ k)), HY2, HL2, _, rfl⟩
        case measure => simp [intOf]; omega
      · have hne0 : ((fn zs k : Nat) : Int) ≠ 0 := by omega
        by_cases hlt2 : k < ls.length
        · obtain ⟨b', off', cap1', hv, e2⟩ := HI'.out k hlt2
          simp only [Value.slice.injEq] at hv
          obtain ⟨rfl, h2, rfl⟩ := hv
          clear h2
          by_cases hin : 1 ≤ zn ls k ∧ zn ls k ≤ (M : Int)
          · have HL2 : Hid (LenOK zs ls M (k + 1)) := by
              intro i hi hne
              by_cases e : i = k
              · subst e; exact ⟨hlt2, hin⟩
              · exact HL.out i (by omega) hne
            obtain ⟨z, hzz⟩ : ∃ z : Nat, ls[k] = z := ⟨ls[k].toNat, by have := zn_get ls k hlt2; omega⟩
            have hz1 : 1 ≤ z ∧ z ≤ M := by have := zn_get ls k hlt2; omega
            have HY2 : Hid (y + 2 ^ (16 - z) = pw zs ls (k + 1)) := by
              unfold Hid pw; rw [sm, if_neg hF, HY.out, fn_get ls k hlt2, hzz]; simp [pw]
            rw [hzz] at e2
            have hp : 2 ^ (16 - z) ≤ 65536 := Nat.pow_le_pow_right (n := 2) (j := 16) (by decide) (by omega)
            have HP : Hid (2 ^ (16 - z) = 2 ^ (16 - z)) := rfl
            clear hzz hin hF HL HY
            generalize fn zs k = fz at *
            go_wp2_with fail
            go_loopw [9, 10] (fun x i w2 => ∃ (m q : Nat), m ≤ z ∧ i = .int .i64 m ∧ x = .int .i64 q ∧ q ≤ 65536 ∧ Hid (q = 2 ^ (16 - m)) ∧ ∃ n, w2 = w.drewN n) (fun _ i _ => z - (intOf i).toNat)
            case atStart => exact ⟨0, 65536, by omega, rfl, rfl, by omega, by simp [Hid], _, rfl⟩
            case round =>
              obtain ⟨m, q, hm, rfl, rfl, hq, HQ, n2, rfl⟩ := hrel
              by_cases hmz : m < z
              · have HQ2 : Hid (q / 2 = 2 ^ (16 - (m + 1))) := by unfold Hid; rw [HQ.out, half_step m z hmz (by omega)]
                clear HQ
                go_wp2_with fail
                go_roundw
                case rel => exact ⟨m + 1, q / 2, by omega, by go_num, by go_num, by omega, HQ2, _, rfl⟩
                case measure => simp [intOf]; omega
              · obtain rfl : m = z := by omega
                have hqq := HQ.out
                rw [← hqq] at HY2 hp
                clear hqq HQ HP
                go_wp2_with fail
                go_roundw
                case rel => exact ⟨k + 1, y + q, by omega, by go_num, by go_num, by omega, HY2, HL2, _, rfl⟩
                case measure => simp [intOf]; omega
          · have hbad : Hid (¬ LenOK zs ls M zs.length) := fun hh => hin (hh k hlt hF).2
            have hzz := zn_get ls k hlt2
            rw [hzz] at hin
            generalize ls[k] = z at e2 hin
            clear hzz hF
            generalize fn zs k = fz at *
            by_cases hlo : z < 1
            · clear hin
              go_wp2_with fail
              go_ret
              exact ⟨-1, rfl, .inr ⟨hbad.out, rfl⟩, _, rfl⟩
            · have hhi : (M : Int) < z := by omega
              clear hin
              go_wp2_with fail
              go_ret
              exact ⟨-1, rfl, .inr ⟨hbad.out, rfl⟩, _, rfl⟩
        · have hbad : Hid (¬ LenOK zs ls M zs.length) := fun hh => hlt2 (hh k hlt hF).1
          clear hF
          generalize fn zs k = fz at *
          go_wp2_with fail
          go_ret
          exact ⟨-1, rfl, .inr ⟨hbad.out, rfl⟩, _, rfl⟩
    · obtain rfl : k = zs.length := by omega
      go_wp2_with fail
      go_ret
      exact ⟨_, rfl, .inl ⟨HL.out, by rw [← HY.out]⟩, _, rfl⟩
/-- a number put into a falling row -/
def insD (x : Int) : List Int → List Int
  | [] => [x]
  | y :: ys => if y < x then x :: y :: ys else y :: insD x ys
def fall (zs : List Int) : Nat → List Int
  | 0 => []
  | k + 1 => if zn zs k = 0 then fall zs k else insD (zn zs k) (fall zs k)
theorem insD_length (x : Int) (l : List Int) : (insD x l).length = l.length + 1 := by
  induction l with
  | nil => rfl
  | cons y l ih => rw [insD]; split <;> simp [ih]
theorem fall_length (zs : List Int) (k : Nat) : (fall zs k).length ≤ k := by
  induction k with
  | zero => exact Nat.le_refl _
  | succ k ih => rw [fall]; split
                 · omega
                 · rw [insD_length]; omega
end Go.Proofs.Ytibhelfiibincaa
