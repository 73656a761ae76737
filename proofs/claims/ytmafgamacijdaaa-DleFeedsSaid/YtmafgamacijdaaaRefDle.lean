/- Contracts of the document's machine of layer 13. No condition beyond each theorem's own premises. -/
import Derived.Test.YtmafgamacijdaaaDleMath2
import Derived.Test.YtmafgamacijdaaaRefHst
import Derived.Test.YtmafgamacijdaaaKept
namespace Go.Proofs.Ytmafgamacijdaaa
set_option linter.unusedVariables false
set_option linter.unusedSimpArgs false
set_option maxRecDepth 100000
open Go.ChangeShapes Go.WideShapes Go.ChangeAt Go.RowKit

theorem two13_c (w : World) (n : Nat) (hn : n ≤ 60) : Calls Try.prog 30 #[.int .i64 n] w fun e w' => e = .returned (.int .i64 ((2 ^ n : Nat) : Int)) ∧ w = w' := by
  go_enter Try.func30, Try.ntmps30
  go_wp2_with fail
  go_loopw [3, 4] (fun xv iv wr => ∃ (k X : Nat), k ≤ n ∧ iv = .int .i64 k ∧ xv = .int .i64 X ∧ X = 2 ^ k ∧ wr = w) (fun _ iv _ => n - (intOf iv).toNat)
  case atStart => exact ⟨0, 1, by omega, rfl, rfl, rfl, rfl⟩
  case round =>
    obtain ⟨k, X, hk, rfl, rfl, hX, hwr⟩ := hrel
    have h5 : (2 : Nat) ^ k ≤ 2 ^ 60 := Nat.pow_le_pow_right (by decide) (by omega)
    by_cases hx : k < n
    · have t1 : decide (k < n) = true := by simpa using hx
      have hs : IntKind.i64.wrap ((k : Int) + 1) = ((k + 1 : Nat) : Int) := by rw [IntKind.wrap_i64]; omega
      have hm : IntKind.i64.wrap ((X : Int) * 2) = ((2 * X : Nat) : Int) := by rw [IntKind.wrap_i64]; omega
      have HX := Lib.hid hX
      clear hX h5
      go_wp2_with fail
      go_roundw
      case rel => exact ⟨k + 1, 2 * X, by omega, rfl, rfl, by rw [Nat.pow_succ, ← HX.out]; omega, by first | exact hwr | trivial⟩
      case measure => simp [intOf]; omega
    · have t1 : decide (k < n) = false := by simpa using hx
      have hk2 : k = n := by omega
      have HX := Lib.hid hX; have HK := Lib.hid hk2
      clear hX h5 hx hk2
      go_wp2_with fail
      go_ret
      rw [← HK.out, ← HX.out]
      exact ⟨rfl, by first | exact hwr.symm | trivial⟩
def MS.ok (m : MS) : Prop := 1 ≤ m.f ∧ m.f ≤ 4 ∧ m.st ≤ 3 ∧ m.V ≤ 255 ∧ m.N ≤ 382 ∧ (m.st = 2 → m.N ≤ 127) ∧ m.o.win = 65536
/-- block x is the document's machine in state m; its output lies at q, the bytes in v -/
def Mx (w : World) (x q : Nat) (v : Value) (m : MS) : Prop :=
  Blk w x #[.int .i64 m.f, .pointer (some ⟨q, 0, none⟩), .int .i64 m.st, .int .i64 m.V, .int .i64 m.N] 39 ∧ Rx w q v m.o ∧ x ≠ q ∧ (∀ b, v.ownBlock = some b → b ≠ x) ∧ m.ok
theorem Mx.keep {w w' : World} {x q : Nat} {v : Value} {m : MS} {S : List Nat} (h : Mx w x q v m) (k : Keep S w w') (hx : x ∉ S) (hq : q ∉ S) (hv : ∀ b, v.ownBlock = some b → b ∉ S) : Mx w' x q v m :=
  ⟨h.1.keep k hx, h.2.1.keep k hq hv, h.2.2⟩
theorem Mx.drewN {w : World} {x q : Nat} {v : Value} {m : MS} (h : Mx w x q v m) (n : Nat) : Mx (w.drewN n) x q v m := h.keep ((Keep.refl [] w).drewN n) (by simp) (by simp) (by simp)
theorem refm_full (w : World) (x q : Nat) (v : Value) (m : MS) (h : Mx w x q v m) : Calls Try.prog 16 #[.pointer (some ⟨x, 0, none⟩)] w fun e w' => e = .returned (.bool m.full) ∧ ∃ n, w' = w.drewN n := by
  have c1 := h.1.cell 1 _ rfl
  have c2 := h.1.cell 2 _ rfl
  have d1 := h.2.1.1.cell 1 _ rfl
  have d3 := h.2.1.1.cell 3 _ rfl
  obtain ⟨a, cp, rfl, _⟩ := h.2.1.2.1.bs.shape
  obtain ⟨bf, hbf⟩ : ∃ bf, m.full = bf := ⟨_, rfl⟩
  have hdef : m.full = (decide (m.st = 0) && decide (m.o.b.length = m.o.most)) := rfl
  rw [hbf] at hdef ⊢
  clear hbf
  by_cases h0 : m.st = 0
  · have t1 : ((m.st : Int) == 0) = true := by simp; omega
    by_cases h1 : m.o.b.length = m.o.most
    · have t2 : ((m.o.b.length : Int) == (m.o.most : Int)) = true := by simp; omega
      have hb : bf = true := by rw [hdef]; simp [h0, h1]
      clear hdef h0 h1
      subst hb
      go_enter Try.func16, Try.ntmps16
      go_wp2_with fail
      go_quiet (fail)
      go_wp2
      go_ret
      exact ⟨rfl, _, rfl⟩
    · have t2 : ((m.o.b.length : Int) == (m.o.most : Int)) = false := by simp; omega
      have hb : bf = false := by rw [hdef]; simp [h1]
      clear hdef h0 h1
      subst hb
      go_enter Try.func16, Try.ntmps16
      go_wp2_with fail
      go_quiet (fail)
      go_wp2
      go_ret
      exact ⟨rfl, _, rfl⟩
  · have t1 : ((m.st : Int) == 0) = false := by simp; omega
    have hb : bf = false := by rw [hdef]; simp [h0]
    clear hdef h0
    subst hb
    go_enter Try.func16, Try.ntmps16
    go_wp2_with fail
    go_quiet (fail)
    go_wp2
    go_ret
    exact ⟨rfl, _, rfl⟩
def MBad (f size : Int) : Prop := f < 1 ∨ 4 < f ∨ size < 0
theorem refm_bad (w : World) (f size : Int) (h : MBad f size) : Calls Try.prog 10 #[.int .i64 f, .int .i64 size] w fun e w' => e = .returned (.tuple #[.pointer none, .int .i64 2]) ∧ w = w' := by
  unfold MBad at h
  by_cases h1 : f < 1
  · have t1 : decide (f < 1) = true := by simpa using h1
    clear h h1
    go_enter Try.func10, Try.ntmps10
    go_wp2
    go_ret2
    exact ⟨rfl, rfl⟩
  · have t1 : decide (f < 1) = false := by simpa using h1
    by_cases h2 : 4 < f
    · have t2 : decide (4 < f) = true := by simpa using h2
      clear h h1 h2
      go_enter Try.func10, Try.ntmps10
      go_wp2
      go_ret2
      exact ⟨rfl, rfl⟩
    · have t2 : decide (4 < f) = false := by simpa using h2
      have t3 : decide (size < 0) = true := by simp; omega
      clear h h1 h2
      go_enter Try.func10, Try.ntmps10
      go_wp2
      go_ret2
      exact ⟨rfl, rfl⟩
theorem refm_new (w : World) (f size : Nat) (h1 : 1 ≤ f) (h4 : f ≤ 4) (hs : (size : Int) ≤ 9223372036854775807) : Calls Try.prog 10 #[.int .i64 f, .int .i64 size] w fun e w' => e = .returned (.tuple #[.pointer (some ⟨w.heap.size + 1, 0, none⟩), .int .i64 0]) ∧ Mx w' (w.heap.size + 1) w.heap.size (.slice none 0 0) ⟨f, ⟨65536, size, true, []⟩, 0, 0, 0⟩ ∧ Keep [] w w' := by
  have t1 : decide ((f : Int) < 1) = false := by simp; omega
  have t1' : decide (f < 1) = false := by simp; omega
  have t2 : decide ((4 : Int) < (f : Int)) = false := by simp; omega
  have t2' : decide (4 < f) = false := by simp; omega
  go_enter Try.func10, Try.ntmps10
  go_wp2
  go_ret2
  have hsz : (w.alloc (.cells #[.int .i64 65536, .int .i64 size, .bool true, .slice none 0 0] 36)).heap.size = w.heap.size + 1 := by simp
  have B1 := Blk.new (w.alloc (.cells #[.int .i64 65536, .int .i64 size, .bool true, .slice none 0 0] 36)) #[.int .i64 f, .pointer (some ⟨w.heap.size, 0, none⟩), .int .i64 0, .int .i64 0, .int .i64 0] 39
  rw [hsz] at B1
  refine ⟨rfl, ⟨B1, ⟨(Blk.new w _ _).alloc _, OwnB.nil _, by simp [Value.ownBlock], by show size ≤ 9223372036854775807; omega, by show 65536 ≤ 65536; omega⟩, by omega, by simp [Value.ownBlock], h1, h4, by show 0 ≤ 3; omega, by show 0 ≤ 255; omega, by show 0 ≤ 382; omega, (fun h => by cases h), rfl⟩, ((Keep.refl [] w).alloc _).alloc _⟩
end Go.Proofs.Ytmafgamacijdaaa
