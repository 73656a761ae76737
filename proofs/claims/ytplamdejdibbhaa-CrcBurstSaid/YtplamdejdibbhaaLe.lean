/- Lemmas on numbers and their bytes, the lowest first. No condition beyond each theorem's own premises. -/
import Derived.Test.YtplamdejdibbhaaMem
import Derived.Laws.BitsAllLaws
namespace Go.Proofs.Ytplamdejdibbhaa
set_option linter.unusedVariables false
set_option linter.unusedSimpArgs false
open Go.ChangeShapes Go.WideShapes Go.ChangeAt Go.RowKit

/-- bytes as a number, the lowest first -/
def le : List UInt8 → Nat
  | [] => 0
  | b :: l => b.toNat + 256 * le l
theorem le_lt : ∀ l : List UInt8, le l < 256 ^ l.length
  | [] => by simp [le]
  | b :: l => by
    have h := le_lt l
    have hb := b.toNat_lt
    simp only [le, List.length_cons, Nat.pow_succ]
    omega
theorem le_snoc : ∀ (l : List UInt8) (b : UInt8), le (l ++ [b]) = le l + 256 ^ l.length * b.toNat
  | [], b => by simp [le]
  | c :: l, b => by
    simp only [List.cons_append, le, le_snoc l b, List.length_cons, Nat.pow_succ]
    rw [Nat.mul_add, ← Nat.mul_assoc, Nat.mul_comm 256 (256 ^ l.length)]
    omega
theorem le_append : ∀ (l m : List UInt8), le (l ++ m) = le l + 256 ^ l.length * le m
  | [], m => by simp [le]
  | c :: l, m => by
    simp only [List.cons_append, le, le_append l m, List.length_cons, Nat.pow_succ]
    rw [Nat.mul_add, ← Nat.mul_assoc, Nat.mul_comm 256 (256 ^ l.length)]
    omega
theorem le_take_succ (l : List UInt8) (k : Nat) (h : k < l.length) : le (l.take (k + 1)) = le (l.take k) + 256 ^ k * l[k].toNat := by
  rw [List.take_succ_eq_append_getElem h, le_snoc, List.length_take, Nat.min_eq_left (by omega)]
theorem pow256 (k : Nat) : (256 : Nat) ^ k = 2 ^ (8 * k) := by rw [Nat.pow_mul]
theorem le_lt32 (l : List UInt8) (h : l.length ≤ 4) : le l < 4294967296 := by
  have h1 := le_lt l
  have h2 : 256 ^ l.length ≤ 256 ^ 4 := Nat.pow_le_pow_right (by decide) h
  have h3 : (256 : Nat) ^ 4 = 4294967296 := by decide
  omega
theorem le_or_step (l : List UInt8) (k : Nat) (h : k < l.length) (h4 : l.length ≤ 4) : Go.bits .or .u32 ((le (l.take k) : Nat) : Int) ((l[k].toNat : Int) % 4294967296 * 2 ^ (8 * k) % 4294967296) = ((le (l.take (k + 1)) : Nat) : Int) := by
  have hb := l[k].toNat_lt
  have hlt := le_lt (l.take k)
  rw [List.length_take, Nat.min_eq_left (by omega), pow256] at hlt
  have hnext := le_lt32 (l.take (k + 1)) (by rw [List.length_take]; omega)
  rw [le_take_succ l k h, pow256] at hnext ⊢
  have hk : k = 0 ∨ k = 1 ∨ k = 2 ∨ k = 3 := by omega
  have e : (l[k].toNat : Int) % 4294967296 * 2 ^ (8 * k) % 4294967296 = ((2 ^ (8 * k) * l[k].toNat : Nat) : Int) := by
    rcases hk with rfl | rfl | rfl | rfl <;> (simp; omega)
  rw [e, u32_or_nat _ _ (by omega) (by omega), Nat.or_comm, nat_join (8 * k) _ _ (by simp) hlt, Nat.add_comm]

/-- n bytes of a number, the lowest first -/
def lb : Nat → Nat → List UInt8
  | 0, _ => []
  | n + 1, x => UInt8.ofNat x :: lb n (x / 256)
theorem lb_length : ∀ n x, (lb n x).length = n
  | 0, x => rfl
  | n + 1, x => by simp [lb, lb_length n]
theorem le_lb : ∀ n x, le (lb n x) = x % 256 ^ n
  | 0, x => by simp [lb, le, Nat.mod_one]
  | n + 1, x => by
    simp only [lb, le, le_lb n, UInt8.toNat_ofNat']
    rw [show 2 ^ 8 = 256 from rfl, Nat.pow_succ, Nat.mul_comm (256 ^ n) 256, Nat.mod_mul]
theorem lb_snoc : ∀ n x, lb (n + 1) x = lb n x ++ [UInt8.ofNat (x / 256 ^ n)]
  | 0, x => by simp [lb]
  | n + 1, x => by
    rw [lb, lb_snoc n, lb]
    simp only [List.cons_append, List.cons.injEq, true_and]
    rw [Nat.div_div_eq_div_mul, Nat.pow_succ, Nat.mul_comm 256]
theorem le_inj : ∀ l m : List UInt8, l.length = m.length → le l = le m → l = m
  | [], [], _, _ => rfl
  | a :: l, b :: m, h, e => by
    have ha := a.toNat_lt
    have hb := b.toNat_lt
    simp only [le] at e
    have e1 : a.toNat = b.toNat := by omega
    have e2 : le l = le m := by omega
    rw [UInt8.toNat_inj.1 e1, le_inj l m (by simpa using h) e2]
  | [], _ :: _, h, _ => by simp at h
  | _ :: _, [], h, _ => by simp at h
end Go.Proofs.Ytplamdejdibbhaa
