/- Contract of slices.Clone of bytes, and pieces of a slice of bytes. -/
import Derived.Test.YtgohdhpokehflaaAppend
namespace Go.Proofs.Ytgohdhpokehflaa
set_option linter.unusedVariables false
set_option linter.unusedSimpArgs false
open Go.ChangeShapes Go.WideShapes Go.ChangeAt Go.RowKit

/-- slices.Clone of bytes -/
theorem clone_nil (w : World) : Calls Try.prog 34 #[.slice none 0 0] w fun e w' => e = .returned (.slice none 0 0) ∧ w = w' := by
  have hn := Lib.run_eql_slice_nil (P := Try.prog) w 22 5 none 0 0 0 0 Try.underlying22
  go_enter Try.func34, Try.ntmps34
  go_wp2
  go_ret
  exact ⟨rfl, rfl⟩
theorem clone_c (w : World) (v : Value) (l : List UInt8) (hl : l.length ≤ 140737488355328) (h : Bs w v l) : Calls Try.prog 34 #[v] w fun e w' => ∃ v', e = .returned v' ∧ OwnB w' v' l ∧ Keep [] w w' ∧ ∀ b, v'.ownBlock = some b → w.heap.size ≤ b := by
  have h0 := h
  obtain ⟨a, cap, rfl, h1, h2, h3, h4⟩ := h
  cases a with
  | none =>
    obtain rfl := h3 rfl
    obtain rfl : l = [] := List.eq_nil_of_length_eq_zero (by omega)
    exact (clone_nil w).mono fun e w' ⟨he, hw⟩ => ⟨_, he, hw ▸ OwnB.nil w, hw ▸ Keep.refl _ _, fun b hb => by simp [Value.ownBlock] at hb⟩
  | some x =>
    have hc := h4 x rfl
    have hn := Lib.run_eql_slice_nil (P := Try.prog) w 22 5 (some x) l.length cap 0 0 Try.underlying22
    clear h4 h3
    have hb : Bs (w.alloc (.cells #[] 5)) (.slice (some x) l.length cap) l := h0.keep ((Keep.refl [] w).alloc _) (by simp)
    have hm := OwnB.made w
    clear h0
    go_enter Try.func34, Try.ntmps34
    go_wp2_with (at_builtin; refine wpList_appendB (.tmp 5) (.tmp 6) rfl rfl (.slice (some ⟨w.heap.size, 0, none⟩) 0 0) [] rfl hm (.slice (some x) l.length cap) l rfl hb (by simpa using hl) ?_; intro v' w' ho hk hv hz)
    go_ret
    refine ⟨v', rfl, ho, (((Keep.refl [] w).alloc _).trans hk (by simp [Value.ownBlock])), fun b hb => ?_⟩
    rcases hv b hb with h | h
    · simp only [Value.ownBlock, Option.some.injEq] at h; omega
    · simp at h; omega

theorem Bs.part {w : World} {l : List UInt8} {g cap : Nat} (hc : l.length ≤ cap) (hm : cap ≤ maxLen) (hcell : ∀ i (hi : i < l.length), w.cell? ⟨g, i, none⟩ = some (.int .u8 (l[i].toNat))) (p n : Nat) (h : p + n ≤ l.length) (hp : p < cap) :
    Bs w (.slice (some ⟨g, p, none⟩) n (cap - p)) ((l.drop p).take n) := by
  have e : ((l.drop p).take n).length = n := by simp; omega
  refine ⟨some ⟨g, p, none⟩, cap - p, by rw [e], by omega, by omega, (fun h => nomatch h), fun x hx i hi => ?_⟩
  obtain rfl : (⟨g, p, none⟩ : Addr) = x := by simpa using hx
  rw [e] at hi
  rw [show (⟨g, p, none⟩ : Addr).add i = ⟨g, p + i, none⟩ by unfold Addr.add; split <;> simp_all, hcell (p + i) (by omega)]
  simp
/-- a piece whose capacity is its length -/
theorem Bs.part3 {w : World} {l : List UInt8} {g cap : Nat} (hc : l.length ≤ cap) (hm : cap ≤ maxLen) (hcell : ∀ i (hi : i < l.length), w.cell? ⟨g, i, none⟩ = some (.int .u8 (l[i].toNat))) (p n : Nat) (h : p + n ≤ l.length) :
    Bs w (.slice (some ⟨g, p, none⟩) n n) ((l.drop p).take n) := by
  have e : ((l.drop p).take n).length = n := by simp; omega
  refine ⟨some ⟨g, p, none⟩, n, by rw [e], by omega, by omega, (fun h => nomatch h), fun x hx i hi => ?_⟩
  obtain rfl : (⟨g, p, none⟩ : Addr) = x := by simpa using hx
  rw [e] at hi
  rw [show (⟨g, p, none⟩ : Addr).add i = ⟨g, p + i, none⟩ by unfold Addr.add; split <;> simp_all, hcell (p + i) (by omega)]
  simp
theorem Bs.none_of_len {w : World} (a : Option Addr) (h : a ≠ none) : Bs w (.slice a 0 0) [] :=
  ⟨a, 0, rfl, by simp, by simp, fun _ => rfl, fun _ _ i hi => by simp at hi⟩

theorem Bs.new1 (w : World) (c : UInt8) : Bs (w.alloc (.cells #[.int .u8 (c.toNat)] 5)) (.slice (some ⟨w.heap.size, 0, none⟩) 1 1) [c] := by
  refine ⟨some ⟨w.heap.size, 0, none⟩, 1, rfl, by simp, by simp [maxLen], (fun h => nomatch h), fun x hx i hi => ?_⟩
  obtain rfl : (⟨w.heap.size, 0, none⟩ : Addr) = x := by simpa using hx
  obtain rfl : i = 0 := by simpa using hi
  exact (Blk.new w #[.int .u8 (c.toNat)] 5).cell 0 _ rfl
/-- a literal of bytes -/
theorem Bs.lit (w : World) (l : List UInt8) (cs : Array Value) (n : Nat) (hc : cs.toList = ints8 l) (hn : l.length = n) (hl : n ≤ maxLen) : Bs (w.alloc (.cells cs 5)) (.slice (some ⟨w.heap.size, 0, none⟩) n n) l := by
  subst hn
  refine ⟨some ⟨w.heap.size, 0, none⟩, l.length, rfl, Nat.le_refl _, hl, (fun h => nomatch h), fun x hx i hi => ?_⟩
  obtain rfl : (⟨w.heap.size, 0, none⟩ : Addr) = x := by simpa using hx
  rw [show (⟨w.heap.size, 0, none⟩ : Addr).add i = ⟨w.heap.size, i, none⟩ by unfold Addr.add; split <;> simp_all]
  refine (Blk.new w cs 5).cell i _ ?_
  rw [← Array.getElem?_toList, hc]
  simp [ints8, hi]
end Go.Proofs.Ytgohdhpokehflaa
