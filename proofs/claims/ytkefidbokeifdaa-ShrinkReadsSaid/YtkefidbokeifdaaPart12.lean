/- Texts put together: Hst -/
import Derived.Test.YtkefidbokeifdaaPart11
import Derived.Lib.MinMax
namespace Go.Proofs.Ytkefidbokeifdaa
set_option linter.unusedVariables false
set_option linter.unusedSimpArgs false
open Go.ChangeShapes Go.WideShapes Go.ChangeAt Go.RowKit

/-- block q is an output in state s; bs: all its blocks, q among them -/
def Ho (w : World) (q : Nat) (bs : List Nat) (s : HS) : Prop := ∃ v : Value, bs = q :: v.ownBlock.toList ∧ Hv w q v s
theorem Ho.keep {w w' : World} {q : Nat} {bs S : List Nat} {s : HS} (h : Ho w q bs s) (k : Keep S w w') (hs : ∀ b ∈ bs, b ∉ S) : Ho w' q bs s := by
  obtain ⟨v, rfl, h⟩ := h
  exact ⟨v, rfl, h.keep k (hs q (by simp)) (fun b hb => hs b (by simp [hb]))⟩
theorem Ho.lt {w : World} {q : Nat} {bs : List Nat} {s : HS} (h : Ho w q bs s) : ∀ b ∈ bs, b < w.heap.size := by
  obtain ⟨v, rfl, h⟩ := h
  intro b hb
  rcases List.mem_cons.1 hb with rfl | hb
  · exact h.1.lt
  · exact h.2.1.lt b (by simpa using hb)
theorem Ho.ok {w : World} {q : Nat} {bs : List Nat} {s : HS} (h : Ho w q bs s) : s.b.length ≤ s.most ∧ s.most ≤ 9223372036854775807 ∧ s.win ≤ 65536 ∧ 1 ≤ s.win := by
  obtain ⟨v, rfl, h⟩ := h
  exact h.2.2.2
/-- what a call that tells bytes leaves behind -/
def HoStep (w w' : World) (q : Nat) (bs : List Nat) (s' : HS) : Prop := ∃ bs', Ho w' q bs' s' ∧ Keep bs w w' ∧ ∀ b ∈ bs', b ∈ bs ∨ w.heap.size ≤ b
theorem HoStep.of {w w' : World} {q : Nat} {v v' : Value} {s' : HS} (h : Hv w' q v' s') (k : Keep (q :: v.ownBlock.toList) w w') (hb : ∀ b, v'.ownBlock = some b → v.ownBlock = some b ∨ w.heap.size ≤ b) : HoStep w w' q (q :: v.ownBlock.toList) s' := by
  refine ⟨_, ⟨v', rfl, h⟩, k, ?_⟩
  intro b hb'
  rcases List.mem_cons.1 hb' with rfl | hb'
  · exact .inl (by simp)
  · rcases hb b (by simpa using hb') with h' | h'
    · exact .inl (by simp [h'])
    · exact .inr h'
theorem hs_new (w : World) (win most : Int) (nou : Bool) (hm : most ≤ 9223372036854775807) (hm2 : -9223372036854775808 ≤ most) : Calls Try.prog 19 #[.int .i64 win, .int .i64 most, .bool nou] w fun e w' => ∃ p er, e = .returned (.tuple #[.pointer p, .int .i64 (er : Nat)]) ∧ Keep [] w w' ∧ (hsBad win most → p = none ∧ er = 2) ∧ (¬ hsBad win most → er = 0 ∧ ∃ q bs, p = some ⟨q, 0, none⟩ ∧ Ho w' q bs ⟨win.toNat, most.toNat, nou, []⟩ ∧ ∀ b ∈ bs, w.heap.size ≤ b) := by
  by_cases hb : hsBad win most
  · have hb' := hb
    unfold hsBad at hb'
    have HB := Lib.hid hb; clear hb
    by_cases h1 : win < 1
    · have t1 : decide (win < 1) = true := by simpa using h1
      clear hb' h1
      go_enter Try.func19, Try.ntmps19
      go_wp2
      go_ret2
      exact ⟨none, 2, rfl, Keep.refl _ _, fun _ => ⟨rfl, rfl⟩, fun h => absurd HB.out h⟩
    · have t1 : decide (win < 1) = false := by simpa using h1
      by_cases h2 : 65536 < win
      · have t2 : decide (65536 < win) = true := by simpa using h2
        clear hb' h1 h2
        go_enter Try.func19, Try.ntmps19
        go_wp2
        go_ret2
        exact ⟨none, 2, rfl, Keep.refl _ _, fun _ => ⟨rfl, rfl⟩, fun h => absurd HB.out h⟩
      · have t2 : decide (65536 < win) = false := by simpa using h2
        have t3 : decide (most < 0) = true := by simp; omega
        clear hb' h1 h2
        go_enter Try.func19, Try.ntmps19
        go_wp2
        go_ret2
        exact ⟨none, 2, rfl, Keep.refl _ _, fun _ => ⟨rfl, rfl⟩, fun h => absurd HB.out h⟩
  · have hb' := hb
    unfold hsBad at hb'
    have HB := Lib.hid hb; clear hb
    have t1 : decide (win < 1) = false := by simp; omega
    have t2 : decide (65536 < win) = false := by simp; omega
    have t3 : decide (most < 0) = false := by simp; omega
    have e1 : (win.toNat : Int) = win := by omega
    have e2 : (most.toNat : Int) = most := by omega
    have e3 : most.toNat ≤ 9223372036854775807 ∧ win.toNat ≤ 65536 ∧ 1 ≤ win.toNat := by omega
    have HE := Lib.hid e1; have HE2 := Lib.hid e2; have HE3 := Lib.hid e3
    clear hb' e1 e2 e3
    go_enter Try.func19, Try.ntmps19
    go_wp2
    go_ret2
    refine ⟨_, 0, rfl, (Keep.refl _ _).alloc _, fun h => absurd h HB.out, fun _ => ⟨rfl, w.heap.size, [w.heap.size], rfl, ?_, by simp⟩⟩
    refine ⟨.slice none 0 0, rfl, ?_, OwnB.nil _, by simp [Value.ownBlock], Nat.zero_le _, HE3.out⟩
    have := Blk.new w #[.slice none 0 0, .int .i64 win, .int .i64 most, .bool nou] 76
    show Blk _ _ #[_, .int .i64 ((win.toNat : Nat) : Int), .int .i64 ((most.toNat : Nat) : Int), .bool nou] _
    rw [HE.out, HE2.out]
    exact this
theorem hs_lit (w : World) (q : Nat) (bs : List Nat) (s : HS) (c : UInt8) (h : Ho w q bs s) (hl : s.b.length + 1 ≤ 140737488350000) : Calls Try.prog 55 #[.pointer (some ⟨q, 0, none⟩), .int .u8 c.toNat] w fun e w' => e = .returned (.int .i64 (s.lit c).1) ∧ HoStep w w' q bs (s.lit c).2 := by
  obtain ⟨v, rfl, h⟩ := h
  refine (litw_c w q v s c h hl).mono ?_
  rintro e w' ⟨he, v', h1, h2, h3⟩
  exact ⟨he, HoStep.of h1 h2 h3⟩
theorem hs_bytes (w : World) (q : Nat) (bs : List Nat) (s : HS) (h : Ho w q bs s) (hl : s.b.length ≤ 140737488350000) : Calls Try.prog 25 #[.pointer (some ⟨q, 0, none⟩)] w fun e w' => ∃ v, e = .returned v ∧ OwnB w' v s.b ∧ Keep [] w w' ∧ ∀ b, v.ownBlock = some b → w.heap.size ≤ b := by
  obtain ⟨v, rfl, h⟩ := h
  exact bytes_c w q v s h (by omega)
theorem hs_full (w : World) (q : Nat) (bs : List Nat) (s : HS) (h : Ho w q bs s) : Calls Try.prog 22 #[.pointer (some ⟨q, 0, none⟩)] w fun e w' => e = .returned (.bool (decide (s.b.length = s.most))) ∧ ∃ n, w' = w.drewN n := by
  obtain ⟨v, rfl, h⟩ := h
  exact full_c w q v s h
end Go.Proofs.Ytkefidbokeifdaa
