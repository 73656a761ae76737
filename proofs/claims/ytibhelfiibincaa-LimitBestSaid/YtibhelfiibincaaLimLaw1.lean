/- Contract of lives, and the walk of the law LimitCosts: it returns true at every input. -/
import Derived.Test.YtibhelfiibincaaLim
namespace Go.Proofs.Ytibhelfiibincaa
set_option linter.unusedVariables false
set_option linter.unusedSimpArgs false
open Go.ChangeShapes Go.WideShapes Go.ChangeAt Go.RowKit

theorem Is.lit (w : World) (l : List Int) (cs : Array Value) (n : Nat) (hc : cs.toList = ints64 l) (hn : l.length = n) (hl : n ≤ maxLen) (hz : ∀ z ∈ l, (Lit.int .i64 z).wf = true) : Is .i64 (w.alloc (.cells cs 3)) (.slice (some ⟨w.heap.size, 0, none⟩) n n) l := by
  subst hn
  refine ⟨some ⟨w.heap.size, 0, none⟩, l.length, rfl, Nat.le_refl _, hl, (fun h => nomatch h), fun x hx i hi => ?_, hz⟩
  obtain rfl : (⟨w.heap.size, 0, none⟩ : Addr) = x := by simpa using hx
  rw [show (⟨w.heap.size, 0, none⟩ : Addr).add i = ⟨w.heap.size, i, none⟩ by unfold Addr.add; split <;> simp_all]
  refine (Blk.new w cs 3).cell i _ ?_
  rw [← Array.getElem?_toList, hc]
  simp [ints64, hi]
theorem lives_may : mayF [1, 1, 2, 4] 8 = true := by decide
set_option maxRecDepth 100000 in
theorem lives_fin' : ∀ d c a b : Fin 9, 1 ≤ d.val ∧ d.val ≤ c.val ∧ c.val ≤ a.val ∧ c.val ≤ b.val ∧ a.val + b.val + 2 * c.val + 4 * d.val ≤ 14 ∧ 2 ^ (16 - a.val) + 2 ^ (16 - b.val) + 2 ^ (16 - c.val) + 2 ^ (16 - d.val) = 65536 → d.val = 1 ∧ a.val = 3 := by decide +kernel
theorem lives_fin (d : Nat) (hd : d < 9) (c : Nat) (hc : c < 9) (a : Nat) (ha : a < 9) (b : Nat) (hb : b < 9) (h1 : 1 ≤ d) (h2 : d ≤ c) (h3 : c ≤ a) (h4 : c ≤ b) (h5 : a + b + 2 * c + 4 * d ≤ 14) (h6 : 2 ^ (16 - a) + 2 ^ (16 - b) + 2 ^ (16 - c) + 2 ^ (16 - d) = 65536) : d = 1 ∧ a = 3 :=
  lives_fin' ⟨d, hd⟩ ⟨c, hc⟩ ⟨a, ha⟩ ⟨b, hb⟩ ⟨h1, h2, h3, h4, h5, h6⟩
theorem lives_best {ls : List Int} (h : BestL [1, 1, 2, 4] ls 8) : ∃ a b, ls = [3, a, b, 1] := by
  obtain ⟨hl, hz, hg⟩ := h
  match ls, hl with
  | [z0, z1, z2, z3], _ =>
    have h0 := hz z0 (by simp); have h1 := hz z1 (by simp); have h2 := hz z2 (by simp); have h3 := hz z3 (by simp)
    obtain ⟨a, rfl⟩ := Int.eq_ofNat_of_zero_le h0.1
    obtain ⟨b, rfl⟩ := Int.eq_ofNat_of_zero_le h1.1
    obtain ⟨c, rfl⟩ := Int.eq_ofNat_of_zero_le h2.1
    obtain ⟨d, rfl⟩ := Int.eq_ofNat_of_zero_le h3.1
    have l0 := hg.le 0 (by decide); have l1 := hg.le 1 (by decide); have l2 := hg.le 2 (by decide); have l3 := hg.le 3 (by decide)
    have m1 := hg.mono 3 2 (by decide) (by decide) (by decide) (by decide)
    have m2 := hg.mono 2 0 (by decide) (by decide) (by decide) (by decide)
    have m3 := hg.mono 2 1 (by decide) (by decide) (by decide) (by decide)
    have p3 := hg.zero 3 (by decide)
    have hf := hg.full (by decide)
    have hb := hg.best (fun i => if i = 3 then 1 else if i = 2 then 2 else 3) (by decide) (by decide)
    have e : ∀ i, fn [(a : Int), (b : Int), (c : Int), (d : Int)] i = [a, b, c, d].getD i 0 := by
      intro i
      match i with
      | 0 => rfl
      | 1 => rfl
      | 2 => rfl
      | 3 => rfl
      | n + 4 => rfl
    simp only [e] at l0 l1 l2 l3 m1 m2 m3 p3
    have hfe : (fn [(a : Int), (b : Int), (c : Int), (d : Int)]) = fun i => [a, b, c, d].getD i 0 := funext e
    rw [hfe] at hf hb
    have hf2 : 2 ^ (16 - a) + 2 ^ (16 - b) + 2 ^ (16 - c) + 2 ^ (16 - d) = 65536 := by
      have : wsum 4 (fn [1, 1, 2, 4]) (fun i => [a, b, c, d].getD i 0) 16 = 0 + 2 ^ (16 - a) + 2 ^ (16 - b) + 2 ^ (16 - c) + 2 ^ (16 - d) := rfl
      have h2 : wsum 4 (fn [1, 1, 2, 4]) (fun i => [a, b, c, d].getD i 0) 16 = 65536 := hf
      omega
    have hb2 : a + b + 2 * c + 4 * d ≤ 14 := by
      have h1 : cost 4 (fn [1, 1, 2, 4]) (fun i => [a, b, c, d].getD i 0) = 0 + 1 * a + 1 * b + 2 * c + 4 * d := rfl
      have h2 : cost 4 (fn [1, 1, 2, 4]) (fun i => if i = 3 then 1 else if i = 2 then 2 else 3) = 14 := by decide
      have h3 : cost 4 (fn [1, 1, 2, 4]) (fun i => [a, b, c, d].getD i 0) ≤ cost 4 (fn [1, 1, 2, 4]) (fun i => if i = 3 then 1 else if i = 2 then 2 else 3) := hb
      omega
    have l0' : a ≤ 8 := l0
    have l1' : b ≤ 8 := l1
    have l2' : c ≤ 8 := l2
    have l3' : d ≤ 8 := l3
    have m1' : d ≤ c := m1
    have m2' : c ≤ a := m2
    have m3' : c ≤ b := m3
    have p3' : d ≠ 0 := fun e => by
      have : (fn [1, 1, 2, 4]) 3 = 0 := p3.1 e
      simp [fn] at this
    obtain ⟨rfl, rfl⟩ := lives_fin d (by omega) c (by omega) a (by omega) b (by omega) (by omega) m1' m2' m3' hb2 hf2
    exact ⟨b, c, rfl⟩
theorem lives_c (w : World) : Calls Try.prog 11 #[] w fun e w' => e = .returned (.bool true) ∧ Keep [] w w' := by
  have hb := Is.lit w [1, 1, 2, 4] #[.int .i64 1, .int .i64 1, .int .i64 2, .int .i64 4] 4 rfl rfl (by decide) (by decide)
  have hk := (Keep.refl [] w).alloc (.cells #[.int .i64 1, .int .i64 1, .int .i64 2, .int .i64 4] 3)
  have hc := lim_lengths _ _ _ 8 hb (by decide)
  have HC := Lib.hid hc
  clear hc
  go_enter Try.func11, Try.ntmps11
  go_wp2_with fail
  refine HC.out.mono ?_; rintro e w1 ⟨v', ls, er, rfl, hi, hk1, _, hbest⟩
  obtain ⟨rfl, hb2⟩ := hbest lives_may
  have K1 := hk.trans hk1 (by simp)
  obtain ⟨b, c, rfl⟩ := lives_best hb2
  obtain ⟨b1, off, cap, rfl, e0⟩ := hi.at 0 (by simp)
  obtain ⟨b2, off2, cap2, hv, e1⟩ := hi.at 3 (by simp)
  simp only [Value.slice.injEq] at hv
  obtain ⟨h1, h2, rfl⟩ := hv
  injection h1 with h1
  injection h1 with h1 h3 _
  subst h1 h3
  have e0' : w1.cell? ⟨b1, off, none⟩ = some (.int .i64 3) := by simpa using e0
  have e1' : w1.cell? ⟨b1, off + 3, none⟩ = some (.int .i64 1) := by simpa using e1
  clear hb hk hk1 HC hi hbest hb2 h2 e0 e1
  go_wp2_with fail
  go_ret
  exact ⟨rfl, K1⟩
theorem few_c (w : World) (v : Value) (zs : List Int) (n : Nat) (hn : n ≤ 9223372036854775807) (h : Is .i64 w v zs) : Calls Try.prog 8 #[v, .int .i64 n] w fun e w' => ∃ v', e = .returned v' ∧ Is .i64 w v' (zs.take n) ∧ w = w' := by
  go_enter Try.func8, Try.ntmps8
  go_wp2_with fail
  refine (refints_c w v zs n hn h).mono ?_; rintro e w' ⟨v', rfl, a, b, rfl⟩
  go_wp2_with fail
  go_ret
  exact ⟨v', rfl, a, rfl⟩
theorem costs_w (W : World) (v0 : Value) (zs0 : List Int) (h0 : Is .i64 W v0 zs0) (v1 : Value) (ls0 : List Int) (h1 : Is .i64 W v1 ls0) : Calls Try.prog 6 #[v0, v1] W fun e w' => e = .returned (.bool true) ∧ Keep [] W w' := by
  go_enter Try.func6, Try.ntmps6
  go_wp2_with fail
  refine (few_c W v0 zs0 60 (by omega) h0).mono ?_; rintro e w1 ⟨va, rfl, ha, rfl⟩
  go_wp2_with fail
  refine (few_c W v1 ls0 60 (by omega) h1).mono ?_; rintro e w1 ⟨vb, rfl, hb, rfl⟩
  generalize zs0.take 60 = zs at ha
  generalize ls0.take 60 = ls at hb
  go_wp2_with fail
  refine (lim_cost W va vb zs ls ha hb).mono ?_; rintro e w1 ⟨rfl, n1, rfl⟩
  go_wp2_with fail
  refine (refcost_c _ va vb zs ls (ha.drewN' n1) (hb.drewN' n1)).mono ?_; rintro e w2 ⟨rfl, n2, rfl⟩
  generalize IntKind.i64.wrap (isum zs ls zs.length) = x
  go_wp2_with fail
  refine (lives_c _).mono ?_; rintro e w12 ⟨rfl, k12⟩
  go_wp2_with fail
  go_ret
  exact ⟨rfl, ((Keep.refl [] W).drewN _).trans k12 (by simp)⟩
theorem isum_nat (zs ls : List Int) (N : Nat) (hz : ∀ i, i < N → 0 ≤ zn zs i) (hl : ∀ i, i < N → 0 ≤ zn ls i) : isum zs ls N = ((cost N (fn zs) (fn ls) : Nat) : Int) := by
  unfold cost
  induction N with
  | zero => rfl
  | succ N ih =>
    rw [isum, ih (fun i hi => hz i (by omega)) (fun i hi => hl i (by omega)), sm]
    have a : zn zs N = ((fn zs N : Nat) : Int) := by have := hz N (by omega); unfold fn zn at *; omega
    have b : zn ls N = ((fn ls N : Nat) : Int) := by have := hl N (by omega); unfold fn zn at *; omega
    rw [a, b]; simp
theorem cost_bound (zs ls : List Int) (N : Nat) (hN : N ≤ 60) (hz : ∀ i, i < N → fn zs i ≤ 1099511627776) (hl : ∀ i, i < N → fn ls i ≤ 16) : cost N (fn zs) (fn ls) ≤ 1055531162664960 := by
  unfold cost
  have h1 := sum_bound (fun i => fn zs i * fn ls i) (1099511627776 * 16) N (fun i hi => Nat.mul_le_mul (hz i hi) (hl i hi))
  have h2 := Nat.mul_le_mul_left (1099511627776 * 16) hN
  omega
end Go.Proofs.Ytibhelfiibincaa
