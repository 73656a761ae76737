/- The walk of the law LimitLeast: it returns true at every input. -/
import Derived.Test.YtibhelfiibincaaLimLaw2
import Derived.Test.YtibhelfiibincaaWithin
namespace Go.Proofs.Ytibhelfiibincaa
set_option linter.unusedVariables false
set_option linter.unusedSimpArgs false
open Go.ChangeShapes Go.WideShapes Go.ChangeAt Go.RowKit

theorem insD_perm (x : Int) (l : List Int) : (insD x l).Perm (x :: l) := by
  induction l with
  | nil => exact List.Perm.refl _
  | cons y l ih =>
    rw [insD]
    split
    · exact List.Perm.refl _
    · exact (ih.cons y).trans (List.Perm.swap x y l)
theorem insD_mem (x : Int) (l : List Int) (z : Int) (h : z ∈ insD x l) : z = x ∨ z ∈ l := by
  have := (insD_perm x l).mem_iff.1 h
  simpa using this
theorem insD_sorted (x : Int) (l : List Int) (h : l.Pairwise (· ≥ ·)) : (insD x l).Pairwise (· ≥ ·) := by
  induction l with
  | nil => simp [insD]
  | cons y l ih =>
    obtain ⟨h1, h2⟩ := List.pairwise_cons.1 h
    rw [insD]
    split
    · next hlt =>
      refine List.pairwise_cons.2 ⟨fun z hz => ?_, h⟩
      rcases List.mem_cons.1 hz with e | e
      · omega
      · have := h1 z e; omega
    · next hge =>
      refine List.pairwise_cons.2 ⟨fun z hz => ?_, ih h2⟩
      rcases insD_mem x l z hz with e | e
      · omega
      · exact h1 z e
theorem fall_sorted (zs : List Int) (k : Nat) : (fall zs k).Pairwise (· ≥ ·) := by
  induction k with
  | zero => simp [fall]
  | succ k ih => rw [fall]; split
                 · exact ih
                 · exact insD_sorted _ _ ih
theorem fall_perm (zs : List Int) (hz : ∀ i, 0 ≤ zn zs i) (k : Nat) : (fall zs k).Perm (((List.range k).filter fun i => decide (fn zs i ≠ 0)).map (zn zs)) := by
  induction k with
  | zero => exact List.Perm.refl _
  | succ k ih =>
    rw [List.range_succ, List.filter_append, List.map_append, fall]
    have e : fn zs k = (zn zs k).toNat := rfl
    have := hz k
    by_cases h : zn zs k = 0
    · rw [if_pos h]
      have : fn zs k = 0 := by omega
      simpa [this] using ih
    · rw [if_neg h]
      have : fn zs k ≠ 0 := by omega
      simp only [List.filter_cons, this, ne_eq, not_false_eq_true, decide_true, if_true, List.filter_nil, List.map_cons, List.map_nil]
      exact (insD_perm _ _).trans ((ih.cons _).trans (List.perm_append_singleton _ _).symm)
theorem sorted_unique : ∀ (l l' : List Int), l.Pairwise (· ≥ ·) → l'.Pairwise (· ≥ ·) → l.Perm l' → l = l' := by
  intro l
  induction l with
  | nil => intro l' _ _ h; exact (List.Perm.nil_eq h)
  | cons x l ih =>
    intro l' h h' hp
    cases l' with
    | nil => exact absurd hp.symm (by simp)
    | cons y l' =>
      obtain ⟨a1, a2⟩ := List.pairwise_cons.1 h
      obtain ⟨b1, b2⟩ := List.pairwise_cons.1 h'
      have hx : x ∈ y :: l' := hp.mem_iff.1 (by simp)
      have hy : y ∈ x :: l := hp.mem_iff.2 (by simp)
      have e : x = y := by
        rcases List.mem_cons.1 hx with e | e
        · exact e
        · rcases List.mem_cons.1 hy with e' | e'
          · exact e'.symm
          · have := a1 y e'; have := b1 x e; omega
      subst e
      rw [ih l' a2 b2 (List.Perm.cons_inv hp)]
theorem fall_row {zs : List Int} (hf : okF zs = true) (ord : List Nat) (hr : RowOf zs.length (fn zs) ord) (hs : ∀ p q, p ≤ q → q < ord.length → fn zs (ord.getD q 0) ≤ fn zs (ord.getD p 0)) : (fall zs zs.length).map Int.toNat = ord.map (fn zs) := by
  have hz : ∀ i, 0 ≤ zn zs i := by
    intro i
    rcases Nat.lt_or_ge i zs.length with h | h
    · have := okF_get hf i h; rw [zn_get zs i h]; omega
    · unfold zn; rw [List.getD_eq_getElem?_getD, List.getElem?_eq_none h]; simp
  have e : fall zs zs.length = ord.map (zn zs) := by
    refine sorted_unique _ _ (fall_sorted zs _) ?_ ((fall_perm zs hz _).trans (hr.perm.map _).symm)
    refine List.pairwise_iff_getElem.2 (fun i j hi hj hij => ?_)
    simp only [List.length_map] at hi hj
    have h1 := hs i j (by omega) hj
    have g1 : ord.getD i 0 = ord[i] := by simp [hi]
    have g2 : ord.getD j 0 = ord[j] := by simp [hj]
    rw [g1, g2] at h1
    simp only [List.getElem_map]
    have h2 := hz ord[i]; have h3 := hz ord[j]
    have e1 : fn zs ord[i] = (zn zs ord[i]).toNat := rfl
    have e2 : fn zs ord[j] = (zn zs ord[j]).toNat := rfl
    omega
  rw [e, List.map_map]; rfl
theorem fall_ok {zs : List Int} (hf : okF zs = true) (k : Nat) (hk : k ≤ zs.length) : okF (fall zs k) = true := by
  rw [okF_iff]
  induction k with
  | zero => simp [fall]
  | succ k ih =>
    rw [fall]
    split
    · exact ih (by omega)
    · intro z hz
      rcases insD_mem _ _ _ hz with e | e
      · subst e
        rw [zn_get zs k (by omega)]
        exact (okF_iff zs).1 hf _ (List.getElem_mem _)
      · exact ih (by omega) z e
theorem least_eq {zs ls : List Int} {M : Nat} (h1 : 1 ≤ M) (h16 : M ≤ 16) (hf : okF zs = true) (hN : zs.length ≤ 60) (hb : BestL zs ls M) (hu : 2 ≤ usedN zs.length (fn zs)) :
    IntKind.i64.wrap (isum zs ls zs.length) = bst (fn (fall zs zs.length)) (fall zs zs.length).length M 0 2 1 0 := by
  obtain ⟨hll, hlz, hg⟩ := hb
  have hz : ∀ i, i < zs.length → 0 ≤ zn zs i ∧ fn zs i ≤ 1099511627776 := fun i hi => by
    have := okF_get hf i hi
    rw [zn_get zs i hi]; omega
  have hl : ∀ i, i < zs.length → 0 ≤ zn ls i ∧ fn ls i ≤ 16 := fun i hi => by
    have h1 := hlz (ls[i]'(by omega)) (List.getElem_mem _)
    rw [zn_get ls i (by omega), fn_get ls i (by omega)]; omega
  rw [isum_nat zs ls _ (fun i hi => (hz i hi).1) (fun i hi => (hl i hi).1)]
  have b1 := cost_bound zs ls _ hN (fun i hi => (hz i hi).2) (fun i hi => (hl i hi).2)
  have hs := hg.search (by omega) (by omega) hu ((fall zs zs.length).map Int.toNat) (fun ord hr ho => fall_row hf ord hr ho)
  rw [List.length_map] at hs
  have e : (fun i => ((fall zs zs.length).map Int.toNat).getD i 0) = fn (fall zs zs.length) := by
    funext i
    unfold fn
    rw [List.getD_eq_getElem?_getD, List.getD_eq_getElem?_getD, List.getElem?_map]
    cases (fall zs zs.length)[i]? <;> rfl
  rw [e] at hs
  have hm : (M : Int).toNat = M := by omega
  rw [hm] at hs
  rw [hs, IntKind.wrap_i64]
  omega
set_option maxRecDepth 100000 in
set_option maxHeartbeats 2000000 in
theorem least_w (W : World) (v0 : Value) (zs0 : List Int) (h0 : Is .i64 W v0 zs0) (most0 : Int) (hmw : (Lit.int .i64 most0).wf = true) : Calls Try.prog 5 #[v0, .int .i64 most0] W fun e w' => e = .returned (.bool true) ∧ Keep [] W w' := by
  go_enter Try.func5, Try.ntmps5
  go_wp2_with fail
  refine (few_c W v0 zs0 9 (by omega) h0).mono ?_; rintro e w1 ⟨va, rfl, ha, rfl⟩
  have hlz : (zs0.take 9).length ≤ 9 := by rw [List.length_take]; omega
  generalize zs0.take 9 = zs at ha hlz
  clear h0
  go_wp2_with fail
  refine (within_c most0 1 6 _ (by omega)).mono ?_; rintro e w1 ⟨rfl, rfl⟩
  obtain ⟨M, hM⟩ : ∃ M : Nat, max 1 (min most0 6) = M := ⟨(max 1 (min most0 6)).toNat, by omega⟩
  have hM1 : 1 ≤ M ∧ M ≤ 6 := by omega
  rw [hM]
  clear hM hmw
  go_wp2_with fail
  have hwf : (Lit.int .i64 (M : Int)).wf = true := by
    have : M = 1 ∨ M = 2 ∨ M = 3 ∨ M = 4 ∨ M = 5 ∨ M = 6 := by omega
    rcases this with rfl | rfl | rfl | rfl | rfl | rfl <;> decide
  refine (lim_lengths W va zs M ha hwf).mono ?_; rintro e w2 ⟨vl, ls, er, rfl, hls, k2, hnil, hbest⟩
  have ha2 := ha.keep k2 (by simp)
  have HMAY := Lib.hid (refmay_c w2 va zs M ha2)
  have HUS := Lib.hid (refused_c w2 va zs ha2)
  have HCO := Lib.hid (fun w' (k : Keep [] w2 w') => lim_cost w' va vl zs ls (ha2.keep k (by simp)) (hls.keep k (by simp)))
  have HFA := Lib.hid (fun w' (k : Keep [] w2 w') => reffall_c w' va zs (by omega) (ha2.keep k (by simp)))
  clear ha ha2 hls
  by_cases hmay : mayF zs M = true
  · obtain ⟨rfl, hB⟩ := hbest hmay
    obtain ⟨hm1, hm2, _, hokf, _⟩ := (mayF_iff zs M).1 hmay
    have HEQ := Lib.hid (least_eq hM1.1 (by omega) hokf (by omega) hB)
    have HBE := Lib.hid (fun v w => refbest_c (fall zs zs.length) v (Nat.le_trans (fall_length zs _) hlz) (fall_ok hokf _ (Nat.le_refl _)) M 0 2 1 0 M w (by omega) (by omega) (by omega) (by omega) (by decide) (by omega))
    clear hbest hnil hmay hB hokf HMAY
    go_wp2_with fail
    refine HUS.out.mono ?_; rintro e w3 ⟨rfl, n3, rfl⟩
    by_cases hu : usedN zs.length (fn zs) < 2
    · generalize usedN zs.length (fn zs) = u at *
      clear HEQ
      go_wp2_with fail
      refine (lives_c _).mono ?_; rintro e w12 ⟨rfl, k12⟩
      go_wp2_with fail
      go_ret
      exact ⟨rfl, (k2.drewN n3).trans k12 (by simp)⟩
    · have HE2 := Lib.hid (HEQ.out (by omega))
      generalize usedN zs.length (fn zs) = u at *
      clear HEQ
      go_wp2_with fail
      refine (HCO.out _ ((Keep.refl _ _).drewN n3)).mono ?_; rintro e w4 ⟨rfl, n4, rfl⟩
      rw [HE2.out]
      generalize bst (fn (fall zs zs.length)) (fall zs zs.length).length M 0 2 1 0 = x at *
      clear HE2
      go_wp2_with fail
      refine (HFA.out _ ((Keep.refl _ _).drewN _)).mono ?_; rintro e w5 ⟨vf, rfl, hf, k5⟩
      go_wp2_with fail
      refine (HBE.out vf w5 hf).mono ?_; rintro e w6 ⟨rfl, n6, rfl⟩
      go_wp2_with fail
      refine (lives_c _).mono ?_; rintro e w12 ⟨rfl, k12⟩
      go_wp2_with fail
      go_ret
      exact ⟨rfl, (((k2.drewN _).trans k5 (by simp)).drewN n6).trans k12 (by simp)⟩
  · have hf : mayF zs M = false := by simpa using hmay
    obtain ⟨rfl, _⟩ := hnil hf
    rw [hf] at HMAY
    clear hbest hmay hnil hf
    go_wp2_with fail
    refine HMAY.out.mono ?_; rintro e w3 ⟨rfl, n3, rfl⟩
    go_wp2_with fail
    refine (lives_c _).mono ?_; rintro e w12 ⟨rfl, k12⟩
    go_wp2_with fail
    go_ret
    exact ⟨rfl, (k2.drewN n3).trans k12 (by simp)⟩
end Go.Proofs.Ytibhelfiibincaa
