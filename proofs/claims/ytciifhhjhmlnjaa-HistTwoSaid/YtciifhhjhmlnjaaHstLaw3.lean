/- The walk of the law HistTwo: it returns true at every input. -/
import Derived.Test.YtciifhhjhmlnjaaHstLaw2
namespace Go.Proofs.Ytciifhhjhmlnjaa
set_option linter.unusedVariables false
set_option linter.unusedSimpArgs false
open Go.ChangeShapes Go.WideShapes Go.ChangeAt Go.RowKit

/-- one copy, or two -/
theorem two_copy (s : HS) (d : Int) (n m : Nat) (hl : s.b.length + n + m ≤ s.most) : (s.copy d n).1 = (s.copy d ((n + m : Nat) : Int)).1 ∧ ((s.copy d n).2.copy d m) = s.copy d ((n + m : Nat) : Int) := by
  by_cases e1 : d < 1
  · have h : ∀ k : Nat, s.copy d (k : Int) = (2, s) := fun k => by unfold HS.copy; rw [if_pos (.inl e1)]
    rw [h, h]; exact ⟨rfl, h m⟩
  by_cases e2 : (s.win : Int) < d ∨ ((s.b.length : Int) < d ∧ s.nou = false)
  · have h : ∀ k : Nat, s.copy d (k : Int) = (8, s) := fun k => by unfold HS.copy; rw [if_neg (by omega), if_pos e2]
    rw [h, h]; exact ⟨rfl, h m⟩
  have h : ∀ k : Nat, s.b.length + k ≤ s.most → s.copy d (k : Int) = (0, { s with b := cpy s.b d.toNat k }) := fun k hk => by
    unfold HS.copy
    rw [if_neg (by omega), if_neg e2, if_neg (by omega)]
    simp
  rw [h n (by omega), h (n + m) (by omega)]
  refine ⟨rfl, ?_⟩
  unfold HS.copy
  have e3 : ¬ ((s.win : Int) < d ∨ (((cpy s.b d.toNat n).length : Int) < d ∧ s.nou = false)) := by
    rw [cpy_len]
    rintro (h1 | ⟨h1, h2⟩)
    · exact e2 (.inl h1)
    · exact e2 (.inr ⟨by omega, h2⟩)
  rw [if_neg (by omega), if_neg e3, if_neg (by simp only [cpy_len]; omega)]
  simp only [Int.toNat_natCast]
  rw [cpy_add]
theorem two_len (s : HS) (d : Int) (n : Nat) (hl : s.b.length ≤ s.most) : (s.copy d n).2.b.length ≤ s.b.length + n := by
  have := (s.copy_len d n hl).2.2.2.2.1
  omega
/-- two outputs that share no memory -/
def Two (W w : World) (q p : Nat) (bs cs : List Nat) (s t : HS) : Prop :=
  Ho w q bs s ∧ Ho w p cs t ∧ Keep [] W w ∧ (∀ b ∈ bs, W.heap.size ≤ b) ∧ (∀ b ∈ cs, W.heap.size ≤ b) ∧ (∀ b ∈ bs, b ∉ cs)
theorem Two.left {W w w' : World} {q p : Nat} {bs cs : List Nat} {s t s' : HS} (h : Two W w q p bs cs s t) (k : HoStep w w' q bs s') : ∃ bs', Two W w' q p bs' cs s' t := by
  obtain ⟨h1, h2, h3, h4, h5, h6⟩ := h
  obtain ⟨bs', k1, k2, k3, k4, k5⟩ := k.step h3 h4
  have hl := h2.lt
  refine ⟨bs', k1, h2.keep k4 (fun b hb hb' => h6 b hb' hb), k2, k3, h5, fun b hb hb' => ?_⟩
  rcases k5 b hb with h | h
  · exact h6 b h hb'
  · have := hl b hb'; omega
theorem Two.right {W w w' : World} {q p : Nat} {bs cs : List Nat} {s t t' : HS} (h : Two W w q p bs cs s t) (k : HoStep w w' p cs t') : ∃ cs', Two W w' q p bs cs' s t' := by
  obtain ⟨h1, h2, h3, h4, h5, h6⟩ := h
  obtain ⟨cs', k1, k2, k3, k4, k5⟩ := k.step h3 h5
  have hl := h1.lt
  refine ⟨cs', h1.keep k4 (fun b hb hb' => h6 b hb hb'), k1, k2, h4, k3, fun b hb hb' => ?_⟩
  rcases k5 b hb' with h | h
  · exact h6 b hb h
  · have := hl b hb; omega
theorem Two.keep {W w w' : World} {q p : Nat} {bs cs : List Nat} {s t : HS} (h : Two W w q p bs cs s t) (k : Keep [] w w') : Two W w' q p bs cs s t := by
  obtain ⟨h1, h2, h3, h4, h5, h6⟩ := h
  exact ⟨h1.keep k (by simp), h2.keep k (by simp), h3.trans k (by simp), h4, h5, h6⟩
set_option maxRecDepth 100000 in
set_option maxHeartbeats 4000000 in
theorem htwo_w (W : World) (v0 : Value) (l0 : List UInt8) (h0 : Bs W v0 l0) (nou : Bool) (d : Int) (hd : (Lit.int .i64 d).wf = true) (n : Int) (hn : (Lit.int .i64 n).wf = true) (m : Int) (hm : (Lit.int .i64 m).wf = true) : Calls Try.prog 5 #[v0, .bool nou, .int .i64 d, .int .i64 n, .int .i64 m] W fun e w' => e = .returned (.bool true) ∧ Keep [] W w' := by
  go_enter Try.func5, Try.ntmps5
  go_wp2_with fail
  refine (cut_c W v0 l0 300 (by decide) h0).mono ?_; rintro e w1 ⟨vb, rfl, hb, _, rfl⟩
  have hl : (l0.take 300).length ≤ 300 := by rw [List.length_take]; omega
  generalize l0.take 300 = l at hb hl
  clear h0
  have HBA := Lib.hid (fun w' (k : Keep [] W w') i hi => (hb.keep k (by simp)).at i hi)
  obtain ⟨ab, cb, rfl, _⟩ := hb.shape
  clear hb
  go_wp2_with fail
  refine (within_c n 0 1000 _ (by omega)).mono ?_; rintro e w3 ⟨rfl, rfl⟩
  go_wp2_with fail
  refine (within_c m 0 1000 _ (by omega)).mono ?_; rintro e w3 ⟨rfl, rfl⟩
  obtain ⟨N, hN⟩ : ∃ N : Nat, max 0 (min n (1000 : Int)) = N := ⟨(max 0 (min n (1000 : Int))).toNat, by omega⟩
  obtain ⟨M, hM⟩ : ∃ M : Nat, max 0 (min m (1000 : Int)) = M := ⟨(max 0 (min m (1000 : Int))).toNat, by omega⟩
  have hN2 : N ≤ 1000 := by omega
  have hM2 : M ≤ 1000 := by omega
  rw [hN, hM]
  clear hN hM hn hm
  have HNW := Lib.hid (fun w => hs_new w 1000 5000 nou (by omega) (by omega))
  go_wp2_with fail
  refine (HNW.out W).mono ?_; rintro e w1 ⟨p, er, rfl, k1, _, hok⟩
  obtain ⟨rfl, q, bs, rfl, hq, hbs⟩ := hok (by unfold hsBad; omega)
  clear hok
  go_wp2_with fail
  refine (HNW.out w1).mono ?_; rintro e w2 ⟨p, er, rfl, k2, _, hok⟩
  obtain ⟨rfl, p, cs, rfl, hp, hcs⟩ := hok (by unfold hsBad; omega)
  have hT : Two W w2 q p bs cs ⟨1000, 5000, nou, l.take 0⟩ ⟨1000, 5000, nou, l.take 0⟩ :=
    ⟨hq.keep k2 (by simp), hp, k1.trans k2 (by simp), hbs, fun b hb => Nat.le_trans k1.size (hcs b hb), fun b hb hb' => by have := hq.lt b hb; have := hcs b hb'; omega⟩
  clear hok HNW hq hp hbs hcs k1 k2
  go_wp2_with fail
  go_loopw [15] (fun i wr => ∃ (k : Nat) (bs cs : List Nat), k ≤ l.length ∧ i = .int .i64 k ∧ Two W wr q p bs cs ⟨1000, 5000, nou, l.take k⟩ ⟨1000, 5000, nou, l.take k⟩) (fun i _ => l.length - (intOf i).toNat)
  case atStart => exact ⟨0, bs, cs, by omega, rfl, hT⟩
  case round =>
    clear hT
    obtain ⟨k, bs, cs, hk, rfl, HT⟩ := hrel
    by_cases hlt : k < l.length
    · obtain ⟨b, off, cap, hv, e0⟩ := HBA.out wr HT.2.2.1 k hlt
      simp only [Value.slice.injEq] at hv
      obtain ⟨hv1, hv2, rfl⟩ := hv
      clear hv2
      subst hv1
      have hlk : (l.take k).length = k := by rw [List.length_take]; omega
      have hlit : (⟨1000, 5000, nou, l.take k⟩ : HS).lit l[k] = (0, ⟨1000, 5000, nou, l.take (k + 1)⟩) := by
        unfold HS.lit
        rw [if_neg (by simp only [hlk]; omega), List.take_succ_eq_append_getElem hlt]
      have hc := Lib.hid (fun w bs q (h : Ho w q bs ⟨1000, 5000, nou, l.take k⟩) => hs_lit w q bs _ l[k] h (by rw [hlk]; omega))
      rw [hlit] at hc
      clear hlit hlk
      generalize hcc : l[k] = c at *
      go_wp2_with fail
      refine (hc.out _ _ _ HT.1).mono ?_; rintro e w4 ⟨rfl, hs⟩
      obtain ⟨bs4, HT4⟩ := HT.left hs
      obtain ⟨b2, off2, cap2, hv, e0'⟩ := HBA.out w4 HT4.2.2.1 k hlt
      simp only [Value.slice.injEq] at hv
      obtain ⟨hv1, hv2, rfl⟩ := hv
      clear hv2
      injection hv1 with hv1
      injection hv1 with hv1 hv2 _
      subst hv1 hv2
      rw [hcc] at e0'
      clear hs HT e0 hcc
      go_wp2_with fail
      refine (hc.out _ _ _ HT4.2.1).mono ?_; rintro e w5 ⟨rfl, hs⟩
      obtain ⟨cs5, HT5⟩ := HT4.right hs
      clear hs HT4 e0' hc
      go_wp2_with fail
      go_roundw
      case rel => exact ⟨k + 1, bs4, cs5, by omega, by go_num, HT5⟩
      case measure => simp [intOf]; omega
    · obtain rfl : k = l.length := by omega
      rw [List.take_length] at HT
      have hT0 := two_copy ⟨1000, 5000, nou, l⟩ d N M (by simp only; omega)
      have hL1 := two_len ⟨1000, 5000, nou, l⟩ d N (by simp only; omega)
      have hL2 := two_len ⟨1000, 5000, nou, l⟩ d (N + M) (by simp only; omega)
      have hmo : ((⟨1000, 5000, nou, l⟩ : HS).copy d N).2.most = 5000 := ((⟨1000, 5000, nou, l⟩ : HS).copy_len d N (by simp only; omega)).2.2.1
      have hcp := fun w q bs s (k : Nat) (h : Ho w q bs s) (hm : s.most = 5000) (hl : s.b.length ≤ 2500) (hk : k ≤ 2000) => hs_copy w q bs s d (k : Int) h hd (by simp [Lit.wf, IntKind.min, IntKind.max, IntKind.bits, IntKind.signed]; omega) (by rw [hm, if_neg (by omega)]; omega)
      have HCP := Lib.hid hcp
      clear hcp hd
      obtain ⟨hT1, hT2⟩ := hT0
      have c1 := HCP.out wr q bs _ (N + M) HT.1 rfl (by simp only; omega) (by omega)
      have hnm := Lib.hid (show ((N : Int) + M) = ((N + M : Nat) : Int) by simp)
      generalize hsA : (⟨1000, 5000, nou, l⟩ : HS).copy d ((N + M : Nat) : Int) = rA at *
      obtain ⟨eA, sA⟩ := rA
      generalize hsB : (⟨1000, 5000, nou, l⟩ : HS).copy d (N : Int) = rB at *
      obtain ⟨eB, sB⟩ := rB
      have hEB : eB = eA := hT1
      subst hEB
      simp only at c1 hT2 hL1 hL2 hmo
      have C1 := Lib.hid c1
      have HSB := Lib.hid hsB
      have HT2 := Lib.hid hT2
      clear c1 hsB hT2 hsA hT1
      go_wp2_with fail
      rw [hnm.out]
      refine C1.out.mono ?_; rintro e w4 ⟨rfl, hs⟩
      obtain ⟨bs4, HT4⟩ := HT.left hs
      have c2 := HCP.out w4 p cs _ N HT4.2.1 rfl (by simp only; omega) (by omega)
      rw [HSB.out] at c2
      have C2 := Lib.hid c2
      clear C1 hs HT c2
      go_wp2_with fail
      refine C2.out.mono ?_; rintro e w5 ⟨rfl, hs⟩
      obtain ⟨cs5, HT5⟩ := HT4.right hs
      have c3 := HCP.out w5 p cs5 _ M HT5.2.1 hmo (by omega) (by omega)
      rw [HT2.out] at c3
      have C3 := Lib.hid c3
      clear C2 hs HT4 c3
      go_wp2_with fail
      refine C3.out.mono ?_; rintro e w6 ⟨rfl, hs⟩
      obtain ⟨cs6, HT6⟩ := HT5.right hs
      clear C3 hs HT5 HSB HT2
      go_wp2_with fail
      refine (hs_bytes w6 q bs4 _ HT6.1 (by omega)).mono ?_; rintro e w7 ⟨va, rfl, hva, k7, _⟩
      have HT7 := HT6.keep k7
      go_wp2_with fail
      refine (hs_bytes w7 p cs6 _ HT7.2.1 (by omega)).mono ?_; rintro e w8 ⟨vb, rfl, hvb, k8, _⟩
      have K8 := (HT7.keep k8).2.2.1
      have HSM := Lib.hid (same_c w8 va vb _ _ (hva.bs.keep k8 (by simp)) hvb.bs)
      rw [decide_eq_true rfl] at HSM
      clear HT6 HT7 hva hvb k7 k8
      go_wp2_with fail
      refine HSM.out.mono ?_; rintro e w9 ⟨rfl, n9, rfl⟩
      go_wp2_with fail
      refine (lives7_c _).mono ?_; rintro e w10 ⟨rfl, k10⟩
      go_wp2_with fail
      go_ret
      exact ⟨rfl, (K8.drewN n9).trans k10 (by simp)⟩
end Go.Proofs.Ytciifhhjhmlnjaa
