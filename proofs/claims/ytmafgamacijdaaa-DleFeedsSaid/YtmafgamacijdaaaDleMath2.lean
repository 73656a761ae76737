/- Numbers of layer 13: which bytes a text is. -/
import Derived.Test.YtmafgamacijdaaaDleMath
namespace Go.Proofs.Ytmafgamacijdaaa
set_option linter.unusedVariables false
set_option linter.unusedSimpArgs false

def sh13 (f : Nat) : Sh := ⟨256 * 2 ^ f, 3, low13 f + 257, 64, true⟩
theorem sh13_ok (f : Nat) (h1 : 1 ≤ f) (h2 : f ≤ 4) : (sh13 f).ok ∧ (sh13 f).win = ((256 * 2 ^ f : Nat) : Int) ∧ (sh13 f).max = ((low13 f + 257 : Nat) : Int) := by
  have h : f = 1 ∨ f = 2 ∨ f = 3 ∨ f = 4 := by omega
  rcases h with rfl | rfl | rfl | rfl <;> (refine ⟨?_, by decide, by decide⟩; unfold Sh.ok; decide)
/-- the bytes of a token at i -/
def emT (f : Nat) (b : List UInt8) (i : Nat) (t : Tk) : List UInt8 :=
  if t.len = 0 then lits ((b.drop i).take 1)
  else if v13 f t.dist.toNat t.len.toNat = 0 then lits ((b.drop i).take t.len.toNat)
  else em13 f t.dist.toNat t.len.toNat
def encT (f : Nat) (b : List UInt8) : List Tk → Nat → List UInt8
  | [], _ => []
  | t :: ts, i => emT f b i t ++ encT f b ts (i + sz1 t)
def enc13 (f : Nat) (b : List UInt8) : List UInt8 := encT f b (found b (sh13 f)) 0
theorem em13_len (f d n : Nat) : (em13 f d n).length ≤ 4 := by
  unfold em13
  split <;> simp
theorem v13_zero (f d n : Nat) (h1 : 1 ≤ f) (h2 : f ≤ 4) (hv : v13 f d n = 0) : n ≤ 3 := by
  obtain ⟨a, b, c⟩ := low13_of f h1 h2
  unfold v13 at hv
  omega
theorem enc_fd (f : Nat) (h1 : 1 ≤ f) (h2 : f ≤ 4) (b : List UInt8) (F i V N : Nat) (hi : i ≤ b.length) (hF : b.length ≤ i + F) : (∃ V' N', (at13 f b i V N).all (encT f b (fdF b (sh13 f) F i) i) = (0, at13 f b b.length V' N')) ∧ (encT f b (fdF b (sh13 f) F i) i).length ≤ 2 * (b.length - i) := by
  obtain ⟨hs, hw, hm⟩ := sh13_ok f h1 h2
  induction F generalizing i V N with
  | zero =>
    have e : i = b.length := by omega
    subst e
    rw [fdF, encT]
    exact ⟨⟨V, N, rfl⟩, Nat.zero_le _⟩
  | succ F ih =>
    rw [fdF]
    by_cases hlt : i < b.length
    · rw [if_pos hlt, encT]
      obtain ⟨z1, z2⟩ := stepT_sz hs hlt
      have key : (∃ V' N', (at13 f b i V N).all (emT f b i (stepT b (sh13 f) i)) = (0, at13 f b (i + sz1 (stepT b (sh13 f) i)) V' N')) ∧ (emT f b i (stepT b (sh13 f) i)).length ≤ 2 * sz1 (stepT b (sh13 f) i) := by
        rcases stepT_cases hs hlt with h | h
        · rw [h]
          unfold emT
          rw [if_pos rfl]
          refine ⟨⟨V, N, feed_lits f b 1 i V N hlt⟩, ?_⟩
          refine Nat.le_trans (lits_len _) (Nat.mul_le_mul_left _ ?_)
          rw [List.length_take]; show _ ≤ 1; omega
        · obtain ⟨g1, g2, g3⟩ := h.sz hs
          obtain ⟨d, n, e1, e2, e3, e4, e5, e6, e7, e8, e9⟩ := h.ex
          have hz : sz1 (stepT b (sh13 f) i) = n := by unfold sz1; rw [if_neg g1, e2]; simp
          rw [hw] at e5
          rw [hm] at e7
          have e6' : 3 ≤ n := by have : (3 : Int) ≤ (n : Int) := e6; omega
          unfold emT
          rw [if_neg g1, e1, e2, hz, Int.toNat_natCast, Int.toNat_natCast]
          by_cases hv : v13 f d n = 0
          · rw [if_pos hv]
            refine ⟨⟨V, N, feed_lits f b n i V N e8⟩, ?_⟩
            refine Nat.le_trans (lits_len _) (Nat.mul_le_mul_left _ ?_)
            rw [List.length_take]; omega
          · rw [if_neg hv]
            refine ⟨feed_em f b i d n V N h1 h2 e3 e4 (by omega) e6' (by omega) e8 e9 hv, ?_⟩
            have := em13_len f d n
            omega
      obtain ⟨⟨V1, N1, k1⟩, k2⟩ := key
      obtain ⟨⟨V2, N2, k3⟩, k4⟩ := ih (i + sz1 (stepT b (sh13 f) i)) V1 N1 z2 (by omega)
      refine ⟨⟨V2, N2, ?_⟩, ?_⟩
      · rw [MS.all_append _ _ _ (by rw [k1]), k1]
        exact k3
      · rw [List.length_append]; omega
    · have e : i = b.length := by omega
      subst e
      rw [if_neg hlt, encT]
      exact ⟨⟨V, N, rfl⟩, Nat.zero_le _⟩
theorem enc_tell (f : Nat) (h1 : 1 ≤ f) (h2 : f ≤ 4) (b : List UInt8) : (∃ V N, (at13 f b 0 0 0).all (enc13 f b) = (0, at13 f b b.length V N)) ∧ (enc13 f b).length ≤ 2 * b.length := by
  have h := enc_fd f h1 h2 b b.length 0 0 0 (Nat.zero_le _) (by omega)
  exact ⟨h.1, by have := h.2; unfold enc13 found; omega⟩
theorem enc_rep (f : Nat) (h1 : 1 ≤ f) (h2 : f ≤ 4) (n : Nat) (c : UInt8) (F i : Nat) (hi : 1 ≤ i) : (encT f (List.replicate n c) (fdF (List.replicate n c) (sh13 f) F i) i).length ≤ 4 * ((n - i) / (low13 f + 257)) + 6 ∧ (n - i < 3 → (encT f (List.replicate n c) (fdF (List.replicate n c) (sh13 f) F i) i).length ≤ 2 * (n - i)) := by
  obtain ⟨hs, hw, hm⟩ := sh13_ok f h1 h2
  have hmx : (sh13 f).max.toNat = low13 f + 257 := by rw [hm, Int.toNat_natCast]
  have hmn : (sh13 f).min.toNat = 3 := rfl
  induction F generalizing i with
  | zero => rw [fdF, encT]; exact ⟨Nat.zero_le _, fun _ => Nat.zero_le _⟩
  | succ F ih =>
    rw [fdF]
    by_cases hlt : i < n
    · rw [if_pos (by simpa using hlt), encT, List.length_append]
      have hz := stepT_rep (c := c) hs (by decide : (1 : Int) ≤ 64) i hi hlt
      rw [hmx, hmn] at hz
      obtain ⟨g1, g2⟩ := ih (i + sz1 (stepT (List.replicate n c) (sh13 f) i)) (by omega)
      have hem : (emT f (List.replicate n c) i (stepT (List.replicate n c) (sh13 f) i)).length ≤ (if n - i < 3 then 2 else if n - i ≤ 3 then 6 else 4) := by
        rcases stepT_cases hs (show i < (List.replicate n c).length by simpa using hlt) with h | h
        · have hz1 : sz1 (stepT (List.replicate n c) (sh13 f) i) = 1 := by rw [h]; rfl
          have hr : n - i < 3 := by
            rcases Nat.lt_or_ge (n - i) 3 with h' | h'
            · exact h'
            · rw [hz1, if_neg (by omega)] at hz; omega
          rw [h, if_pos hr]
          unfold emT
          rw [if_pos rfl]
          refine Nat.le_trans (lits_len _) ?_
          rw [List.length_take]; omega
        · obtain ⟨g1', g2', _⟩ := h.sz hs
          have hr : ¬ n - i < 3 := by intro h'; rw [if_pos h'] at hz; omega
          rw [if_neg hr] at hz ⊢
          obtain ⟨d, k, e1, e2, _⟩ := h.ex
          have hzk : sz1 (stepT (List.replicate n c) (sh13 f) i) = k := by unfold sz1; rw [if_neg g1', e2]; simp
          rw [hzk] at hz
          unfold emT
          rw [if_neg g1', e1, e2, Int.toNat_natCast, Int.toNat_natCast]
          by_cases hv : v13 f d k = 0
          · have := v13_zero f d k h1 h2 hv
            rw [if_pos hv]
            have hl := lits_len (((List.replicate n c).drop i).take k)
            rw [List.length_take] at hl
            rw [if_pos (by omega)]; omega
          · rw [if_neg hv]
            have := em13_len f d k
            split <;> omega
      rw [hz] at g1 g2 ⊢
      by_cases h : n - i < 3
      · rw [if_pos h] at g1 g2 hem ⊢
        have := g2 (by omega)
        refine ⟨by omega, fun _ => by omega⟩
      · rw [if_neg h] at g1 g2 hem ⊢
        refine ⟨?_, fun h' => absurd h' h⟩
        by_cases hb : n - i < low13 f + 257
        · have e : n - (i + min (low13 f + 257) (n - i)) = 0 := by omega
          rw [e] at g2
          have h0 := g2 (by omega)
          have : (if n - i ≤ 3 then 6 else 4) ≤ 6 := by split <;> omega
          omega
        · have e : n - (i + min (low13 f + 257) (n - i)) = n - i - (low13 f + 257) := by omega
          rw [e] at g1
          rw [if_neg (by omega)] at hem
          have e2 : (n - i) / (low13 f + 257) = (n - i - (low13 f + 257)) / (low13 f + 257) + 1 := by
            rw [← Nat.add_div_right _ (by omega), Nat.sub_add_cancel (by omega)]
          omega
    · rw [if_neg (by simpa using hlt), encT]
      exact ⟨Nat.zero_le _, fun _ => Nat.zero_le _⟩
theorem enc_runs (f : Nat) (h1 : 1 ≤ f) (h2 : f ≤ 4) (n : Nat) (c : UInt8) : (enc13 f (List.replicate n c)).length ≤ 4 * (n / (low13 f + 257)) + 12 := by
  obtain ⟨hs, hw, hm⟩ := sh13_ok f h1 h2
  unfold enc13 found
  rw [List.length_replicate]
  cases n with
  | zero => rw [fdF, encT]; exact Nat.zero_le _
  | succ n =>
    rw [fdF, if_pos (by simp), encT, List.length_append]
    have h0 : stepT (List.replicate (n + 1) c) (sh13 f) 0 = ⟨(List.replicate (n + 1) c).getD 0 0, 0, 0⟩ := by
      unfold stepT; rw [atT_zero]; rw [if_pos (.inl rfl)]
    rw [h0]
    have hz : sz1 ⟨(List.replicate (n + 1) c).getD 0 0, 0, 0⟩ = 1 := rfl
    rw [hz, Nat.zero_add]
    have hr := (enc_rep f h1 h2 (n + 1) c n 1 (Nat.le_refl _)).1
    have he : (emT f (List.replicate (n + 1) c) 0 ⟨(List.replicate (n + 1) c).getD 0 0, 0, 0⟩).length ≤ 2 := by
      unfold emT
      rw [if_pos rfl]
      refine Nat.le_trans (lits_len _) ?_
      rw [List.length_take]; omega
    have hd : (n + 1 - 1) / (low13 f + 257) ≤ (n + 1) / (low13 f + 257) := Nat.div_le_div_right (by omega)
    omega
end Go.Proofs.Ytmafgamacijdaaa
