/- Numbers of a tree of forks in which the words of a full code are laid, one by one: what a row of bits leads to. -/
import Derived.Test.YtblogjpoijfpbaaSfMath
namespace Go.Proofs.Ytblogjpoijfpbaa
set_option linter.unusedVariables false
set_option linter.unusedSimpArgs false

/-- where the first bits of x lead to -/
def wk (F : Nat → Nat → Int) (x : Nat) : Nat → Int
  | 0 => 0
  | i + 1 => F (wk F x i).toNat (x / 2 ^ i % 2)
def upd (F : Nat → Nat → Int) (a b : Nat) (v : Int) : Nat → Nat → Int := fun j c => if j = a ∧ c = b then v else F j c
theorem upd_same (F : Nat → Nat → Int) (a b : Nat) (v : Int) : upd F a b v a b = v := by simp [upd]
theorem upd_other (F : Nat → Nat → Int) (a b : Nat) (v : Int) (j c : Nat) (h : ¬ (j = a ∧ c = b)) : upd F a b v j c = F j c := by simp only [upd, if_neg h]
theorem wk_upd (F : Nat → Nat → Int) (a b : Nat) (v : Int) (hz : F a b = 0) (x m : Nat) (h : ∀ i, 0 < i → i ≤ m → wk F x i ≠ 0) : ∀ i, i ≤ m → wk (upd F a b v) x i = wk F x i := by
  intro i
  induction i with
  | zero => intro _; rfl
  | succ i ih =>
    intro hi
    rw [wk, ih (by omega), wk]
    refine upd_other _ _ _ _ _ _ (fun ⟨h1, h2⟩ => h (i + 1) (by omega) hi ?_)
    rw [wk, h1, h2, hz]
theorem bit_mod (x n i : Nat) (h : i < n) : x % 2 ^ n / 2 ^ i % 2 = x / 2 ^ i % 2 := by
  obtain ⟨m, rfl⟩ : ∃ m, n = i + (m + 1) := ⟨n - i - 1, by omega⟩
  rw [Nat.pow_add, Nat.mod_mul_right_div_self]
  exact Nat.mod_mod_of_dvd _ ⟨2 ^ m, by rw [Nat.pow_succ, Nat.mul_comm]⟩
theorem wk_mod (F : Nat → Nat → Int) (x n : Nat) : ∀ i, i ≤ n → wk F (x % 2 ^ n) i = wk F x i := by
  intro i
  induction i with
  | zero => intro _; rfl
  | succ i ih => intro hi; rw [wk, wk, ih (by omega), bit_mod x n i (by omega)]
theorem mod_succ (c i : Nat) : c % 2 ^ (i + 1) = c % 2 ^ i + c / 2 ^ i % 2 * 2 ^ i := by
  rw [Nat.mod_pow_succ, Nat.mul_comm]
/-- no word is the beginning of another one -/
theorem scode_free (L : List Nat) (s t : Nat) (hs : s < L.length) (ht : t < L.length) (h16 : ∀ k, k < L.length → len L k ≤ 16) (hf : tot16 L = 65536) (h : scode L s % 2 ^ len L t = scode L t) : s = t :=
  shit_unique L (tr 16 (scode L s) 0) s t h16 hf ((shit_bits L (scode L s) s hs h16 hf).1 (Nat.mod_eq_of_lt (scode_lt L s))) ((shit_bits L (scode L s) t ht h16 hf).1 h)
/-- a tree of n forks: fork j stands where dp j bits, nm j, lead to; the words of symbols below k are laid, forks stand ahead of words of symbols below m -/
structure Tr (L : List Nat) (F : Nat → Nat → Int) (n k m : Nat) (nm dp : Nat → Nat) : Prop where
  pos : 0 < n
  root : dp 0 = 0 ∧ nm 0 = 0
  fork : ∀ j, 0 < j → j < n → ∃ s, s < m ∧ dp j < len L s ∧ scode L s % 2 ^ dp j = nm j
  out : ∀ j b, n ≤ j → F j b = 0
  up : ∀ j b, j < n → b < 2 → 0 < F j b → (F j b).toNat < n ∧ dp (F j b).toNat = dp j + 1 ∧ nm (F j b).toNat = nm j + b * 2 ^ dp j
  leaf : ∀ j b, j < n → b < 2 → F j b < 0 → ∃ s, s < k ∧ F j b = -((s : Int) + 1) ∧ len L s = dp j + 1 ∧ scode L s = nm j + b * 2 ^ dp j
  path : ∀ s, s < k → (∀ i, 0 < i → i < len L s → 0 < wk F (scode L s) i ∧ wk F (scode L s) i < n) ∧ wk F (scode L s) (len L s) = -((s : Int) + 1)
theorem Tr.start (L : List Nat) (m : Nat) : Tr L (fun _ _ => 0) 1 0 m (fun _ => 0) (fun _ => 0) :=
  ⟨by omega, ⟨rfl, rfl⟩, fun j h1 h2 => by omega, fun _ _ _ => rfl, fun j b _ _ h => by simp at h, fun j b _ _ h => by simp at h, fun s h => by omega⟩
theorem Tr.more {L : List Nat} {F : Nat → Nat → Int} {n k m m' : Nat} {nm dp : Nat → Nat} (h : Tr L F n k m nm dp) (hm : m ≤ m') : Tr L F n k m' nm dp :=
  ⟨h.pos, h.root, fun j h1 h2 => let ⟨s, a, b⟩ := h.fork j h1 h2; ⟨s, by omega, b⟩, h.out, h.up, h.leaf, h.path⟩
/-- where a word's first i bits, c of them, have led to so far -/
structure Ats (L : List Nat) (F : Nat → Nat → Int) (n : Nat) (nm dp : Nat → Nat) (c i a : Nat) : Prop where
  lt : a < n
  dp : dp a = i
  nm : nm a = c % 2 ^ i
  wk : wk F c i = a
  so : ∀ j, 0 < j → j ≤ i → 0 < Go.Proofs.Ytblogjpoijfpbaa.wk F c j ∧ Go.Proofs.Ytblogjpoijfpbaa.wk F c j < n
theorem Ats.start {L : List Nat} {F : Nat → Nat → Int} {n k m : Nat} {nm dp : Nat → Nat} (h : Tr L F n k m nm dp) (c : Nat) : Ats L F n nm dp c 0 0 :=
  ⟨h.pos, h.root.1, by rw [h.root.2, Nat.pow_zero, Nat.mod_one], rfl, fun j h1 h2 => by omega⟩
section
variable {L : List Nat} {F : Nat → Nat → Int} {n k m : Nat} {nm dp : Nat → Nat} {i a : Nat}
theorem Tr.noleaf (h : Tr L F n k (k + 1) nm dp) (hk : k < L.length) (h16 : ∀ k, k < L.length → len L k ≤ 16) (hf : tot16 L = 65536) (ha : Ats L F n nm dp (scode L k) i a) (hi : i + 1 ≤ len L k) : 0 ≤ F a (scode L k / 2 ^ i % 2) := by
  rcases Int.lt_or_le (F a (scode L k / 2 ^ i % 2)) 0 with hneg | hp
  · obtain ⟨s, s1, s2, s3, s4⟩ := h.leaf a _ ha.lt (Nat.mod_lt _ (by decide)) hneg
    rw [ha.dp] at s3 s4
    rw [ha.nm, ← mod_succ] at s4
    have := scode_free L k s hk (by omega) h16 hf (by rw [s3, s4])
    omega
  · exact hp
theorem Tr.follow (h : Tr L F n k m nm dp) (c : Nat) (ha : Ats L F n nm dp c i a) (hp : 0 < F a (c / 2 ^ i % 2)) : Ats L F n nm dp c (i + 1) (F a (c / 2 ^ i % 2)).toNat := by
  obtain ⟨h1, h2, h3⟩ := h.up a _ ha.lt (Nat.mod_lt _ (by decide)) hp
  have hw : wk F c (i + 1) = F a (c / 2 ^ i % 2) := by rw [wk, ha.wk]; rfl
  refine ⟨h1, by rw [h2, ha.dp], by rw [h3, ha.nm, ha.dp, mod_succ], by rw [hw]; omega, fun j h4 h5 => ?_⟩
  rcases Nat.lt_or_ge i j with h6 | h6
  · obtain rfl : j = i + 1 := by omega
    rw [hw]; omega
  · exact ha.so j h4 h6
theorem Tr.new (h : Tr L F n k (k + 1) nm dp) (ha : Ats L F n nm dp (scode L k) i a) (hi : i + 1 < len L k) (h0 : F a (scode L k / 2 ^ i % 2) = 0) :
    Tr L (upd F a (scode L k / 2 ^ i % 2) n) (n + 1) k (k + 1) (fun j => if j = n then scode L k % 2 ^ (i + 1) else nm j) (fun j => if j = n then i + 1 else dp j) ∧
    Ats L (upd F a (scode L k / 2 ^ i % 2) n) (n + 1) (fun j => if j = n then scode L k % 2 ^ (i + 1) else nm j) (fun j => if j = n then i + 1 else dp j) (scode L k) (i + 1) n := by
  have hb : scode L k / 2 ^ i % 2 < 2 := Nat.mod_lt _ (by decide)
  have hnm : scode L k % 2 ^ (i + 1) = nm a + scode L k / 2 ^ i % 2 * 2 ^ dp a := by rw [ha.nm, ha.dp, mod_succ]
  have hwc := wk_upd F a (scode L k / 2 ^ i % 2) n h0 (scode L k) i (fun j h1 h2 => by have := (ha.so j h1 h2).1; omega)
  have hwn : wk (upd F a (scode L k / 2 ^ i % 2) n) (scode L k) (i + 1) = n := by
    rw [wk, hwc i (Nat.le_refl _), ha.wk]; exact upd_same _ _ _ _
  generalize hbb : scode L k / 2 ^ i % 2 = b at *
  have hlt := ha.lt
  have hpos := h.pos
  refine ⟨⟨by omega, ⟨by rw [if_neg (by omega)]; exact h.root.1, by rw [if_neg (by omega)]; exact h.root.2⟩, fun j h1 h2 => ?_, fun j c hj => ?_, fun j c hj hc hp => ?_, fun j c hj hc hp => ?_, fun s hs => ?_⟩, ?_⟩
  · by_cases e : j = n
    · rw [if_pos e, if_pos e]; exact ⟨k, by omega, hi, rfl⟩
    · rw [if_neg e, if_neg e]; exact h.fork j h1 (by omega)
  · rw [upd_other _ _ _ _ _ _ (by omega)]; exact h.out j c (by omega)
  · by_cases e : j = a ∧ c = b
    · obtain ⟨rfl, rfl⟩ := e
      rw [upd_same, Int.toNat_natCast]
      refine ⟨by omega, ?_, ?_⟩
      · rw [if_pos rfl, if_neg (by omega), ha.dp]
      · rw [if_pos rfl, if_neg (by omega), if_neg (by omega)]; exact hnm
    · rw [upd_other _ _ _ _ _ _ e] at hp ⊢
      by_cases ej : j = n
      · rw [ej, h.out n c (Nat.le_refl _)] at hp; omega
      · obtain ⟨h1, h2, h3⟩ := h.up j c (by omega) hc hp
        rw [if_neg (by omega), if_neg (by omega), if_neg (by omega), if_neg (by omega)]
        exact ⟨by omega, h2, h3⟩
  · by_cases e : j = a ∧ c = b
    · obtain ⟨rfl, rfl⟩ := e
      rw [upd_same] at hp; omega
    · rw [upd_other _ _ _ _ _ _ e] at hp ⊢
      by_cases ej : j = n
      · rw [ej, h.out n c (Nat.le_refl _)] at hp; omega
      · rw [if_neg (by omega), if_neg (by omega)]
        exact h.leaf j c (by omega) hc hp
  · obtain ⟨h1, h2⟩ := h.path s hs
    have hw := wk_upd F a b n h0 (scode L s) (len L s) (fun j h3 h4 => by
      rcases Nat.lt_or_ge j (len L s) with h5 | h5
      · have := (h1 j h3 h5).1; omega
      · rw [show j = len L s by omega, h2]; omega)
    refine ⟨fun j h3 h4 => ?_, by rw [hw _ (Nat.le_refl _)]; exact h2⟩
    rw [hw j (by omega)]
    have := h1 j h3 h4
    omega
  · refine ⟨by omega, by simp, by simp, hwn, fun j h1 h2 => ?_⟩
    rcases Nat.lt_or_ge i j with h6 | h6
    · obtain rfl : j = i + 1 := by omega
      rw [hwn]; omega
    · rw [hwc j h6]
      have := ha.so j h1 h6
      omega
theorem Tr.close (h : Tr L F n k (k + 1) nm dp) (hk : k < L.length) (h16 : ∀ k, k < L.length → len L k ≤ 16) (hf : tot16 L = 65536) (ha : Ats L F n nm dp (scode L k) i a) (hi : i + 1 = len L k) :
    Tr L (upd F a (scode L k / 2 ^ i % 2) (-((k : Int) + 1))) n (k + 1) (k + 1) nm dp := by
  have hb : scode L k / 2 ^ i % 2 < 2 := Nat.mod_lt _ (by decide)
  have hnm : scode L k % 2 ^ (i + 1) = nm a + scode L k / 2 ^ i % 2 * 2 ^ dp a := by rw [ha.nm, ha.dp, mod_succ]
  have hc : scode L k % 2 ^ (i + 1) = scode L k := by rw [hi]; exact Nat.mod_eq_of_lt (scode_lt L k)
  have h0 : F a (scode L k / 2 ^ i % 2) = 0 := by
    have h1 := h.noleaf hk h16 hf ha (by omega)
    rcases Int.lt_or_le 0 (F a (scode L k / 2 ^ i % 2)) with h2 | h2
    · obtain ⟨h3, h4, h5⟩ := h.up a _ ha.lt hb h2
      obtain ⟨s, s1, s2, s3⟩ := h.fork _ (by omega) h3
      rw [h4, ha.dp] at s2 s3
      rw [h5, ← hnm, hc] at s3
      have hsl : s < L.length := by omega
      have := scode_free L s k hsl hk h16 hf (by rw [← hi]; exact s3)
      subst this; omega
    · omega
  have hwc := wk_upd F a (scode L k / 2 ^ i % 2) (-((k : Int) + 1)) h0 (scode L k) i (fun j h1 h2 => by have := (ha.so j h1 h2).1; omega)
  have hwn : wk (upd F a (scode L k / 2 ^ i % 2) (-((k : Int) + 1))) (scode L k) (i + 1) = -((k : Int) + 1) := by
    rw [wk, hwc i (Nat.le_refl _), ha.wk]; exact upd_same _ _ _ _
  have hcn : scode L k = nm a + scode L k / 2 ^ i % 2 * 2 ^ dp a := hc.symm.trans hnm
  generalize hbb : scode L k / 2 ^ i % 2 = b at *
  have hlt := ha.lt
  refine ⟨h.pos, h.root, h.fork, fun j c hj => ?_, fun j c hj hc hp => ?_, fun j c hj hc hp => ?_, fun s hs => ?_⟩
  · rw [upd_other _ _ _ _ _ _ (by omega)]; exact h.out j c hj
  · by_cases e : j = a ∧ c = b
    · obtain ⟨rfl, rfl⟩ := e
      rw [upd_same] at hp; omega
    · rw [upd_other _ _ _ _ _ _ e] at hp ⊢; exact h.up j c hj hc hp
  · by_cases e : j = a ∧ c = b
    · obtain ⟨rfl, rfl⟩ := e
      rw [upd_same]; exact ⟨k, by omega, rfl, by rw [ha.dp, hi], hcn⟩
    · rw [upd_other _ _ _ _ _ _ e] at hp ⊢
      obtain ⟨s, s1, s2⟩ := h.leaf j c hj hc hp
      exact ⟨s, by omega, s2⟩
  · by_cases e : s = k
    · subst e
      rw [← hi]
      refine ⟨fun j h1 h2 => ?_, hwn⟩
      rw [hwc j (by omega)]
      exact ha.so j h1 (by omega)
    · obtain ⟨h1, h2⟩ := h.path s (by omega)
      have hw := wk_upd F a b (-((k : Int) + 1)) h0 (scode L s) (len L s) (fun j h3 h4 => by
        rcases Nat.lt_or_ge j (len L s) with h5 | h5
        · have := (h1 j h3 h5).1; omega
        · rw [show j = len L s by omega, h2]; omega)
      refine ⟨fun j h3 h4 => ?_, by rw [hw _ (Nat.le_refl _)]; exact h2⟩
      rw [hw j (by omega)]; exact h1 j h3 h4
end
end Go.Proofs.Ytblogjpoijfpbaa
