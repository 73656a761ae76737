/- Texts put together: ImpMath ImpMath2 SfIter Sf3 RefImp -/
import Derived.Test.YthmojejiaeninaaGreatPart7
import Derived.Test.YthmojejiaeninaaGreatPart11
import Derived.Test.YthmojejiaeninaaGreatPart8
import Derived.Test.YthmojejiaeninaaGreatPart10
import Derived.Test.YthmojejiaeninaaGreatPart3
import Derived.Test.YthmojejiaeninaaGreatPart14
import Derived.Test.YthmojejiaeninaaGreatPart6
namespace Go.Proofs.YthmojejiaeninaaGreat
set_option linter.unusedVariables false
set_option linter.unusedSimpArgs false

/-- 1, and 1024 times how often a symbol comes -/
def wts (n : Nat) (o : Nat → Nat) : List Int := (List.range n).map fun i => ((1 + 1024 * o i : Nat) : Int)
theorem wts_len (n : Nat) (o : Nat → Nat) : (wts n o).length = n := by simp [wts]
theorem wts_fn (n : Nat) (o : Nat → Nat) (i : Nat) (h : i < n) : fn (wts n o) i = 1 + 1024 * o i := by
  refine fn_of_zn _ _ _ ?_
  rw [zn_get _ i (by rw [wts_len]; exact h)]
  simp [wts]
/-- how often a byte, a length, a distance comes -/
def cnO (p : Tk → Bool) (s : Tk → Nat) (ts : List Tk) (c : Nat) : Nat := ((ts.filter p).map fun t => if s t = c then 1 else 0).sum
def litP (t : Tk) : Bool := decide (t.len = 0)
def copP (t : Tk) : Bool := !litP t
def litS (t : Tk) : Nat := t.lit.toNat
def lenS (least : Nat) (t : Tk) : Nat := min (t.len - least).toNat 63
def farS (low : Nat) (t : Tk) : Nat := (t.dist - 1).toNat / 2 ^ low
theorem sm_pick (g : Nat → Nat) (N k : Nat) (hk : k < N) : sm (fun c => (if k = c then 1 else 0) * g c) N = g k := by
  induction N with
  | zero => omega
  | succ N ih =>
    rw [sm]
    by_cases h : k = N
    · subst h
      have : sm (fun c => (if k = c then 1 else 0) * g c) k = 0 := by
        rw [sm_congr _ (fun _ => 0) k (fun t ht => by rw [if_neg (by omega), Nat.zero_mul]), sm_zero]
      rw [this, if_pos rfl]; omega
    · rw [ih (by omega), if_neg h]; omega
/-- a sum over tokens is a sum over symbols -/
theorem cn_sum (p : Tk → Bool) (s : Tk → Nat) (ts : List Tk) (g : Nat → Nat) (N : Nat) (h : ∀ t ∈ ts, p t = true → s t < N) : ((ts.filter p).map fun t => g (s t)).sum = sm (fun c => cnO p s ts c * g c) N := by
  induction ts with
  | nil => simp [cnO, sm_zero]
  | cons t ts ih =>
    have ih := ih (fun x hx => h x (by simp [hx]))
    by_cases hp : p t = true
    · have hs := h t (by simp) hp
      have e : ∀ c, cnO p s (t :: ts) c = (if s t = c then 1 else 0) + cnO p s ts c := fun c => by unfold cnO; rw [List.filter_cons_of_pos hp]; simp
      have e2 : sm (fun c => cnO p s (t :: ts) c * g c) N = sm (fun c => (if s t = c then 1 else 0) * g c + cnO p s ts c * g c) N := sm_congr _ _ N (fun c _ => by rw [e c, Nat.add_mul])
      rw [e2, sm_add, sm_pick g N (s t) hs, List.filter_cons_of_pos hp, List.map_cons, List.sum_cons, ih]
    · have e : ∀ c, cnO p s (t :: ts) c = cnO p s ts c := fun c => by unfold cnO; rw [List.filter_cons_of_neg hp]
      have e2 : sm (fun c => cnO p s (t :: ts) c * g c) N = sm (fun c => cnO p s ts c * g c) N := sm_congr _ _ N (fun c _ => by rw [e c])
      rw [e2, List.filter_cons_of_neg hp, ih]
theorem map_sum_const (c : Nat) (ts : List Tk) : (ts.map fun _ => c).sum = c * ts.length := by
  induction ts with
  | nil => simp
  | cons t ts ih => simp only [List.map_cons, List.sum_cons, ih, List.length_cons, Nat.mul_succ]; omega
theorem cn_all (p : Tk → Bool) (s : Tk → Nat) (ts : List Tk) (N : Nat) (h : ∀ t ∈ ts, p t = true → s t < N) : sm (cnO p s ts) N = (ts.filter p).length := by
  have h1 : ((ts.filter p).map fun _ => 1).sum = sm (fun c => cnO p s ts c * 1) N := cn_sum p s ts (fun _ => 1) N h
  rw [sm_congr (cnO p s ts) (fun c => cnO p s ts c * 1) N (fun c _ => by rw [Nat.mul_one]), ← h1, map_sum_const]; omega
/-- the best lengths of weights that are all positive: a full tree, and no dearer than one of equal words -/
theorem best_flat (n m : Nat) (o : Nat → Nat) (ls : List Int) (hm1 : 1 ≤ m) (hm : m ≤ 8) (hn : n = 2 ^ m) (h : BestL (wts n o) ls 16) : schk ls = 0 ∧ ls.length = n ∧ 1024 * sm (fun c => o c * len (Ln ls) c) n + n ≤ m * n + 1024 * m * sm o n := by
  obtain ⟨hl, hz, hg⟩ := h
  rw [wts_len] at hl hg
  have hf := wts_fn n o
  have hpos : ∀ i, i < n → fn (wts n o) i ≠ 0 := fun i hi => by rw [hf i hi]; omega
  have hn2 : 2 ≤ n := by
    rw [hn]
    calc 2 = 2 ^ 1 := rfl
      _ ≤ 2 ^ m := Nat.pow_le_pow_right (by decide) hm1
  have hn256 : n ≤ 256 := by
    rw [hn]
    calc 2 ^ m ≤ 2 ^ 8 := Nat.pow_le_pow_right (by decide) hm
      _ = 256 := rfl
  have hused : usedN n (fn (wts n o)) = n := by
    unfold usedN ct
    rw [sm_congr _ (fun _ => 1) n (fun t ht => by rw [if_pos (by simpa using hpos t ht)]), sm_const]; omega
  have hlen : ∀ i, i < n → fn ls i = len (Ln ls) i := fun i hi => by
    have h1 : i < ls.length := by omega
    have h2 := hz _ (List.getElem_mem h1)
    refine fn_of_zn _ _ _ ?_
    rw [zn_get _ i h1, len_get _ _ (by rw [Ln_length]; exact h1)]
    simp [Ln]; omega
  have h16 : ∀ i, i < n → 1 ≤ fn ls i ∧ fn ls i ≤ 16 := fun i hi => by
    refine ⟨?_, hg.le i hi⟩
    rcases Nat.eq_zero_or_pos (fn ls i) with h0 | h0
    · exact absurd ((hg.zero i hi).1 h0) (hpos i hi)
    · exact h0
  have hm' : mayS ls = true := (mayS_iff ls).2 ⟨by omega, by omega, fun z hzz => by
    obtain ⟨i, hi, rfl⟩ := List.getElem_of_mem hzz
    have h1 := h16 i (by omega)
    have h2 := hz _ (List.getElem_mem hi)
    have h3 : fn ls i = (ls[i]).toNat := by
      refine fn_of_zn _ _ _ ?_
      rw [zn_get _ i hi]; omega
    omega⟩
  have hfull := hg.full (by rw [hused]; exact hn2)
  have htot : tot16 (Ln ls) = 65536 := by
    unfold tot16
    rw [Ln_length, hl, ← hfull]
    unfold wsum
    refine sm_congr _ _ n (fun t ht => ?_)
    rw [if_neg (hpos t ht), hlen t ht]; rfl
  have hsc : schk ls = 0 := by unfold schk; rw [if_neg (by rw [hm']; simp), if_pos htot]
  refine ⟨hsc, hl, ?_⟩
  have hb := hg.best (fun _ => m) (fun i hi _ => ⟨hm1, by omega⟩) (by
    unfold wsum
    rw [sm_congr _ (fun _ => 2 ^ (16 - m)) n (fun t ht => by rw [if_neg (hpos t ht)]), sm_const, hn, ← Nat.pow_add, show 16 - m + m = 16 by omega]
    decide)
  unfold cost at hb
  rw [sm_congr _ (fun i => 1024 * (o i * len (Ln ls) i) + fn ls i) n (fun t ht => by rw [hf t ht, hlen t ht, Nat.add_mul, Nat.one_mul, Nat.mul_assoc, Nat.add_comm]), sm_add, sm_mul,
    sm_congr (fun i => fn (wts n o) i * m) (fun i => m + 1024 * m * o i) n (fun t ht => by rw [hf t ht, Nat.add_mul, Nat.one_mul, Nat.mul_assoc, Nat.mul_assoc, Nat.mul_comm (o t) m]), sm_add, sm_const, sm_mul] at hb
  have h1 : n ≤ sm (fn ls) n := by
    have := sm_pos (fn ls) n (fun i hi => (h16 i hi).1)
    exact this
  omega
/-- a token's bits, by its kinds -/
theorem tkb15_bits (trees : Bool) (low least : Nat) (LB LL LF : List Nat) (t : Tk) (hlow : low ≤ 7) (hls : 2 ≤ least) (ht : tkOk15 low least t) :
    (tkb15 trees low least LB LL LF t).length ≤ (if litP t then 1 + (if trees then len LB (litS t) else 8) else 8 + len LF (farS low t) + len LL (lenS least t)) + (if litP t then 0 else if 63 ≤ (t.len - least).toNat then 8 else 0) := by
  unfold tkb15 litP litS farS lenS
  by_cases h : t.len = 0
  · rw [if_pos h]; simp only [h, decide_true, if_true]
    rw [List.length_append, bitsOf_length]
    split <;> rw [bitsOf_length] <;> omega
  · rw [if_neg h]
    have hd : decide (t.len = 0) = false := by simpa using h
    rw [hd]
    simp only [Bool.false_eq_true, if_false, List.length_append, bitsOf_length]
    split <;> simp only [bitsOf_length, List.length_nil] <;> omega
def trees16 (zb zl zf : List Int) (trees : Bool) (low least : Nat) (ts : List Tk) : Prop :=
  (trees = true → BestL (wts 256 (cnO litP litS ts)) zb 16) ∧ BestL (wts 64 (cnO copP (lenS least) ts)) zl 16 ∧ BestL (wts 64 (cnO copP (farS low) ts)) zf 16
theorem filter_sum (p : Tk → Bool) (f g : Tk → Nat) (ts : List Tk) : (ts.map fun t => if p t then f t else g t).sum = ((ts.filter p).map f).sum + ((ts.filter fun t => !p t).map g).sum := by
  induction ts with
  | nil => rfl
  | cons t ts ih =>
    rw [List.map_cons, List.sum_cons, ih]
    by_cases h : p t = true
    · rw [List.filter_cons_of_pos h, List.filter_cons_of_neg (by simp [h])]; simp [h]; omega
    · have h' : p t = false := by simpa using h
      rw [List.filter_cons_of_neg h, List.filter_cons_of_pos (by simp [h'])]; simp [h']; omega
theorem map_sum_le (f g : Tk → Nat) (ts : List Tk) (h : ∀ t ∈ ts, f t ≤ g t) : (ts.map f).sum ≤ (ts.map g).sum := by
  induction ts with
  | nil => simp
  | cons t ts ih =>
    have := ih (fun x hx => h x (by simp [hx]))
    have := h t (by simp)
    simp only [List.map_cons, List.sum_cons]; omega
theorem map_sum_add (f g : Tk → Nat) (ts : List Tk) : (ts.map fun t => f t + g t).sum = (ts.map f).sum + (ts.map g).sum := by
  induction ts with
  | nil => rfl
  | cons t ts ih => simp only [List.map_cons, List.sum_cons, ih]; omega
/-- ten bits a byte at most, and one more -/
theorem bits16 (trees : Bool) (low least : Nat) (zb zl zf : List Int) (ts : List Tk) (hlow : low ≤ 7) (hls : 2 ≤ least) (hts : ∀ t ∈ ts, tkOk15 low least t) (h : trees16 zb zl zf trees low least ts) :
    (ts.flatMap (tkb15 trees low least (Ln zb) (Ln zl) (Ln zf))).length ≤ 10 * sumT ts + 1 := by
  obtain ⟨hb, hl, hf⟩ := h
  have bl := (best_flat 64 6 _ zl (by decide) (by decide) rfl hl).2.2
  have bf := (best_flat 64 6 _ zf (by decide) (by decide) rfl hf).2.2
  have okc : ∀ t ∈ ts, copP t = true → (least : Int) ≤ t.len ∧ 1 ≤ t.dist ∧ t.dist ≤ 64 * 2 ^ low := fun t ht hc => by
    have hc' : ¬ t.len = 0 := by simpa [copP, litP] using hc
    rcases hts t ht with ⟨a, _⟩ | ⟨a, _, b, c⟩
    · exact absurd a hc'
    · exact ⟨a, b, c⟩
  have hsl : ∀ t ∈ ts, copP t = true → lenS least t < 64 := fun t _ _ => by unfold lenS; omega
  have hsf : ∀ t ∈ ts, copP t = true → farS low t < 64 := fun t ht hc => by
    obtain ⟨_, a, b⟩ := okc t ht hc
    unfold farS
    refine (Nat.div_lt_iff_lt_mul (Nat.two_pow_pos low)).2 ?_
    have : ((64 * 2 ^ low : Nat) : Int) = 64 * 2 ^ low := by simp
    omega
  have hslit : ∀ t ∈ ts, litP t = true → litS t < 256 := fun t _ _ => t.lit.toNat_lt
  have cl := cn_sum copP (lenS least) ts (len (Ln zl)) 64 hsl
  have cf := cn_sum copP (farS low) ts (len (Ln zf)) 64 hsf
  have al := cn_all copP (lenS least) ts 64 hsl
  have af := cn_all copP (farS low) ts 64 hsf
  rw [al] at bl
  rw [af] at bf
  rw [← cl] at bl
  rw [← cf] at bf
  have hlit : ((ts.filter litP).map fun t => if trees then len (Ln zb) (litS t) else 8).sum ≤ 8 * (ts.filter litP).length + 1 := by
    cases trees with
    | true =>
      have bb := (best_flat 256 8 _ zb (by decide) (by decide) rfl (hb rfl)).2.2
      have cb := cn_sum litP litS ts (len (Ln zb)) 256 hslit
      have ab := cn_all litP litS ts 256 hslit
      rw [ab, ← cb] at bb
      simp only [if_true]
      omega
    | false => simp only [Bool.false_eq_true, if_false]; rw [map_sum_const]; omega
  have h1 : (ts.flatMap (tkb15 trees low least (Ln zb) (Ln zl) (Ln zf))).length = (ts.map fun t => (tkb15 trees low least (Ln zb) (Ln zl) (Ln zf) t).length).sum := by
    rw [List.length_flatMap]
  have h2 := map_sum_le _ _ ts (fun t ht => tkb15_bits trees low least (Ln zb) (Ln zl) (Ln zf) t hlow hls (hts t ht))
  rw [map_sum_add, filter_sum, filter_sum] at h2
  have e1 : ((ts.filter litP).map fun t => 1 + (if trees then len (Ln zb) (litS t) else 8)).sum = (ts.filter litP).length + ((ts.filter litP).map fun t => if trees then len (Ln zb) (litS t) else 8).sum := by
    rw [map_sum_add, map_sum_const]; omega
  have e2 : ((ts.filter fun t => !litP t).map fun t => 8 + len (Ln zf) (farS low t) + len (Ln zl) (lenS least t)).sum = 8 * (ts.filter copP).length + ((ts.filter copP).map fun t => len (Ln zf) (farS low t)).sum + ((ts.filter copP).map fun t => len (Ln zl) (lenS least t)).sum := by
    show ((ts.filter copP).map fun t => 8 + len (Ln zf) (farS low t) + len (Ln zl) (lenS least t)).sum = _
    rw [map_sum_add, map_sum_add, map_sum_const]
  have e3 : ((ts.filter litP).map fun _ : Tk => 0).sum = 0 := by rw [map_sum_const]; omega
  have hz : sumT ts = (ts.map fun t => if litP t then 1 else sz1 t).sum := by
    unfold sumT
    congr 1
    apply List.map_congr_left
    intro t ht
    by_cases h : litP t = true
    · rw [if_pos h]; unfold sz1; rw [if_pos (by simpa [litP] using h)]
    · rw [if_neg h]
  rw [filter_sum, map_sum_const] at hz
  have hcop : 20 * (ts.filter copP).length + ((ts.filter copP).map fun t : Tk => if 63 ≤ (t.len - least).toNat then 8 else 0).sum ≤ 10 * ((ts.filter copP).map sz1).sum := by
    have hg : ∀ l : List Tk, (∀ t ∈ l, (least : Int) ≤ t.len) → 20 * l.length + (l.map fun t : Tk => if 63 ≤ (t.len - least).toNat then 8 else 0).sum ≤ 10 * (l.map sz1).sum := by
      intro l hl
      induction l with
      | nil => simp
      | cons t l ih =>
        have := ih (fun x hx => hl x (by simp [hx]))
        have ht := hl t (by simp)
        have hs : sz1 t = t.len.toNat := by unfold sz1; rw [if_neg (by omega)]
        simp only [List.length_cons, List.map_cons, List.sum_cons, hs]
        split <;> omega
    exact hg _ (fun t ht => (okc t (List.mem_filter.1 ht).1 (List.mem_filter.1 ht).2).1)
  rw [e1, e2, e3] at h2
  have hz2 : sumT ts = 1 * (ts.filter litP).length + ((ts.filter copP).map sz1).sum := hz
  have h3 : ((ts.filter fun t => !litP t).map fun t : Tk => if 63 ≤ (t.len - least).toNat then 8 else 0).sum = ((ts.filter copP).map fun t : Tk => if 63 ≤ (t.len - least).toNat then 8 else 0).sum := rfl
  rw [h3] at h2
  rw [h1]
  omega
/-- what is written is not too long -/
theorem wr16_len (trees : Bool) (low least : Nat) (zb zl zf : List Int) (ts : List Tk) (hlow : low ≤ 7) (hls : 2 ≤ least) (hts : ∀ t ∈ ts, tkOk15 low least t) (h : trees16 zb zl zf trees low least ts) :
    (wr15 trees low least (Ln zb) (Ln zl) (Ln zf) ts).length ≤ 392 + 5 * sumT ts / 4 := by
  have hbits := bits16 trees low least zb zl zf ts hlow hls hts h
  obtain ⟨hb, hl, hf⟩ := h
  have fl := best_flat 64 6 _ zl (by decide) (by decide) rfl hl
  have ff := best_flat 64 6 _ zf (by decide) (by decide) rfl hf
  have b8l : ∀ l : List UInt8, (b8 l).length = 8 * l.length := fun l => by
    unfold b8
    induction l with
    | nil => rfl
    | cons x l ih => rw [List.flatMap_cons, List.length_append, bitsOf_length, ih, List.length_cons]; omega
  have pl : ∀ zs : List Int, (packL (Ln zs)).length ≤ 1 + zs.length := fun zs => by
    have h1 := pk_len (Ln zs) 1
    have h2 : (packL (Ln zs)).length = (pk 1 (Ln zs)).length + 1 := rfl
    rw [Ln_length] at h1; omega
  have hhd : (hd15 trees (Ln zb) (Ln zl) (Ln zf)).length ≤ 8 * 387 := by
    have h1 := pl zl
    have h2 := pl zf
    unfold hd15
    rw [List.length_append, List.length_append, b8l, b8l]
    cases trees with
    | true =>
      have h3 := pl zb
      have fb := (best_flat 256 8 _ zb (by decide) (by decide) rfl (hb rfl)).2.1
      rw [if_pos rfl, b8l]; omega
    | false => simp; omega
  unfold wr15 wb15 ofBits
  rw [List.length_map, List.length_range, List.length_append]
  omega
end Go.Proofs.YthmojejiaeninaaGreat
namespace Go.Proofs.YthmojejiaeninaaGreat
set_option linter.unusedVariables false
set_option linter.unusedSimpArgs false

/-- what is found -/
def sh16 (large trees : Bool) : Sh := ⟨win15 large, least15 trees, (least15 trees + 318 : Nat), 64, true⟩
theorem sh16_ok (large trees : Bool) : (sh16 large trees).ok := by cases large <;> cases trees <;> decide
theorem low16 (large : Bool) : low15 large ≤ 7 ∧ win15 large = 64 * 2 ^ low15 large := by cases large <;> decide
theorem least16 (trees : Bool) : 2 ≤ least15 trees ∧ least15 trees ≤ 3 := by cases trees <;> decide
theorem fits16 {large trees : Bool} {ts : List Tk} (h : fitsT ts (sh16 large trees) = true) : ∀ t ∈ ts, tkOk15 (low15 large) (least15 trees) t := by
  intro t ht
  unfold fitsT at h
  rw [List.all_eq_true] at h
  have := h t ht
  rw [decide_eq_true_eq] at this
  have e : ((64 * 2 ^ low15 large : Nat) : Int) = 64 * 2 ^ low15 large := by simp
  have hw := (low16 large).2
  rcases this with ⟨a, b⟩ | ⟨a, b, c, d, f⟩
  · exact .inl ⟨a, b⟩
  · right
    unfold sh16 at b c f
    dsimp only at b c f
    omega
theorem found16 (b : List UInt8) (large trees : Bool) : ∀ t ∈ found b (sh16 large trees), tkOk15 (low15 large) (least15 trees) t := fits16 (fd_fits (sh16_ok large trees) _ _)
theorem tk_nou {s : HS} {t : Tk} (h : (s.tk t).1 = 0) : ({ s with nou := true } : HS).tk t = (0, { (s.tk t).2 with nou := true }) := by
  unfold HS.tk at *
  by_cases h0 : t.len = 0
  · rw [if_pos h0] at h ⊢
    rw [if_pos h0]
    unfold HS.lit at *
    by_cases h1 : s.most ≤ s.b.length
    · rw [if_pos h1] at h; simp at h
    · rw [if_neg h1, if_neg h1]
  · rw [if_neg h0] at h ⊢
    rw [if_neg h0]
    unfold HS.copy at *
    by_cases h1 : t.dist < 1 ∨ t.len < 0
    · rw [if_pos h1] at h; simp at h
    rw [if_neg h1] at h ⊢
    by_cases h2 : (s.win : Int) < t.dist ∨ ((s.b.length : Int) < t.dist ∧ s.nou = false)
    · rw [if_pos h2] at h; simp at h
    rw [if_neg h2] at h ⊢
    by_cases h3 : (s.most : Int) - s.b.length < t.len
    · rw [if_pos h3] at h; simp at h
    rw [if_neg h1, if_neg h3, if_neg (by simp only [Bool.true_eq_false, and_false, or_false]; omega), if_neg h3]
theorem tellT_nou {s : HS} {ts : List Tk} (h : (tellT s ts).1 = 0) : tellT { s with nou := true } ts = (0, { (tellT s ts).2 with nou := true }) := by
  induction ts generalizing s with
  | nil => simp [tellT]
  | cons t ts ih =>
    rw [tellT] at h ⊢
    by_cases h1 : (s.tk t).1 = 0
    · rw [if_pos h1] at h
      rw [tk_nou h1, if_pos rfl, ih h, tellT, if_pos h1]
    · rw [if_neg h1] at h; exact absurd h h1
/-- the trees of tokens, as Lengths answers them -/
def T16 (large trees : Bool) (ts : List Tk) (x y z : List Int) : Prop := trees16 x y z trees (low15 large) (least15 trees) ts ∧
  x = (if trees then limL (wts 256 (cnO litP litS ts)) 16 else []) ∧ y = limL (wts 64 (cnO copP (lenS (least15 trees)) ts)) 16 ∧ z = limL (wts 64 (cnO copP (farS (low15 large)) ts)) 16
theorem T16.one {large trees : Bool} {ts : List Tk} {x y z x' y' z' : List Int} (h : T16 large trees ts x y z) (h' : T16 large trees ts x' y' z') : x = x' ∧ y = y' ∧ z = z' :=
  ⟨h.2.1.trans h'.2.1.symm, h.2.2.1.trans h'.2.2.1.symm, h.2.2.2.trans h'.2.2.2.symm⟩
theorem T16.ok {large trees : Bool} {ts : List Tk} {x y z : List Int} (h : T16 large trees ts x y z) : (trees = true → schk x = 0 ∧ x.length = 256) ∧ (schk y = 0 ∧ y.length = 64) ∧ (schk z = 0 ∧ z.length = 64) := by
  obtain ⟨⟨hb, hl, hf⟩, _⟩ := h
  refine ⟨fun e => ?_, ?_, ?_⟩
  · have := best_flat 256 8 _ x (by decide) (by decide) rfl (hb e); exact ⟨this.1, this.2.1⟩
  · have := best_flat 64 6 _ y (by decide) (by decide) rfl hl; exact ⟨this.1, this.2.1⟩
  · have := best_flat 64 6 _ z (by decide) (by decide) rfl hf; exact ⟨this.1, this.2.1⟩
/-- what Encode answers -/
def enc16 (b : List UInt8) (large trees : Bool) (x y z : List Int) : List UInt8 := if b.length = 0 then [] else wr15 trees (low15 large) (least15 trees) (Ln x) (Ln y) (Ln z) (found b (sh16 large trees))
/-- LOSSLESS: what is encoded is decoded as it was -/
theorem dec16 (b : List UInt8) (large trees : Bool) (x y z : List Int) (h : b.length ≠ 0 → T16 large trees (found b (sh16 large trees)) x y z) : dec15 (enc16 b large trees x y z) large trees b.length = (b, (found b (sh16 large trees)).length, 0) := by
  unfold enc16
  by_cases h0 : b.length = 0
  · rw [if_pos h0]
    have : b = [] := List.length_eq_zero_iff.1 h0
    subst this
    rfl
  · rw [if_neg h0]
    have h := h h0
    obtain ⟨h1, h2, h3⟩ := h.ok
    have hs := sh16_ok large trees
    have ht := fd_tell (b := b) hs b.length 0 (Nat.zero_le _) (by omega)
    have hwin : (sh16 large trees).win.toNat = win15 large := by unfold sh16; simp
    rw [List.take_zero, hwin] at ht
    have hf : fdF b (sh16 large trees) b.length 0 = found b (sh16 large trees) := rfl
    rw [hf] at ht
    have hn := tellT_nou (by rw [ht] : (tellT ⟨win15 large, b.length, false, []⟩ (found b (sh16 large trees))).1 = 0)
    rw [ht] at hn
    have hne : found b (sh16 large trees) ≠ [] := by
      intro e
      have := found_sum (b := b) hs
      rw [e] at this
      simp [sumT] at this; omega
    have hd := dec15_wr large trees x y z h1 h2 h3 _ (found16 b large trees) ⟨win15 large, b.length, true, []⟩ (by rw [hn]) rfl rfl rfl hne
    rw [hn] at hd
    exact hd
/-- it is not too long -/
theorem enc16_len (b : List UInt8) (large trees : Bool) (x y z : List Int) (h : b.length ≠ 0 → T16 large trees (found b (sh16 large trees)) x y z) : (enc16 b large trees x y z).length ≤ 392 + 5 * b.length / 4 := by
  unfold enc16
  by_cases h0 : b.length = 0
  · rw [if_pos h0]; exact Nat.zero_le _
  · rw [if_neg h0]
    have h := h h0
    have := wr16_len trees (low15 large) (least15 trees) x y z _ (low16 large).1 (least16 trees).1 (found16 b large trees) h.1
    rw [found_sum (sh16_ok large trees)] at this
    exact this
theorem found16_len (b : List UInt8) (large trees : Bool) : (found b (sh16 large trees)).length ≤ b.length := by
  have := fd_len (b := b) (sh16_ok large trees) b.length 0
  exact this
end Go.Proofs.YthmojejiaeninaaGreat
namespace Go.Proofs.YthmojejiaeninaaGreat
set_option linter.unusedVariables false
set_option linter.unusedSimpArgs false
open Go.ChangeShapes Go.WideShapes Go.ChangeAt Go.RowKit Go.Shelf
attribute [local go_sem] Oper.semAt_some

theorem backward64_c (w : World) (a : Option Addr) (n c : Nat) : Calls Tryz.prog 110 #[.slice a n c] w fun e w' => e = .returned (.func (.func 121) #[] #[.pointer (some ⟨w.heap.size, 0, none⟩)]) ∧ w' = w.alloc (.cells #[.slice a n c] 32) := by
  go_enter Tryz.func110, Tryz.ntmps110
  go_wp2
  go_ret
  exact ⟨rfl, rfl⟩
set_option maxRecDepth 100000 in
set_option maxHeartbeats 2000000 in
theorem backward64_steps (S : List Nat) (n₀ Bs g off L cap : Nat) (hL : L ≤ 100000) (f : Nat → Nat) (w : World) (hn : n₀ ≤ w.heap.size) (hBn : Bs < n₀) (hgn : g < n₀) (hBS : Bs ∉ S) (hgS : g ∉ S)
    (hb : w.cell? ⟨Bs, 0, none⟩ = some (.slice (some ⟨g, off, none⟩) L cap)) (hv : ∀ j, j < L → w.cell? ⟨g, off + j, none⟩ = some (.int .i64 (f j))) :
    StepsBy Tryz.prog 121 #[.pointer (some ⟨Bs, 0, none⟩)] (fun j : Nat => #[.int .i64 j, .int .i64 (f j)]) (KB S n₀) (dwn L) w := by
  intro l J W hW hY h0
  have hKW : KB S n₀ w W := ⟨hW.os, hW.tape, hW.output, hW.size, fun k h1 h2 => hW.block k (by omega)⟩
  refine callsIn_of_wp Tryz.func121 rfl trivial ?_ rfl
  simp only [Tryz.ntmps121, List.size_toArray, List.length_cons, List.length_nil, Nat.reduceAdd, Nat.reduceSub, Array.replicate_succ, Array.replicate_zero, List.push_toArray, List.append_toArray, List.nil_append, List.cons_append]
  have HB := Lib.hid (fun W' (k : KB S n₀ w W') => k.cell hb hBn hBS)
  have HV := Lib.hid (fun W' (k : KB S n₀ w W') j hj => k.cell (hv j hj) hgn hgS)
  have HY := Lib.hid hY
  have HK := Lib.hid hKW
  have hb1 := HB.out W hKW
  have e0 : IntKind.i64.wrap ((L : Int) - 1) = (L : Int) - 1 := by rw [IntKind.wrap_i64]; omega
  clear hb hv hY hKW hW
  gi_wp2
  clear e0 hb1
  gi_loopw [3] (fun i wr => ∃ (k : Nat) (z : Int), k ≤ L ∧ i = .int .i64 z ∧ Hid (z = (L : Int) - 1 - (k : Int)) ∧ J k wr ∧ Hid (KB S n₀ w wr)) (fun i _ => (intOf i + 1).toNat)
  case atStart => exact ⟨0, _, Nat.zero_le _, rfl, (show _ = _ by omega), h0, HK.out⟩
  case round =>
    clear h0 HK
    obtain ⟨k, z, hk, rfl, HZ, hJ, HK⟩ := hrel
    have hb2 := HB.out wr HK.out
    by_cases hlt : k < L
    · obtain ⟨j, hj⟩ : ∃ j : Nat, j = L - 1 - k := ⟨_, rfl⟩
      have hjL : j < L := by omega
      have hz : z = (j : Int) := by have := HZ.out; omega
      subst hz
      have c1 := HV.out wr HK.out j hjL
      obtain ⟨fn, tmps, assign, body, hy, hR⟩ := HY.out k j wr (by rw [dwn_at L k hlt, hj]) hJ
      have e1 : IntKind.i64.wrap ((j : Int) - 1) = (j : Int) - 1 := by rw [IntKind.wrap_i64]; omega
      have hjz : (j : Int) < (L : Int) := by omega
      clear hj
      gi_wp2
      refine hR.mono ?_
      rintro e W3 ⟨rfl, hJ3, hk3⟩
      have HK3 : Hid (KB S n₀ w W3) := HK.out.trans hk3
      have HZ3 : Hid ((j : Int) - 1 = (L : Int) - 1 - ((k + 1 : Nat) : Int)) := by have := HZ.out; unfold Hid; omega
      clear hk3 hb2 c1 hy hR hJ HK HZ
      gi_wp2
      go_roundw
      case rel => exact ⟨k + 1, _, by omega, rfl, HZ3, hJ3, HK3⟩
      case measure => simp [intOf]
    · obtain rfl : k = L := by omega
      have hz : z = -1 := by have := HZ.out; omega
      subst hz
      gi_wp2
      go_end0
      exact ⟨⟨_, rfl⟩, by rw [dwn_len]; exact hJ⟩
theorem fromlast_c (w : World) (a : Option Addr) (n c : Nat) : Calls Tryz.prog 93 #[.slice a n c] w fun e w' => e = .returned (.func (.func 109) #[] #[.pointer (some ⟨w.heap.size, 0, none⟩)]) ∧ w' = w.alloc (.cells #[.slice a n c] 32) := by
  go_enter Tryz.func93, Tryz.ntmps93
  go_wp2
  go_ret
  exact ⟨rfl, rfl⟩
/-- what has been handed out of symbols of one length, k of Backward's rounds on -/
def part (L : List Nat) (n k : Nat) : List Nat := ((dwn L.length).take k).filter fun s => len L s == n
theorem part_zero (L : List Nat) (n : Nat) : part L n 0 = [] := rfl
theorem part_all (L : List Nat) (n : Nat) : part L n L.length = ofLen L n := by unfold part ofLen; rw [List.take_of_length_le (by rw [dwn_len]; exact Nat.le_refl _)]
theorem part_hit (L : List Nat) (n k : Nat) (hk : k < L.length) (h : len L (L.length - 1 - k) = n) : part L n (k + 1) = part L n k ++ [L.length - 1 - k] := by
  unfold part
  rw [List.take_add_one, dwn_at _ _ hk, List.filter_append]
  simp [h]
theorem part_miss (L : List Nat) (n k : Nat) (hk : k < L.length) (h : len L (L.length - 1 - k) ≠ n) : part L n (k + 1) = part L n k := by
  unfold part
  rw [List.take_add_one, dwn_at _ _ hk, List.filter_append]
  simp [h]
theorem ofLen_split (L : List Nat) (n k : Nat) (hk : k < L.length) (h : len L (L.length - 1 - k) = n) : ∃ M, ofLen L n = part L n k ++ (L.length - 1 - k) :: M := by
  refine ⟨((dwn L.length).drop (k + 1)).filter fun s => len L s == n, ?_⟩
  have hs := (List.take_append_drop (k + 1) (dwn L.length)).symm
  unfold ofLen
  conv => lhs; rw [hs]
  rw [List.filter_append]
  show part L n (k + 1) ++ _ = _
  rw [part_hit L n k hk h, List.append_assoc]
  rfl
end Go.Proofs.YthmojejiaeninaaGreat
/- sfano's fromLast hands out the symbols as they stand by falling lengths, of one length by falling symbols. -/
namespace Go.Proofs.YthmojejiaeninaaGreat
set_option linter.unusedVariables false
set_option linter.unusedSimpArgs false
open Go.ChangeShapes Go.WideShapes Go.ChangeAt Go.RowKit Go.Shelf
attribute [local go_sem] Oper.semAt_some

theorem Mks.alloc {B : Nat} {Ds : List Nat} {W : World} (h : Mks B Ds W) (o : Obj) : Mks B Ds (W.alloc o) :=
  ⟨h.nodup, fun D hD => ⟨(h.at_ D hD).1, (((Keep.refl [] W).alloc o).block D (Array.getElem?_eq_some_iff.1 (h.at_ D hD).2).1 (by simp)).trans (h.at_ D hD).2⟩⟩
theorem keepsFrom_of {B : Nat} {S : List Nat} {W W' : World} (h : Keep S W W') (hs : ∀ x ∈ S, x < B) : KeepsFrom B W W' :=
  ⟨h.size, fun k o hB hk _ => (h.block k (Array.getElem?_eq_some_iff.1 hk).1 (fun hm => by have := hs k hm; omega)).trans hk⟩
/-- what stands between two rounds over lengths: n is the next length, pre has been handed out -/
structure FL (L : List Nat) (S : List Nat) (l by_ bn : Nat) (J : Nat → World → Prop) (W0 : World) (n : Nat) (pre : List Nat) (Ds : List Nat) (W : World) : Prop where
  le : n ≤ 16
  split : ordS L 16 = pre ++ ordS L n
  j : J pre.length W
  yield_ : W.cell? ⟨by_, 0, none⟩ = some (.func (.yield l) #[] #[])
  num : W.cell? ⟨bn, 0, none⟩ = some (.int .i64 n)
  lts : W0.heap.size ≤ by_ ∧ W0.heap.size ≤ bn ∧ by_ < W.heap.size ∧ bn < W.heap.size
  mks : Mks W0.heap.size Ds W
  len : Ds.length + n = 16
  keep : Keep (l :: S) W0 W
theorem FL.alloc {L S : List Nat} {l by_ bn : Nat} {J : Nat → World → Prop} {W0 : World} {n : Nat} {pre Ds : List Nat} {W : World} (h : FL L S l by_ bn J W0 n pre Ds W) (hJ : OwnFrom W0.heap.size J) (o : Obj) : FL L S l by_ bn J W0 n pre Ds (W.alloc o) :=
  ⟨h.le, h.split, hJ.alloc o h.j, ((Keep.refl [] W).alloc o).cell h.yield_ (by simp), ((Keep.refl [] W).alloc o).cell h.num (by simp), by have := h.lts; simp; omega, h.mks.alloc o, h.len, h.keep.alloc o⟩
set_option maxRecDepth 100000 in
set_option maxHeartbeats 4000000 in
theorem fromlast_steps (S : List Nat) (Bs g off cap : Nat) (L : List Nat) (hL : L.length ≤ 256) (w : World) (hBn : Bs < w.heap.size) (hgn : g < w.heap.size) (hBS : Bs ∉ S) (hgS : g ∉ S) (hSn : ∀ x ∈ S, x < w.heap.size)
    (hb : w.cell? ⟨Bs, 0, none⟩ = some (.slice (some ⟨g, off, none⟩) L.length cap)) (hv : ∀ j, j < L.length → w.cell? ⟨g, off + j, none⟩ = some (.int .i64 (len L j))) :
    StepsByO Tryz.prog 109 #[.pointer (some ⟨Bs, 0, none⟩)] (fun j : Nat => #[.int .i64 j]) S (ordS L 16) w := by
  intro l J W hl1 hl2 hW hJo hY h0
  rw [callsIn_wide]
  rw [← callsIn_wide (n := 5)]
  have hBW : ∀ k, k < w.heap.size → W.heap[k]? = w.heap[k]? := fun k hk => hW.block k hk
  have HB := Lib.hid ((World.cell?_of_block (w := w) (a := ⟨Bs, 0, none⟩) (hBW Bs hBn)).trans hb)
  have HV := Lib.hid (fun j hj => (World.cell?_of_block (w := w) (a := ⟨g, off + j, none⟩) (hBW g hgn)).trans (hv j hj))
  have HY := Lib.hid hY
  have HN : Hid (Bs < W.heap.size ∧ g < W.heap.size ∧ l < W.heap.size ∧ w.heap.size ≤ l ∧ Bs < w.heap.size ∧ g < w.heap.size) := ⟨by omega, by omega, hl2, hl1, hBn, hgn⟩
  have HS : Hid ((∀ x ∈ S, x < w.heap.size) ∧ Bs ∉ S ∧ g ∉ S) := ⟨hSn, hBS, hgS⟩
  have HJo := Lib.hid hJo
  clear hb hv hY hW hBn hgn hSn hBS hgS hl1 hl2 hBW hJo
  refine callsIn_of_wp_marks Tryz.func109 rfl trivial ?_ rfl
  simp only [Tryz.ntmps109, List.size_toArray, List.length_cons, List.length_nil, Nat.reduceAdd, Nat.reduceSub, Array.replicate_succ, Array.replicate_zero, List.push_toArray, List.append_toArray, List.nil_append, List.cons_append]
  gi_wp2_with fail
  have hFL : FL L S l W.heap.size (W.heap.size + 1) J W 16 [] [] ((W.alloc (.cells #[.func (.yield l) #[] #[]] 187)).alloc (.cells #[.int .i64 16] 3)) := by
    have hk : Keep (l :: S) W ((W.alloc (.cells #[.func (.yield l) #[] #[]] 187)).alloc (.cells #[.int .i64 16] 3)) := ((Keep.refl _ W).alloc _).alloc _
    have b1 := (Blk.new W #[.func (.yield l) #[] #[]] 187).alloc (.cells #[.int .i64 16] 3)
    have b2 := Blk.new (W.alloc (.cells #[.func (.yield l) #[] #[]] 187)) #[.int .i64 16] 3
    rw [World.size_alloc] at b2
    exact ⟨by omega, rfl, HJo.out.alloc _ (HJo.out.alloc _ h0), b1.cell 0 _ rfl, b2.cell 0 _ rfl, by simp; omega, ⟨List.nodup_nil, fun D hD => by cases hD⟩, rfl, hk⟩
  obtain ⟨by_, hby⟩ : ∃ x, W.heap.size = x := ⟨_, rfl⟩
  rw [show W.heap.size + 1 = by_ + 1 by omega] at hFL ⊢
  have hFL2 : FL L S l by_ (by_ + 1) J W 16 [] [] ((W.alloc (.cells #[.func (.yield l) #[] #[]] 187)).alloc (.cells #[.int .i64 16] 3)) := by rw [← hby]; rw [← hby] at hFL; exact hFL
  clear hFL
  generalize ((W.alloc (.cells #[.func (.yield l) #[] #[]] 187)).alloc (.cells #[.int .i64 16] 3)) = W1 at hFL2 ⊢
  rw [hby]
  clear hby
  refine wpIn_loop (fun a wr => ∃ (bn n : Nat) (pre Ds : List Nat) (u4 u5 u6 u7 u8 u9 u10 u11 u12 u13 u14 u15 u16 u17 u18 u19 u20 u21 u22 u23 : Value), a = { tmps := #[.func (.yield l) #[] #[], .pointer (some ⟨Bs, 0, none⟩), .pointer (some ⟨by_, 0, none⟩), .pointer (some ⟨bn, 0, none⟩), u4, u5, u6, u7, u8, u9, u10, u11, u12, u13, u14, u15, u16, u17, u18, u19, u20, u21, u22, u23], defers := marks Ds } ∧ FL L S l by_ bn J W n pre Ds wr) (fun a _ => 17 - a.defers.length) ?_ ?_
  · exact ⟨_, 16, [], [], _, _, _, _, _, _, _, _, _, _, _, _, _, _, _, _, _, _, _, _, rfl, hFL2⟩
  rintro a wr ⟨bn, n, pre, Ds, u4, u5, u6, u7, u8, u9, u10, u11, u12, u13, u14, u15, u16, u17, u18, u19, u20, u21, u22, u23, rfl, hF⟩
  clear hFL2 h0
  rcases Nat.eq_zero_or_pos n with hn | hn
  · subst hn
    have hsp := hF.split
    rw [ordS, List.append_nil] at hsp
    have hJ := hF.j
    rw [← hsp] at hJ
    have hnum := hF.num
    have hmk := hF.mks
    clear hsp hF
    gi_wp2_with fail
    exact leaves_marks W.heap.size (fun W' => J (ordS L 16).length W') (fun s W1 W2 row h hg hr => HJo.out _ W1 W2 row h hg hr) (fun w => results_none rfl _ _ _) (fun W' hj => ⟨⟨_, rfl⟩, hj⟩) Ds wr hmk hJ
  · have hnum := hF.num
    have hq : Hid (0 < n ∧ n ≤ 16) := ⟨hn, hF.le⟩
    have hni : (0 : Int) < (n : Int) := by omega
    have hcb := hF.keep.cell HB.out (by have := HN.out; have := HS.out; simp; exact ⟨by omega, this.2.1⟩)
    have HF := Lib.hid hF
    clear hF
    gi_wp2_with fail
    refine ⟨trivial, (callsIn_wide.2 (backward64_c _ _ _ _)).mono ?_⟩
    rintro e w' ⟨rfl, rfl⟩
    have F1 := HF.out.alloc HJo.out (.cells #[.slice (some ⟨g, off, none⟩) L.length cap] 32)
    have B1 := (Blk.new wr #[.slice (some ⟨g, off, none⟩) L.length cap] 32).cell 0 (.slice (some ⟨g, off, none⟩) L.length cap) rfl
    have hbW := HF.out.keep.size
    have hsz : (wr.alloc (.cells #[.slice (some ⟨g, off, none⟩) L.length cap] 32)).heap.size = wr.heap.size + 1 := by simp
    generalize (wr.alloc (.cells #[.slice (some ⟨g, off, none⟩) L.length cap] 32)) = w1 at F1 B1 hsz ⊢
    obtain ⟨bs, hbs⟩ : ∃ x, wr.heap.size = x := ⟨_, rfl⟩
    rw [hbs] at B1 hsz hbW ⊢
    clear hbs HF hnum hcb
    gi_wp2_with fail
    have HF := Lib.hid F1
    have hsW : W.heap.size ≤ w1.heap.size := F1.keep.size
    have HV1 : ∀ j, j < L.length → w1.cell? ⟨g, off + j, none⟩ = some (.int .i64 (len L j)) := fun j hj => F1.keep.cell (HV.out j hj) (by have := HN.out; have := HS.out; simp; exact ⟨by omega, this.2.2⟩)
    refine range_steps (gf := 121) (lb := #[.pointer (some ⟨bs, 0, none⟩)]) rfl (enters_of Tryz.func121 (by kernel_rfl) rfl)
      (backward64_steps (l :: S) w1.heap.size bs g off L.length cap (by omega) (len L) w1 (Nat.le_refl _) (by omega) (by have := HN.out; omega) (by have := HN.out; have := HS.out; simp; refine ⟨by omega, fun hm => ?_⟩; have := this.1 bs hm; omega) (by have := HN.out; have := HS.out; simp; exact ⟨by omega, this.2.2⟩) B1 HV1)
      (fun h k => h.trans k) (KB.put (Nat.le_refl _)) (fun _ => rfl)
      (fun k Wk => KB (l :: S) w1.heap.size w1 Wk ∧ J (pre ++ part L n k).length Wk)
      (fun k W1 W2 row h hg hr => ⟨h.1.grown h.1.size hg (fun r e => .inr (hr r e).1), HJo.out _ _ _ row h.2 hg (fun r e => ⟨by have := (hr r e).1; omega, (hr r e).2⟩)⟩)
      ⟨KB.refl _ _ _, by rw [part_zero, List.append_nil]; exact F1.j⟩
      (fun j => { tmps := #[.func (.yield l) #[] #[], .pointer (some ⟨Bs, 0, none⟩), .pointer (some ⟨by_, 0, none⟩), .pointer (some ⟨bn, 0, none⟩), .int .i64 j, .int .i64 (len L j), .int .i64 n, .bool true, u8, u9, .slice (some ⟨g, off, none⟩) L.length cap, .func (.func 121) #[] #[.pointer (some ⟨bs, 0, none⟩)], .int .i64 j, .int .i64 (len L j), u14, u15, u16, u17, u18, u19, u20, u21, u22, u23], defers := [] }) ?assign ?body ?done
    case assign =>
      intro l x W KK hK
      gi_wp2
      exact hK
    case body =>
      intro l' k j Wk hx hT
      obtain ⟨hk, hj⟩ := dwn_get L.length k j hx
      have hnb := hT.1.cell F1.num (by have := F1.lts; show bn < _; omega) (by have := HN.out; have := HS.out; have := F1.lts; simp; refine ⟨by omega, fun hm => ?_⟩; have := HS.out.1 bn hm; omega)
      have hyb := hT.1.cell F1.yield_ (by have := F1.lts; show by_ < _; omega) (by have := HN.out; have := HS.out; have := F1.lts; simp; refine ⟨by omega, fun hm => ?_⟩; have := HS.out.1 by_ hm; omega)
      have HT := Lib.hid hT
      have HKF := Lib.hid (fun (W' : World) (h : Keep (l :: S) Wk W') => keepsFrom_of (B := w1.heap.size) h (by have := HN.out; have := HS.out; intro x hx; rcases List.mem_cons.1 hx with rfl | hx; omega; have := this.1 x hx; omega))
      by_cases he : len L j = n
      · have hat : (ordS L 16)[(pre ++ part L n k).length]? = some j := by
          obtain ⟨M, hM⟩ := ofLen_split L n k hk (by rw [← hj]; exact he)
          obtain ⟨m, rfl⟩ : ∃ m, n = m + 1 := ⟨n - 1, by omega⟩
          rw [HF.out.split, ordS, hM, ← hj, List.append_assoc, ← List.append_assoc pre, List.getElem?_append_right (Nat.le_refl _), Nat.sub_self]
          rfl
        have hnx : Hid ((pre ++ part L n (k + 1)).length = (pre ++ part L n k).length + 1) := by
          unfold Hid
          rw [part_hit L n k hk (by rw [← hj]; exact he)]
          simp only [List.length_append, List.length_cons, List.length_nil]; omega
        obtain ⟨fn, tmps, assign, body, hy, hR⟩ := HY.out _ j Wk hat hT.2
        rw [he]
        clear hat hT hx hj hk F1 B1 HV1 he
        gi_wp2_with fail
        refine (roundIn_wide hR).mono ?_
        rintro e W3 ⟨rfl, hJ3, hk3⟩
        clear hR hy
        gi_wp2_with fail
        exact ⟨HKF.out _ hk3, KB.of_keep hk3 HT.out.1.size (fun x hx => .inl hx), HT.out.1.trans (KB.of_keep hk3 HT.out.1.size (fun x hx => .inl hx)), by rw [hnx.out]; exact hJ3⟩
      · have hnx : Hid (part L n (k + 1) = part L n k) := part_miss L n k hk (by rw [← hj]; exact he)
        have hne : ((len L j : Int) == (n : Int)) = false := by rw [beq_eq_false_iff_ne]; omega
        clear hT hx hj hk F1 B1 HV1
        generalize len L j = z at hne he ⊢
        clear he
        gi_wp2_with fail
        refine ⟨fun f h => (by cases h), ?_⟩
        gi_wp2_with fail
        exact ⟨KeepsFrom.refl _ _, KB.refl _ _ _, HT.out.1, by rw [hnx.out]; exact HT.out.2⟩
    case done =>
      intro D Wd hD hT hDh
      rw [dwn_len, part_all] at hT
      have hnb := hT.1.cell F1.num (by have := F1.lts; show bn < _; omega) (by have := HN.out; have := HS.out; have := F1.lts; simp; refine ⟨by omega, fun hm => ?_⟩; have := HS.out.1 bn hm; omega)
      have hyb := hT.1.cell F1.yield_ (by have := F1.lts; show by_ < _; omega) (by have := HN.out; have := HS.out; have := F1.lts; simp; refine ⟨by omega, fun hm => ?_⟩; have := HS.out.1 by_ hm; omega)
      have HT := Lib.hid hT
      have HD := Lib.hid hDh
      have HYB := Lib.hid hyb
      have hw1 : IntKind.i64.wrap ((n : Int) - 1) = ((n - 1 : Nat) : Int) := by have := hq.out; rw [IntKind.wrap_i64]; omega
      clear hT hDh hyb B1 HV1 F1
      gi_wp2_with fail
      refine ⟨⟨Wd.heap.size, n - 1, pre ++ ofLen L n, D :: Ds, _, _, _, _, _, _, _, _, _, _, _, _, _, _, _, _, _, _, _, _, rfl, ?_⟩, ?_⟩
      · have hF := HF.out
        have hk1 := HT.out.1
        have hl := hF.lts
        have hq2 := hq.out
        have hM : Mks W.heap.size (D :: Ds) Wd := by
          refine ⟨List.nodup_cons.2 ⟨fun hm => ?_, hF.mks.nodup⟩, fun D' hD' => ?_⟩
          · have := (Array.getElem?_eq_some_iff.1 (hF.mks.at_ D hm).2).1
            omega
          · rcases List.mem_cons.1 hD' with rfl | hD'
            · exact ⟨by omega, HD.out⟩
            · obtain ⟨m1, m2⟩ := hF.mks.at_ D' hD'
              refine ⟨m1, (hk1.block D' (Array.getElem?_eq_some_iff.1 m2).1 (fun hm => ?_)).trans m2⟩
              have h1 := HN.out
              rcases List.mem_cons.1 hm with rfl | hm
              · omega
              · have := HS.out.1 D' hm; omega
        refine ⟨by omega, ?_, HJo.out.alloc _ HT.out.2, ((Keep.refl [] Wd).alloc _).cell HYB.out (by simp), (Blk.new Wd #[.int .i64 ((n - 1 : Nat) : Int)] 3).cell 0 _ rfl, ?_, hM.alloc _, ?_, (hF.keep.trans hk1.keep (fun x hx => .inl hx)).alloc _⟩
        · obtain ⟨m, rfl⟩ : ∃ m, n = m + 1 := ⟨n - 1, by omega⟩
          rw [hF.split, ordS, List.append_assoc]
          rfl
        · have := hk1.size
          simp; omega
        · have := hF.len
          simp; omega
      · have h1 := HF.out.len
        have h2 := hq.out
        simp only [marks, List.length_cons, List.length_map]
        omega
end Go.Proofs.YthmojejiaeninaaGreat
namespace Go.Proofs.YthmojejiaeninaaGreat
set_option linter.unusedVariables false
set_option linter.unusedSimpArgs false
open Go.ChangeShapes Go.WideShapes Go.ChangeAt Go.RowKit Go.Shelf
attribute [local go_sem] Oper.semAt_some

/-- the words of the symbols ks stand in their cells -/
structure CsM (cs : Array Value) (L : List Nat) (ks : List Nat) : Prop where
  size : cs.size = L.length * 2
  at_ : ∀ j, j ∈ ks → cs[j * 2]? = some (.int .u32 (scode L j)) ∧ cs[j * 2 + 1]? = some (.int .i64 (len L j))
theorem CsM.made (L : List Nat) : CsM (madeCells #[.int .u32 0, .int .i64 0] (L.length * 2)) L [] := ⟨by rw [size_madeCells], fun j hj => by cases hj⟩
theorem CsM.take {cs : Array Value} {L ks : List Nat} (h : CsM cs L ks) (k : Nat) (hk : k < L.length) :
    CsM ((cs.setIfInBounds (k * 2) (.int .u32 (scode L k))).setIfInBounds (k * 2 + 1) (.int .i64 (len L k))) L (ks ++ [k]) := by
  refine ⟨by simpa using h.size, fun j hj => ?_⟩
  have hs := h.size
  simp only [Array.getElem?_setIfInBounds, Array.size_setIfInBounds]
  by_cases e : j = k
  · subst e
    simp [hs]
    omega
  · have a1 : ¬ k * 2 + 1 = j * 2 := by omega
    have a2 : ¬ k * 2 = j * 2 := by omega
    have a3 : ¬ k * 2 + 1 = j * 2 + 1 := by omega
    have a4 : ¬ k * 2 = j * 2 + 1 := by omega
    simp only [if_neg a1, if_neg a2, if_neg a3, if_neg a4]
    exact h.at_ j (by rcases List.mem_append.1 hj with h1 | h1; exact h1; simp at h1; exact absurd h1 e)
theorem lt_of_cell' {w : World} {a : Addr} {v : Value} (h : w.cell? a = some v) : a.block < w.heap.size := by
  apply Decidable.byContradiction
  intro hn
  have : w.heap[a.block]? = none := by rw [Array.getElem?_eq_none_iff]; omega
  simp [World.cell?, this] at h
theorem addr0' (g m : Nat) : ((⟨g, 0, none⟩ : Addr).add m) = ⟨g, m, none⟩ := by cases m <;> simp [Addr.add]
theorem CsM.cds {w : World} {b : Nat} {cs : Array Value} {L ks : List Nat} (hb : Blk w b cs 82) (h : CsM cs L ks) (hall : ∀ j, j < L.length → j ∈ ks) (hm : L.length ≤ maxLen) : Cds6 w (.slice (some ⟨b, 0, none⟩) L.length L.length) L := by
  refine ⟨some ⟨b, 0, none⟩, L.length, rfl, Nat.le_refl _, hm, (fun h => nomatch h), fun x hx i hi j hj => ?_⟩
  obtain rfl : (⟨b, 0, none⟩ : Addr) = x := by simpa using hx
  rw [addr0']
  obtain ⟨h1, h2⟩ := h.at_ i (hall i hi)
  obtain rfl | rfl : j = 0 ∨ j = 1 := by omega
  · exact hb.cell _ _ h1
  · exact hb.cell _ _ h2
set_option maxRecDepth 100000 in
set_option maxHeartbeats 4000000 in
theorem codes_arg (w : World) (v : Value) (zs : List Int) (h : Is .i64 w v zs) (hm : mayS zs = false) : Calls Tryz.prog 58 #[v] w fun e w' => e = .returned (.tuple #[.slice none 0 0, .int .i64 2]) ∧ Keep [] w w' := by
  obtain ⟨a, cap, rfl, hl⟩ := h.sh
  have K := ((Keep.refl [] w).alloc (.cells #[.slice a zs.length cap] 32))
  have HM := Lib.hid (smaybe_c _ _ zs (h.keep K (by simp)))
  rw [hm] at HM
  clear h
  go_enter Tryz.func58, Tryz.ntmps58
  go_wp2_with fail
  refine HM.out.mono ?_; rintro e w1 ⟨rfl, n, rfl⟩
  clear HM
  go_wp2_with fail
  go_ret2
  exact ⟨rfl, K.drewN n⟩
set_option maxRecDepth 100000 in
set_option maxHeartbeats 4000000 in
theorem codes_tree (w : World) (v : Value) (zs : List Int) (h : Is .i64 w v zs) (hm : mayS zs = true) (ht : tot16 (Ln zs) ≠ 65536) : Calls Tryz.prog 58 #[v] w fun e w' => e = .returned (.tuple #[.slice none 0 0, .int .i64 6]) ∧ Keep [] w w' := by
  obtain ⟨a, cap, rfl, hl⟩ := h.sh
  have K := ((Keep.refl [] w).alloc (.cells #[.slice a zs.length cap] 32))
  have HM := Lib.hid (smaybe_c _ _ zs (h.keep K (by simp)))
  have HW := Lib.hid (fun n => sweight_c _ _ zs (h.keep (K.drewN n) (by simp)) hm)
  have B1 := (Blk.new w #[.slice a zs.length cap] 32).cell 0 (.slice a zs.length cap) rfl
  have hne : (((tot16 (Ln zs) : Nat) : Int) == 65536) = false := by rw [beq_eq_false_iff_ne]; omega
  rw [hm] at HM
  clear h
  generalize tot16 (Ln zs) = t at *
  clear ht
  go_enter Tryz.func58, Tryz.ntmps58
  go_wp2_with fail
  refine HM.out.mono ?_; rintro e w1 ⟨rfl, n, rfl⟩
  clear HM
  go_wp2_with fail
  refine (HW.out n).mono ?_; rintro e w1 ⟨rfl, m, rfl⟩
  clear HW
  go_wp2_with fail
  go_ret2
  exact ⟨rfl, K.drewN (n + m)⟩
set_option maxRecDepth 100000 in
set_option maxHeartbeats 4000000 in
theorem codes_ok (w : World) (v : Value) (zs : List Int) (h : Is .i64 w v zs) (hm : mayS zs = true) (ht : tot16 (Ln zs) = 65536) : Calls Tryz.prog 58 #[v] w fun e w' => ∃ b, e = .returned (.tuple #[.slice (some ⟨b, 0, none⟩) (Ln zs).length (Ln zs).length, .int .i64 0]) ∧ Cds6 w' (.slice (some ⟨b, 0, none⟩) (Ln zs).length (Ln zs).length) (Ln zs) ∧ Keep [] w w' ∧ w.heap.size ≤ b := by
  have HG := Lib.hid (fun i hi => mayS_get hm i hi)
  have hlen := ((mayS_iff zs).1 hm).2.1
  have hlen0 := ((mayS_iff zs).1 hm).1
  have hN := Ln_length zs
  obtain ⟨a, cap, rfl, hl⟩ := h.sh
  have K := ((Keep.refl [] w).alloc (.cells #[.slice a zs.length cap] 32))
  have hI := h.keep K (by simp)
  have HM := Lib.hid (smaybe_c _ _ zs hI)
  have HW := Lib.hid (fun n => sweight_c _ _ zs (h.keep (K.drewN n) (by simp)) hm)
  have B1 := Blk.new w #[.slice a zs.length cap] 32
  obtain ⟨g, off, hag, HV⟩ : ∃ g off, a = some ⟨g, off, none⟩ ∧ Hid (∀ j, j < (Ln zs).length → w.cell? ⟨g, off + j, none⟩ = some (.int .i64 (len (Ln zs) j))) := by
    obtain ⟨g, off, cap', e1, e2⟩ := h.at 0 (by omega)
    simp only [Value.slice.injEq] at e1
    refine ⟨g, off, e1.1, fun j hj => ?_⟩
    obtain ⟨g', off', cap2, e3, e4⟩ := h.at j (by omega)
    simp only [Value.slice.injEq] at e3
    rw [e1.1] at e3
    obtain ⟨⟨rfl, rfl⟩, _⟩ : (g = g' ∧ off = off') ∧ True := by have := e3.1; simp at this; exact ⟨this, trivial⟩
    rw [e4, (HG.out j (by omega)).1]
  subst hag
  have hgw : g < w.heap.size := by have := HV.out 0 (by omega); exact lt_of_cell' this
  have HL := Lib.hid (fun t ht' => (HG.out t ht').2)
  rw [hm] at HM
  rw [ht] at HW
  clear h hI hm HG
  rw [← hN] at HL
  rw [← hN]
  have c1 := B1.cell 0 _ rfl
  rw [← hN] at c1 hl hlen hlen0 K B1
  have hlenz : zs.length ≤ 256 := by omega
  generalize Ln zs = L at *
  rw [← hN] at HM HW
  clear hN
  refine (callsIn_wide (n := 5)).1 ?_
  refine callsIn_of_wp_marks Tryz.func58 rfl trivial ?_ rfl
  simp only [Tryz.ntmps58, List.size_toArray, List.length_cons, List.length_nil, Nat.reduceAdd, Nat.reduceSub, Array.replicate_succ, Array.replicate_zero, List.push_toArray, List.append_toArray, List.nil_append, List.cons_append]
  gi_wp2_with fail
  refine ⟨trivial, (callsIn_wide.2 HM.out).mono ?_⟩
  rintro e w1 ⟨rfl, n, rfl⟩
  clear HM
  gi_wp2_with fail
  refine ⟨trivial, (callsIn_wide.2 (HW.out n)).mono ?_⟩
  rintro e w1 ⟨rfl, m, rfl⟩
  clear HW
  have K2 := (K.drewN n).drewN m
  have c2 : (((w.alloc (.cells #[.slice (some ⟨g, off, none⟩) L.length cap] 32)).drewN n).drewN m).cell? ⟨w.heap.size, 0, none⟩ = some (.slice (some ⟨g, off, none⟩) L.length cap) := (((Keep.refl [] _).drewN n).drewN m).cell c1 (by simp)
  have hsz2 : w.heap.size < (((w.alloc (.cells #[.slice (some ⟨g, off, none⟩) L.length cap] 32)).drewN n).drewN m).heap.size := lt_of_cell' c2
  generalize (((w.alloc (.cells #[.slice (some ⟨g, off, none⟩) L.length cap] 32)).drewN n).drewN m) = w1 at K2 c2 hsz2 ⊢
  clear c1 K B1
  have W3 : ∃ w2, w2 = (((w1.alloc (.cells (madeCells #[.int .u32 0, .int .i64 0] (L.length * 2)) 82)).alloc (.cells #[.slice (some ⟨w1.heap.size, 0, none⟩) L.length L.length] 55)).alloc (.cells #[.int .i64 0] 3)) := ⟨_, rfl⟩
  obtain ⟨w2, hw2⟩ := W3
  have k12 : Keep [] w1 w2 := by rw [hw2]; exact (((Keep.refl [] _).alloc _).alloc _).alloc _
  have c3 := k12.cell c2 (by simp)
  rw [hw2] at c3
  have hmk := run_make_codes w1 L.length (by omega)
  gi_wp2_with fail
  refine ⟨trivial, (callsIn_wide.2 (fromlast_c _ _ _ _)).mono ?_⟩
  rintro e w' ⟨rfl, rfl⟩
  clear hmk
  rw [← hw2] at c3 ⊢
  have b0 : Blk w2 w1.heap.size (madeCells #[.int .u32 0, .int .i64 0] (L.length * 2)) 82 := by
    rw [hw2]; exact ((Blk.new w1 _ _).alloc _).alloc _
  have b1 : Blk w2 (w1.heap.size + 1) #[.slice (some ⟨w1.heap.size, 0, none⟩) L.length L.length] 55 := by
    rw [hw2]
    have := Blk.new (w1.alloc (.cells (madeCells #[.int .u32 0, .int .i64 0] (L.length * 2)) 82)) #[.slice (some ⟨w1.heap.size, 0, none⟩) L.length L.length] 55
    rw [World.size_alloc] at this
    exact this.alloc _
  have b2 : Blk w2 (w1.heap.size + 1 + 1) #[.int .i64 0] 3 := by
    rw [hw2]
    have := Blk.new ((w1.alloc (.cells (madeCells #[.int .u32 0, .int .i64 0] (L.length * 2)) 82)).alloc (.cells #[.slice (some ⟨w1.heap.size, 0, none⟩) L.length L.length] 55)) #[.int .i64 0] 3
    rw [World.size_alloc, World.size_alloc] at this
    exact this
  have hs2 : w2.heap.size = w1.heap.size + 3 := by rw [hw2]; simp
  have k02 : Keep [] w w2 := K2.trans k12 (by simp)
  clear hw2 k12 c2 K2
  obtain ⟨nb, hnb⟩ : ∃ x, w1.heap.size = x := ⟨_, rfl⟩
  rw [hnb] at b0 b1 b2 hs2 hsz2 ⊢
  clear hnb
  have d0 := b0.alloc (.cells #[.slice (some ⟨g, off, none⟩) L.length cap] 32)
  have d1 := (b1.alloc (.cells #[.slice (some ⟨g, off, none⟩) L.length cap] 32)).cell 0 _ rfl
  have d2 := b2.alloc (.cells #[.slice (some ⟨g, off, none⟩) L.length cap] 32)
  have d3 := ((Keep.refl [] w2).alloc (.cells #[.slice (some ⟨g, off, none⟩) L.length cap] 32)).cell c3 (by simp)
  have d4 := (Blk.new w2 #[.slice (some ⟨g, off, none⟩) L.length cap] 32).cell 0 _ rfl
  have K3 := k02.alloc (.cells #[.slice (some ⟨g, off, none⟩) L.length cap] 32)
  have hs3 : (w2.alloc (.cells #[.slice (some ⟨g, off, none⟩) L.length cap] 32)).heap.size = nb + 4 := by rw [World.size_alloc, hs2]
  rw [hs2] at d4 ⊢
  generalize (w2.alloc (.cells #[.slice (some ⟨g, off, none⟩) L.length cap] 32)) = w3 at d0 d1 d2 d3 d4 K3 hs3 ⊢
  clear b0 b1 b2 hs2 k02 c3
  have HV3 := Lib.hid (fun j hj => K3.cell (HV.out j hj) (by simp))
  have hg3 : g < nb := by omega
  have HZ : Hid (w.heap.size < nb ∧ g < w.heap.size ∧ w3.heap.size = nb + 4) := ⟨hsz2, hgw, hs3⟩
  obtain ⟨bx, hbx⟩ : ∃ x, w.heap.size = x := ⟨_, rfl⟩
  rw [hbx] at d3 HZ ⊢
  gi_wp2_with fail
  refine range_stepsO (gf := 109) (lb := #[.pointer (some ⟨nb + 3, 0, none⟩)]) rfl (enters_of Tryz.func109 (by kernel_rfl) rfl)
    (fromlast_steps [nb, nb + 2] (nb + 3) g off cap L hlen w3 (by omega) (by omega) (by simp) (by simp; omega) (by simp; omega) d4 HV3.out)
    (by simp; omega) (fun _ => rfl)
    (fun k W => ∃ cs, Blk W nb cs 82 ∧ CsM cs L ((ordS L 16).take k) ∧ Blk W (nb + 2) #[.int .i64 (upto L k : Nat)] 3 ∧ Keep [nb, nb + 2] w3 W)
    (fun k W W' row h hg hr => by
      obtain ⟨cs, h1, h2, h3, h4⟩ := h
      have kW : Keep row.toList W W' := (Keep.refl row.toList W).grown hg (fun k e => .inl (by simp [e]))
      have hz := HZ.out
      have hrr : ∀ r, r ∈ row.toList → nb + 4 ≤ r := fun r hr' => by have := (hr r (by simpa using hr')).1; omega
      exact ⟨cs, h1.keep kW (fun hm => by have := hrr _ hm; omega), h2, h3.keep kW (fun hm => by have := hrr _ hm; omega), h4.trans kW (fun x hx => by have := hrr _ hx; right; omega)⟩)
    ⟨_, d0, CsM.made L, by rw [upto_zero]; exact d2, Keep.refl _ _⟩
    (fun j => { tmps := #[.slice (some ⟨g, off, none⟩) L.length cap, .pointer (some ⟨bx, 0, none⟩), .slice none 0 0, .int .i64 0, .pointer (some ⟨nb + 1, 0, none⟩), .pointer (some ⟨nb + 1 + 1, 0, none⟩), .int .i64 j, undef, .slice (some ⟨g, off, none⟩) L.length cap, .bool true, .bool false, .slice (some ⟨g, off, none⟩) L.length cap, .int .i64 65536, .bool false, .slice (some ⟨g, off, none⟩) L.length cap, .int .i64 L.length, .slice (some ⟨nb, 0, none⟩) L.length L.length, .slice (some ⟨g, off, none⟩) L.length cap, .func (.func 109) #[] #[.pointer (some ⟨nb + 3, 0, none⟩)], .int .i64 j, undef, undef, undef, undef, undef, undef, undef, undef, undef, undef, undef, undef, undef, undef, undef, undef, undef, undef, undef, undef, undef, undef], defers := [] }) ?assign ?body ?done
  case assign =>
    intro l x W KK hK
    gi_wp2
    exact hK
  case body =>
    intro l k s W hx hT
    obtain ⟨cs, h1, h2, h3, h4⟩ := hT
    have HK4 := Lib.hid h4
    obtain ⟨hsL, hl1, hl16⟩ := (ordS_mem L 16 s).1 (List.mem_of_getElem? hx)
    have hup : upto L k = ah L s := ord_ahead L HL.out k s hx
    have hlt : upto L k + wd16 L s ≤ 65536 := by rw [hup, ← ht]; exact ah_top L s hsL
    have hsw : sw L s = upto L k / 2 ^ (16 - len L s) := by rw [hup]; rfl
    have hswl : sw L s < 65536 := Nat.lt_of_lt_of_le (sw_lt L s hsL (fun k hk => (HL.out k hk).2) ht) (Nat.pow_le_pow_right (by decide) hl16)
    have hz := HZ.out
    have e3 := h4.cell d3 (by simp; omega)
    have e4 := h4.cell (HV3.out s hsL) (by simp; omega)
    have e1 : W.cell? ⟨nb + 1, 0, none⟩ = some (.slice (some ⟨nb, 0, none⟩) L.length L.length) := h4.cell d1 (by simp)
    have e2 : W.cell? ⟨nb + 1 + 1, 0, none⟩ = some (.int .i64 (upto L k : Nat)) := h3.cell 0 _ rfl
    have f2 : W.frozen? ⟨nb + 1 + 1, 0, none⟩ = false := h3.free 0
    have HNX := Lib.hid (upto_succ L k s hx)
    have HTK : Hid ((ordS L 16).take (k + 1) = (ordS L 16).take k ++ [s]) := by unfold Hid; rw [List.take_add_one, hx]; rfl
    have HC2 := Lib.hid (h2.take s hsL)
    have hsz := h2.size
    have s0 : s * 2 < cs.size := by rw [hsz]; omega
    have s1 : s * 2 + 1 < cs.size := by rw [hsz]; omega
    have hTN : ∀ w, Calls Tryz.prog 94 #[.int .u32 (sw L s : Nat), .int .i64 (len L s : Nat)] w fun e w' => e = .returned (.int .u32 (scode L s : Nat)) ∧ w = w' := fun w => by
      have := turn_c (sw L s) (len L s) w (by omega)
      rw [turn_code6 _ _ hl16] at this
      exact this
    have HTN := Lib.hid hTN
    clear hTN
    obtain ⟨z, hz16⟩ : ∃ z, 16 - len L s = z := ⟨_, rfl⟩
    have hzi : (16 : Int) - (len L s : Int) = (z : Int) := by omega
    have hz16' : z ≤ 16 := by omega
    rw [hz16] at hsw
    have hwd : wd16 L s = 2 ^ z := by rw [← hz16]; rfl
    rw [hwd] at hlt
    have HNX : Hid (upto L (k + 1) = upto L k + 2 ^ z) := by have := HNX.out; rw [hwd] at this; exact this
    have hdv : ((upto L k : Nat) : Int) / (2 : Int) ^ z = ((sw L s : Nat) : Int) := by rw [hsw]; simp
    have hu32 : IntKind.u32.wrap ((sw L s : Nat) : Int) = (sw L s : Nat) := by rw [IntKind.wrap_u32]; omega
    clear h2 hx hup hsw hsz
    have hwz : IntKind.i64.wrap (z : Int) = z := by rw [IntKind.wrap_i64]; omega
    have g1 : ∀ p : Kept W, p.x.cell? ⟨nb + 1, 0, none⟩ = some (.slice (some ⟨nb, 0, none⟩) L.length L.length) := fun p => p.h.cell e1 (by simp)
    have g2 : ∀ p : Kept W, p.x.cell? ⟨nb + 1 + 1, 0, none⟩ = some (.int .i64 (upto L k : Nat)) := fun p => p.h.cell e2 (by simp)
    gi_wp2_with fail
    clear e3 e4 e1 e2 f2
    refine wpIn_region_kept_tail 12 (by kernel_rfl) (by kernel_rfl) (by kernel_rfl) ?_
    simp only [List.take_succ_cons, List.take_zero, List.drop_succ_cons, List.drop_zero]
    repeat (quiet_step (first | (go_at_call 94; with_reducible exact kept_of (kept_same (HTN.out _)))))
    refine wpQuiet_nil ?_
    rintro _ ⟨⟨w4, k4⟩, rfl⟩
    rename_i w4
    have h1 := h1.keep k4 (by simp)
    have h3 := h3.keep k4 (by simp)
    have q0 := h1.cell (s * 2) _ (Array.getElem?_eq_getElem s0)
    have q1 := h1.cell (s * 2 + 1) _ (Array.getElem?_eq_getElem s1)
    have p0 := h1.free (s * 2)
    have p1 := h1.free (s * 2 + 1)
    generalize cs[s * 2] = x0 at q0
    generalize cs[s * 2 + 1] = x1 at q1
    clear g1 g2
    go_wp2_with fail
    refine ⟨rfl, ?_⟩
    have hb5 := (h1.set (s * 2) (.int .u32 (scode L s : Nat))).set (s * 2 + 1) (.int .i64 (len L s : Nat))
    have hn5 := (h3.other (p := ⟨nb, s * 2, none⟩) (by simp) (.int .u32 (scode L s : Nat))).other (p := ⟨nb, s * 2 + 1, none⟩) (by simp) (.int .i64 (len L s : Nat))
    have K5 : Keep [nb, nb + 2] W ((w4.setCell ⟨nb, s * 2, none⟩ (.int .u32 (scode L s : Nat))).setCell ⟨nb, s * 2 + 1, none⟩ (.int .i64 (len L s : Nat))) := ((k4.mono (by simp)).setCell (.inl (by simp)) _).setCell (.inl (by simp)) _
    generalize ((w4.setCell ⟨nb, s * 2, none⟩ (.int .u32 (scode L s : Nat))).setCell ⟨nb, s * 2 + 1, none⟩ (.int .i64 (len L s : Nat))) = w5 at hb5 hn5 K5 ⊢
    clear h1 h3 q0 q1 p0 p1 k4
    have g2 : ∀ p : Kept w5, p.x.cell? ⟨nb + 1 + 1, 0, none⟩ = some (.int .i64 (upto L k : Nat)) := fun p => p.h.cell (hn5.cell 0 _ rfl) (by simp)
    obtain ⟨q, hq0⟩ : ∃ q, 2 ^ z = q := ⟨_, rfl⟩
    obtain ⟨p1', p2'⟩ := shl1 z hz16'
    rw [hq0] at p1' p2' hlt HNX
    have hq : IntKind.i64.wrap ((2 : Int) ^ z) = (q : Int) := by rw [p1', IntKind.wrap_i64]; omega
    have hadd : IntKind.i64.wrap (((upto L k : Nat) : Int) + (q : Int)) = ((upto L k + q : Nat) : Int) := by rw [IntKind.wrap_i64]; omega
    clear p1' hq0 hdv hwd hz16
    gi_wp2_with fail
    refine wpIn_region_kept_tail 5 (by kernel_rfl) (by kernel_rfl) (by kernel_rfl) ?_
    simp only [List.take_succ_cons, List.take_zero, List.drop_succ_cons, List.drop_zero]
    repeat (quiet_step (fail))
    refine wpQuiet_nil ?_
    rintro _ ⟨⟨w6, k6⟩, rfl⟩
    rename_i w6
    have hb6 := hb5.keep k6 (by simp)
    have hn6 := hn5.keep k6 (by simp)
    have e2 : w6.cell? ⟨nb + 1 + 1, 0, none⟩ = some (.int .i64 (upto L k : Nat)) := hn6.cell 0 _ rfl
    have f2 : w6.frozen? ⟨nb + 1 + 1, 0, none⟩ = false := hn6.free 0
    clear g2
    go_wp2_with fail
    refine ⟨rfl, ?_⟩
    have K6 : Keep [nb, nb + 2] W (w6.setCell ⟨nb + 1 + 1, 0, none⟩ (.int .i64 (upto L k + q : Nat))) := (K5.trans (k6.mono (by simp)) (fun x hx => .inl hx)).setCell (.inl (by simp)) _
    have hb7 := hb6.other (p := ⟨nb + 1 + 1, 0, none⟩) (by simp; omega) (.int .i64 (upto L k + q : Nat))
    have hn7 := hn6.set 0 (.int .i64 (upto L k + q : Nat))
    gi_wp2_with fail
    refine ⟨keepsFrom_of K6 (by simp; omega), K6, _, hb7, by rw [HTK.out]; exact HC2.out, by rw [HNX.out]; exact hn7, HK4.out.trans K6 (fun x hx => .inl hx)⟩
  case done =>
    intro D W hD hT hDh
    obtain ⟨cs, h1, h2, h3, h4⟩ := hT
    rw [List.take_length] at h2
    have hz := HZ.out
    have e1 : W.cell? ⟨nb + 1, 0, none⟩ = some (.slice (some ⟨nb, 0, none⟩) L.length L.length) := h4.cell d1 (by simp)
    have hC : Cds6 W (.slice (some ⟨nb, 0, none⟩) L.length L.length) L := CsM.cds h1 h2 (fun j hj => (ordS_mem L 16 j).2 ⟨hj, HL.out j hj⟩) (by unfold maxLen; omega)
    have HC := Lib.hid hC
    have HK : Hid (Keep [] w W) := K3.trans h4 (fun x hx => by simp at hx; right; omega)
    have HD := Lib.hid hDh
    clear hC h1 h2 h3 h4 hDh
    gi_wp2_with fail
    refine leaves_marks (v := .tuple #[.slice (some ⟨nb, 0, none⟩) L.length L.length, .int .i64 0]) (nb + 4) (fun W' => Cds6 W' (.slice (some ⟨nb, 0, none⟩) L.length L.length) L ∧ Keep [] w W') (fun s W1 W2 row h hg hr => ?_) (fun w => results_tmp2 (t := 2) (u := 3) rfl _ _ _) (fun W' hj => ⟨nb, rfl, hj.1, hj.2, by omega⟩) [D] W ⟨by simp, fun D' h => ?_⟩ ⟨HC.out, HK.out⟩
    · have kW : Keep row.toList W1 W2 := (Keep.refl row.toList W1).grown hg (fun k e => .inl (by simp [e]))
      have hrr : ∀ r, r ∈ row.toList → nb + 4 ≤ r := fun r hr' => (hr r (by simpa using hr')).1
      exact ⟨Sts.keep h.1 kW (fun b hb hm => by simp [Value.ownBlock] at hb; have := hrr b hm; omega), h.2.trans kW (fun x hx => by have := hrr _ hx; right; omega)⟩
    · obtain rfl : D' = D := by simpa using h
      exact ⟨by omega, HD.out⟩
theorem sf_codes (w : World) (v : Value) (zs : List Int) (h : Is .i64 w v zs) : Calls Tryz.prog 58 #[v] w fun e w' => ∃ v', e = .returned (.tuple #[v', .int .i64 (schk zs)]) ∧ Cds6 w' v' (Ls zs) ∧ Keep [] w w' ∧ (∀ b, v'.ownBlock = some b → w.heap.size ≤ b) ∧ (schk zs ≠ 0 → v' = .slice none 0 0) := by
  cases hm : mayS zs with
  | false =>
    have e : schk zs = 2 := by unfold schk; rw [if_pos hm]
    rw [e, show Ls zs = [] by unfold Ls; rw [e]; rfl]
    refine (codes_arg w v zs h hm).mono ?_
    rintro e w' ⟨rfl, hk⟩
    exact ⟨_, rfl, Cds6.nix _, hk, by simp [Value.ownBlock], fun _ => rfl⟩
  | true =>
    by_cases ht : tot16 (Ln zs) = 65536
    · have e : schk zs = 0 := by unfold schk; rw [hm, if_neg (by simp), if_pos ht]
      rw [e, show Ls zs = Ln zs by unfold Ls; rw [e]; rfl]
      refine (codes_ok w v zs h hm ht).mono ?_
      rintro e w' ⟨b, rfl, hc, hk, hb⟩
      exact ⟨_, rfl, hc, hk, fun b' hb' => by simp [Value.ownBlock] at hb'; omega, fun h => absurd rfl h⟩
    · have e : schk zs = 6 := by unfold schk; rw [hm, if_neg (by simp), if_neg ht]
      rw [e, show Ls zs = [] by unfold Ls; rw [e]; rfl]
      refine (codes_tree w v zs h hm ht).mono ?_
      rintro e w' ⟨rfl, hk⟩
      exact ⟨_, rfl, Cds6.nix _, hk, by simp [Value.ownBlock], fun _ => rfl⟩
end Go.Proofs.YthmojejiaeninaaGreat
namespace Go.Proofs.YthmojejiaeninaaGreat
set_option linter.unusedVariables false
set_option linter.unusedSimpArgs false
set_option maxRecDepth 100000
open Go.ChangeShapes Go.WideShapes Go.ChangeAt Go.RowKit

theorem refshape16_c (w : World) (large trees : Bool) : Calls Tryz.prog 21 #[.bool large, .bool trees] w fun e w' => e = .returned (sh16 large trees).val ∧ Keep [] w w' := by
  have HP := Lib.hid (fun w => refparams15_c w large trees)
  have hl := least16 trees
  have hv : (sh16 large trees).val = .agg #[.int .i64 (win15 large), .int .i64 (least15 trees), .int .i64 (least15 trees + 318 : Nat), .int .i64 64, .bool true] := rfl
  rw [hv]
  clear hv
  generalize win15 large = a at *
  generalize low15 large = b at *
  generalize least15 trees = c at *
  have hs : IntKind.i64.wrap ((c : Int) + 318) = ((c + 318 : Nat) : Int) := by rw [IntKind.wrap_i64]; omega
  have hB := Blk.new w #[.int .i64 0, .int .i64 0, .int .i64 0, .int .i64 0, .bool false] 46
  have K0 := (Keep.refl [] w).alloc (.cells #[.int .i64 0, .int .i64 0, .int .i64 0, .int .i64 0, .bool false] 46)
  obtain ⟨q, hq⟩ : ∃ q, w.heap.size = q := ⟨_, rfl⟩
  have HQ := Lib.hid hq
  rw [hq] at hB
  have hHP := Lib.hid (HP.out (w.alloc (.cells #[.int .i64 0, .int .i64 0, .int .i64 0, .int .i64 0, .bool false] 46)))
  clear hq HP
  go_enter Tryz.func21, Tryz.ntmps21
  go_wp2_with fail
  rw [HQ.out]
  refine hHP.out.mono ?_; rintro e w1 ⟨rfl, rfl⟩
  generalize w.alloc (.cells #[.int .i64 0, .int .i64 0, .int .i64 0, .int .i64 0, .bool false] 46) = w1 at hB K0 ⊢
  have r0 := hB.cell 0 _ rfl
  have r1 := hB.cell 1 _ rfl
  have r2 := hB.cell 2 _ rfl
  have r3 := hB.cell 3 _ rfl
  have r4 := hB.cell 4 _ rfl
  have f0 := hB.free 0
  have f1 := hB.free 1
  have f2 := hB.free 2
  have f3 := hB.free 3
  have f4 := hB.free 4
  have HF := Lib.hid (((((hB.set 0 (.int .i64 a)).set 1 (.int .i64 c)).set 2 (.int .i64 (c + 318 : Nat))).set 3 (.int .i64 64)).set 4 (.bool true))
  have hq2 := HQ.out
  have HK := Lib.hid (((((K0.setCell (p := ⟨q, 0, none⟩) (.inr (by simp; omega)) (.int .i64 a)).setCell (p := ⟨q, 1, none⟩) (.inr (by simp; omega)) (.int .i64 c)).setCell (p := ⟨q, 2, none⟩) (.inr (by simp; omega)) (.int .i64 (c + 318 : Nat))).setCell (p := ⟨q, 3, none⟩) (.inr (by simp; omega)) (.int .i64 64)).setCell (p := ⟨q, 4, none⟩) (.inr (by simp; omega)) (.bool true))
  clear hB K0 hHP hq2
  go_wp2_with fail
  refine bodyPost_ret (results_cellA rfl _ rfl HF.out _ Tryz.underlying46 rfl (by kernel_rfl)) rfl ?_
  exact ⟨rfl, HK.out⟩
theorem reftokens16_c (w : World) (v : Value) (b : List UInt8) (large trees : Bool) (hb : Bs w v b) (hl : b.length ≤ 100000) : Calls Tryz.prog 10 #[v, .bool large, .bool trees] w fun e w' => ∃ v', e = .returned v' ∧ Ts w' v' (found b (sh16 large trees)) ∧ Keep [] w w' := by
  have HS := Lib.hid (refshape16_c w large trees)
  have HF := Lib.hid (fun w (h : Bs w v b) => reffind9_c w v b (sh16 large trees) (sh16_ok large trees) h hl)
  have HB := Lib.hid hb
  generalize (sh16 large trees).val = V at *
  generalize found b (sh16 large trees) = ts at *
  obtain ⟨a, c, rfl, _⟩ := hb.shape
  clear hb
  go_enter Tryz.func10, Tryz.ntmps10
  go_wp2_with fail
  refine HS.out.mono ?_; rintro e w1 ⟨rfl, k1⟩
  go_wp2_with fail
  refine (HF.out w1 (HB.out.keep k1 (by simp))).mono ?_; rintro e w2 ⟨v2, rfl, h2, k2, _⟩
  have ht := h2.ts
  obtain ⟨a2, c2, rfl, _⟩ := ht.sh
  go_wp2_with fail
  go_ret
  exact ⟨_, rfl, ht, k1.trans k2 (by simp)⟩
end Go.Proofs.YthmojejiaeninaaGreat
