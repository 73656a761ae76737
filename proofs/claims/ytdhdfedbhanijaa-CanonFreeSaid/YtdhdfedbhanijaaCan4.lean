/- Contract of canon.New: the decoder that it makes. -/
import Derived.Test.YtdhdfedbhanijaaCan3
namespace Go.Proofs.Ytdhdfedbhanijaa
set_option linter.unusedVariables false
set_option linter.unusedSimpArgs false
open Go.ChangeShapes Go.WideShapes Go.ChangeAt Go.RowKit

/-- a decoder's head: what is known of the lengths -/
def Hd (cs : Array Value) (L : List Nat) : Prop := cs.size = 1078 ∧ cs[0]? = some (.bool true) ∧ cs[1]? = some (.int .i64 (longest L)) ∧
  ∀ n, n < 17 → cs[2 + n]? = some (.int .i64 (cnt L n)) ∧ cs[19 + n]? = some (.int .i64 (fst L n)) ∧ cs[36 + n]? = some (.int .i64 (stt L n))
/-- how many symbols have words -/
def syN (L : List Nat) : Nat := stt L (longest L) + cnt L (longest L)
/-- the place of a symbol's word among all -/
def syAt (L : List Nat) (i : Nat) : Nat := stt L (len L i) + rk L i
theorem stt_mono (L : List Nat) (a b : Nat) (h : a ≤ b) : stt L a ≤ stt L b := by
  induction b with
  | zero => obtain rfl : a = 0 := by omega
            exact Nat.le_refl _
  | succ b ih =>
    by_cases e : a = b + 1
    · subst e; exact Nat.le_refl _
    · have := ih (by omega); rw [stt]; omega
theorem rk_lt_cnt (L : List Nat) (i : Nat) (hi : i < L.length) (h : 0 < len L i) : rk L i < cnt L (len L i) := by
  unfold cnt; rw [if_neg (by omega)]; exact rk_lt L i hi
theorem syAt_lt (L : List Nat) (i : Nat) (hi : i < L.length) (h : 0 < len L i) : syAt L i < syN L := by
  have h1 := rk_lt_cnt L i hi h
  have h2 := stt_mono L (len L i + 1) (longest L + 1) (by have := longest_ge L i; omega)
  rw [stt, stt] at h2
  unfold syAt syN; omega
theorem syAt_ne (L : List Nat) (i k : Nat) (hik : i < k) (hk : k < L.length) (h : 0 < len L i) (h' : 0 < len L k) : syAt L i ≠ syAt L k := by
  have h1 := rk_lt_cnt L i (by omega) h
  have h2 := rk_lt_cnt L k hk h'
  unfold syAt
  rcases Nat.lt_trichotomy (len L i) (len L k) with e | e | e
  · have := stt_mono L (len L i + 1) (len L k) e
    rw [stt] at this; omega
  · have h3 := count_take_lt L i k (len L i) hik (by omega) rfl
    unfold rk
    rw [← e]; omega
  · have := stt_mono L (len L k + 1) (len L i) e
    rw [stt] at this; omega
/-- the symbols' row, k symbols on -/
def Sy (ss : Array Value) (L : List Nat) (k : Nat) : Prop := ss.size = syN L ∧ ∀ i, i < k → i < L.length → 0 < len L i → ss[syAt L i]? = some (.int .i64 i)
theorem Sy.skip {ss : Array Value} {L : List Nat} {k : Nat} (h : Sy ss L k) (h0 : len L k = 0) : Sy ss L (k + 1) :=
  ⟨h.1, fun i hi hl hp => h.2 i (by by_cases e : i = k; (subst e; omega); omega) hl hp⟩
theorem Sy.take {ss : Array Value} {L : List Nat} {k : Nat} (h : Sy ss L k) (hk : k < L.length) (h0 : 0 < len L k) : Sy (ss.setIfInBounds (syAt L k) (.int .i64 k)) L (k + 1) := by
  refine ⟨by simpa using h.1, fun i hi hl hp => ?_⟩
  rw [Array.getElem?_setIfInBounds]
  by_cases e : i = k
  · subst e
    rw [if_pos rfl, if_pos (by rw [h.1]; exact syAt_lt L i hk h0)]
  · rw [if_neg (fun e2 => syAt_ne L i k (by omega) hk hp h0 e2.symm)]
    exact h.2 i (by omega) hl hp
/-- what is looked up at once, k symbols on -/
def Sh (cs : Array Value) (L : List Nat) (k : Nat) : Prop := ∀ x, x < 512 →
  (∃ i, i < k ∧ i < L.length ∧ 0 < len L i ∧ len L i ≤ 9 ∧ x % 2 ^ len L i = code L i ∧ cs[54 + x * 2]? = some (.int .i16 i) ∧ cs[54 + x * 2 + 1]? = some (.int .i16 (len L i))) ∨
  ((∀ i, i < k → i < L.length → 0 < len L i → len L i ≤ 9 → x % 2 ^ len L i ≠ code L i) ∧ cs[54 + x * 2]? = some (.int .i16 0) ∧ cs[54 + x * 2 + 1]? = some (.int .i16 0))
theorem Sh.skip {cs : Array Value} {L : List Nat} {k : Nat} (h : Sh cs L k) (h0 : len L k = 0 ∨ 9 < len L k) : Sh cs L (k + 1) := by
  intro x hx
  rcases h x hx with ⟨i, h1, h2⟩ | ⟨h1, h2⟩
  · exact .inl ⟨i, by omega, h2⟩
  · refine .inr ⟨fun i hi => ?_, h2⟩
    by_cases e : i = k
    · subst e; omega
    · exact h1 i (by omega)
theorem Sh.take {cs cs' : Array Value} {L : List Nat} {k : Nat} (h : Sh cs L k) (hk : k < L.length) (h0 : 0 < len L k) (h9 : len L k ≤ 9) (hl : Laid cs cs' k (code L k) (len L k) 512) : Sh cs' L (k + 1) := by
  intro x hx
  obtain ⟨h1, h2⟩ := hl.2.2 x hx
  by_cases e : x % 2 ^ len L k = code L k
  · exact .inl ⟨k, by omega, hk, h0, h9, e, h1 ⟨e, hx⟩⟩
  · obtain ⟨e1, e2⟩ := h2 (fun h => e h.1)
    rw [e1, e2]
    rcases h x hx with ⟨i, h1, h2⟩ | ⟨h1, h2⟩
    · exact .inl ⟨i, by omega, h2⟩
    · refine .inr ⟨fun i hi => ?_, h2⟩
      by_cases e' : i = k
      · subst e'; exact fun _ _ _ => e
      · exact h1 i (by omega)
theorem Hd.laid {cs cs' : Array Value} {L : List Nat} {s cd n a : Nat} (h : Hd cs L) (hl : Laid cs cs' s cd n a) : Hd cs' L := by
  obtain ⟨h1, h2, h3, h4⟩ := h
  refine ⟨by rw [hl.1, h1], by rw [hl.2.1 0 (by omega), h2], by rw [hl.2.1 1 (by omega), h3], fun n hn => ?_⟩
  rw [hl.2.1 _ (by omega), hl.2.1 _ (by omega), hl.2.1 _ (by omega)]
  exact h4 n hn
theorem Hd.sy {cs : Array Value} {L : List Nat} (h : Hd cs L) (u : Value) : Hd (cs.setIfInBounds 53 u) L := by
  obtain ⟨h1, h2, h3, h4⟩ := h
  refine ⟨by simpa using h1, ?_, ?_, fun n hn => ?_⟩
  · rw [Array.getElem?_setIfInBounds, if_neg (by omega), h2]
  · rw [Array.getElem?_setIfInBounds, if_neg (by omega), h3]
  · simp only [Array.getElem?_setIfInBounds, if_neg (show ¬ 53 = 2 + n by omega), if_neg (show ¬ 53 = 19 + n by omega), if_neg (show ¬ 53 = 36 + n by omega)]
    exact h4 n hn
theorem Sh.sy {cs : Array Value} {L : List Nat} {k : Nat} (h : Sh cs L k) (u : Value) : Sh (cs.setIfInBounds 53 u) L k := by
  intro x hx
  simp only [Array.getElem?_setIfInBounds, if_neg (show ¬ 53 = 54 + x * 2 by omega), if_neg (show ¬ 53 = 54 + x * 2 + 1 by omega)]
  exact h x hx
def r1024 : List Value := List.replicate 1024 (Value.int .i16 0)
theorem r1024_len : r1024.length = 1024 := by unfold r1024; exact List.length_replicate
theorem r1024_get (j : Nat) (h : j < 1024) : r1024[j]? = some (.int .i16 0) := by unfold r1024; rw [List.getElem?_replicate, if_pos h]
def dcl (L : List Nat) : List Value := DC true (longest L) (cnt L) (fst L) (stt L) (.slice none 0 0) []
def dc0 (L : List Nat) : Array Value := (dcl L ++ r1024).toArray
theorem dcl_len (L : List Nat) : (dcl L).length = 54 := rfl
theorem dcl_head (L : List Nat) : (dcl L)[0]? = some (.bool true) ∧ (dcl L)[1]? = some (.int .i64 (longest L)) ∧ ∀ n, n < 17 → (dcl L)[2 + n]? = some (.int .i64 (cnt L n)) ∧ (dcl L)[19 + n]? = some (.int .i64 (fst L n)) ∧ (dcl L)[36 + n]? = some (.int .i64 (stt L n)) := by
  refine ⟨rfl, rfl, fun n hn => ?_⟩
  obtain rfl | rfl | rfl | rfl | rfl | rfl | rfl | rfl | rfl | rfl | rfl | rfl | rfl | rfl | rfl | rfl | rfl : n = 0 ∨ n = 1 ∨ n = 2 ∨ n = 3 ∨ n = 4 ∨ n = 5 ∨ n = 6 ∨ n = 7 ∨ n = 8 ∨ n = 9 ∨ n = 10 ∨ n = 11 ∨ n = 12 ∨ n = 13 ∨ n = 14 ∨ n = 15 ∨ n = 16 := by omega
  all_goals exact ⟨rfl, rfl, rfl⟩
theorem dc0_lo (L : List Nat) (i : Nat) (h : i < 54) : (dc0 L)[i]? = (dcl L)[i]? := by
  unfold dc0; rw [List.getElem?_toArray, List.getElem?_append_left (by rw [dcl_len]; exact h)]
theorem dc0_hi (L : List Nat) (j : Nat) (h : j < 1024) : (dc0 L)[54 + j]? = some (.int .i16 0) := by
  unfold dc0; rw [List.getElem?_toArray, List.getElem?_append_right (by rw [dcl_len]; omega), dcl_len, Nat.add_sub_cancel_left, r1024_get j h]
theorem dc0_hd (L : List Nat) : Hd (dc0 L) L := by
  obtain ⟨h0, h1, h2⟩ := dcl_head L
  refine ⟨by unfold dc0; rw [List.size_toArray, List.length_append, dcl_len, r1024_len], by rw [dc0_lo _ _ (by omega), h0], by rw [dc0_lo _ _ (by omega), h1], fun n hn => ?_⟩
  rw [dc0_lo _ _ (by omega), dc0_lo _ _ (by omega), dc0_lo _ _ (by omega)]
  exact h2 n hn
theorem dc0_sh (L : List Nat) : Sh (dc0 L) L 0 := fun x hx => .inr ⟨fun i hi => by omega, dc0_hi L _ (by omega), by rw [Nat.add_assoc]; exact dc0_hi L _ (by omega)⟩
set_option maxRecDepth 100000 in
theorem dc0_built (L : List Nat) : Try.prog.built 70 [(0, .bool true), (1, .int .i64 (longest L)), (2, .agg (BL (cnt L))), (3, .agg (BL (fst L))), (4, .agg (BL (stt L)))] = some (dc0 L) := decBuilt _ _ _ _
theorem wpQuiet_op {P : Program} {ops : Array Oper} {Q : Act → Prop} {a : Act} {o : Oper} {rest : List Oper} {w : World} (hw : Region.wanted o (yielded ops a.tmps) = true) (v : Value)
    (hl : ∀ p : Kept w, (execOp a.eval o).run P p.x = .ok (.value v) p.x) (h : wpQuiet P ops (fun w' => ∃ p : Kept w, w' = p.x) Q rest (a.put o.dst v)) : wpQuiet P ops (fun w' => ∃ p : Kept w, w' = p.x) Q (o :: rest) a := by
  unfold wpQuiet
  rw [if_pos hw]
  refine ⟨v, ?_, h⟩
  rintro _ ⟨p, rfl⟩
  unfold Oper.quietAt
  rw [hl p]
  exact ⟨rfl, rfl⟩
theorem wpQuiet_build {P : Program} {ops : Array Oper} {Q : Act → Prop} {a : Act} {o : Oper} {rest : List Oper} {w : World} (ty : TypeId) (parts : Array (Nat × Operand)) (ho : o.op = .build ty parts) (hw : Region.wanted o (yielded ops a.tmps) = true)
    (vs : List (Nat × Value)) (hv : (parts.map fun (i, x) => (i, a.eval x)).toList = vs) (c : Array Value) (hc : P.built ty vs = some c)
    (h : wpQuiet P ops (fun w' => ∃ p : Kept w, w' = p.x) Q rest (a.put o.dst (.agg c))) : wpQuiet P ops (fun w' => ∃ p : Kept w, w' = p.x) Q (o :: rest) a := by
  refine wpQuiet_op hw _ (fun p => ?_) h
  have := run_build (P := P) p.x ty (parts.map fun (i, x) => (i, a.eval x)) c (by rw [hv]; exact hc)
  unfold execOp
  simp only [ho, Sem.run_bind, Sem.run_pure, Result.andThen_ok, this]
end Go.Proofs.Ytdhdfedbhanijaa
