/- The landed table of layer 10: parents, Clear. -/
import Derived.Test.YtpjebbhjagllgaaLz3
import Derived.Laws.Tables
import Derived.ArgAppend
namespace Go.Proofs.Ytpjebbhjagllgaa
set_option linter.unusedVariables false
set_option linter.unusedSimpArgs false
open Go.ChangeShapes Go.WideShapes Go.ChangeAt Go.RowKit

/-- an array of 8192 truth values -/
def BA (f : Nat → Bool) : Array Value := ((List.range 8192).map fun n => Value.bool (f n)).toArray
theorem BA_size (f : Nat → Bool) : (BA f).size = 8192 := by unfold BA; rw [List.size_toArray, List.length_map, List.length_range]
theorem BA_get (f : Nat → Bool) (n : Nat) (h : n < 8192) : (BA f)[n]? = some (.bool (f n)) := by
  unfold BA; rw [List.getElem?_toArray, List.getElem?_map, List.getElem?_range h]; rfl
theorem BA_eq {cs : Array Value} {f : Nat → Bool} (hs : cs.size = 8192) (h : ∀ n, n < 8192 → cs[n]? = some (.bool (f n))) : cs = BA f := by
  apply Array.ext_getElem?
  intro i
  by_cases hi : i < 8192
  · rw [h i hi, BA_get f i hi]
  · rw [Array.getElem?_eq_none (by omega), Array.getElem?_eq_none (by rw [BA_size]; omega)]
theorem BA_set (f : Nat → Bool) (n : Nat) (y : Bool) (h : n < 8192) : (BA f).setIfInBounds n (.bool y) = BA fun i => if i = n then y else f i := by
  refine BA_eq (by rw [Array.size_setIfInBounds, BA_size]) fun i hi => ?_
  rw [Array.getElem?_setIfInBounds, BA_size]
  by_cases e : n = i
  · subst e; rw [if_pos rfl, if_pos h, if_pos rfl]
  · rw [if_neg e, BA_get f i hi, if_neg (fun h => e h.symm)]
theorem BA_one (f : Nat → Bool) : ∀ v ∈ (BA f).toList, v.oneCell' = true := by
  intro v hv
  obtain ⟨i, he⟩ := List.mem_iff_getElem?.1 hv
  have hi : i < (BA f).toList.length := (List.getElem?_eq_some_iff.1 he).1
  rw [Array.length_toList, BA_size] at hi
  rw [Array.getElem?_toList, BA_get f i hi] at he
  obtain rfl := Option.some.inj he
  rfl
/-- a row doubled n times -/
def dbl : Nat → List Value → List Value
  | 0, l => l
  | n + 1, l => (dbl n l).append (dbl n l)
theorem dbl_len (n : Nat) (l : List Value) : (dbl n l).length = l.length * 2 ^ n := by
  induction n with
  | zero => simp [dbl]
  | succ n ih =>
    show (dbl n l ++ dbl n l).length = _
    rw [List.length_append, ih, Nat.pow_succ, ← Nat.mul_assoc]; omega
theorem dbl_mem (n : Nat) (l : List Value) (v : Value) (h : v ∈ dbl n l) : v ∈ l := by
  induction n with
  | zero => exact h
  | succ n ih =>
    have h2 : v ∈ dbl n l ++ dbl n l := h
    rcases List.mem_append.1 h2 with h2 | h2 <;> exact ih h2
def leaf64 : List Value := [.bool false, .bool false, .bool false, .bool false, .bool false, .bool false, .bool false, .bool false, .bool false, .bool false, .bool false, .bool false, .bool false, .bool false, .bool false, .bool false, .bool false, .bool false, .bool false, .bool false, .bool false, .bool false, .bool false, .bool false, .bool false, .bool false, .bool false, .bool false, .bool false, .bool false, .bool false, .bool false, .bool false, .bool false, .bool false, .bool false, .bool false, .bool false, .bool false, .bool false, .bool false, .bool false, .bool false, .bool false, .bool false, .bool false, .bool false, .bool false, .bool false, .bool false, .bool false, .bool false, .bool false, .bool false, .bool false, .bool false, .bool false, .bool false, .bool false, .bool false, .bool false, .bool false, .bool false, .bool false]
theorem leaf64_len : leaf64.length = 64 := rfl
theorem leaf64_mem (v : Value) (h : v ∈ leaf64) : v = .bool false := by
  have e : leaf64 = List.replicate 64 (.bool false) := rfl
  rw [e] at h
  exact List.eq_of_mem_replicate h
theorem baInfoD : (Try.prog.info? 65).map (fun i => (i.zero, i.size)) = some (some (.agg (dbl 7 leaf64).toArray), 8192) := by kernel_rfl
theorem BA_zero : (dbl 7 leaf64).toArray = BA fun _ => false := by
  have hl : (dbl 7 leaf64).length = 8192 := by rw [dbl_len, leaf64_len]
  refine BA_eq (by rw [List.size_toArray, hl]) fun n hn => ?_
  rw [List.getElem?_toArray, List.getElem?_eq_getElem (by rw [hl]; exact hn)]
  rw [leaf64_mem _ (dbl_mem 7 leaf64 _ (List.getElem_mem _))]
theorem baInfo : (Try.prog.info? 65).map (fun i => (i.zero, i.size)) = some (some (.agg (BA fun _ => false)), 8192) := by rw [← BA_zero]; exact baInfoD
theorem baSize : (Try.prog.info? 65).map (·.size) = some 8192 := by kernel_rfl
theorem wpList_loadBA {ops : Array Oper} {rest : List Oper} {o : Oper} {a : Act} {w : World} {Q : Exit → Act → World → Prop} (hgd : o.guard = none) (x : Operand) (ho : o.op = .load 65 x)
    (g : Nat) (hx : a.eval x = .pointer (some ⟨g, 0, none⟩)) (f : Nat → Bool) (hb : Blk w g (BA f) 65)
    (h : wpList Try.prog ops Q rest (a.put o.dst (.agg (BA f))) w) : wpList Try.prog ops Q (o :: rest) a w :=
  wpList_load_row hgd 65 x ho g hx _ _ _ _ hb Try.underlying65 rfl (by rw [BA_size]; exact baSize) h
theorem wpList_storeBA {ops : Array Oper} {rest : List Oper} {o : Oper} {a : Act} {w : World} {Q : Exit → Act → World → Prop} (hgd : o.guard = none) (x y : Operand) (ho : o.op = .store 65 x y)
    (g : Nat) (f : Nat → Bool) (hx : a.eval x = .pointer (some ⟨g, 0, none⟩)) (hy : a.eval y = .agg (BA f)) (t : TypeId) (old : Array Value) (hb : Blk w g old t) (hold : old.size = 8192)
    (h : wpList Try.prog ops Q rest (a.put o.dst undef) (w.setRow g (BA f))) : wpList Try.prog ops Q (o :: rest) a w :=
  wpList_store_row hgd 65 x y ho g _ hx hy t old hb (by rw [BA_size]; exact baSize) (by rw [hold, BA_size]) (Array.all_eq_true_iff_forall_mem.2 fun v hv => BA_one f v (by simpa using hv)) h
theorem results_cellBA {fn : Func} {p : Tmp} (h : fn.results = #[.cell p 65]) (tmps : Array Value) {w : World} {g : Nat} {f : Nat → Bool} (hp : tmps.getD p undef = .pointer (some ⟨g, 0, none⟩)) (hb : Blk w g (BA f) 65) :
    (results fn tmps).run Try.prog w = .ok (.agg (BA f)) w :=
  results_cellA h tmps hp hb _ Try.underlying65 rfl (by rw [BA_size]; exact baSize)
/-- the first i codes' parents -/
def parF (rows : List Lk) (cs : List Nat) (c : Nat) : Bool := cs.any fun x => (sloF rows x).par == c
theorem parF_next (rows : List Lk) (cs : List Nat) (x : Nat) : parF rows (cs ++ [x]) = fun c => if c = (sloF rows x).par then true else parF rows cs c := by
  funext c
  unfold parF
  rw [List.any_append]
  by_cases e : c = (sloF rows x).par
  · subst e; simp
  · rw [if_neg e]
    have : ((sloF rows x).par == c) = false := by simpa using fun h => e h.symm
    simp [this]
theorem parF_all {rows : List Lk} {gs : List Nat} (h : Gvn rows gs) (hs : srt rows) : parF rows gs = isPar rows := by
  funext c
  rw [Bool.eq_iff_iff, h.par hs]
  unfold parF
  rw [List.any_eq_true]
  constructor
  · rintro ⟨x, h1, h2⟩; exact ⟨x, h1, by simpa using h2⟩
  · rintro ⟨x, h1, h2⟩; exact ⟨x, h1, by simpa using h2⟩
set_option maxRecDepth 100000 in
set_option maxHeartbeats 4000000 in
theorem lparents_c (w : World) (q sb : Nat) (vg : Value) (g k : Nat) (gs : List Nat) (s : LT) (h : LTb w q sb vg g k gs s) : Calls Try.prog 32 #[.pointer (some ⟨q, 0, none⟩)] w fun e w' => e = .returned (.agg (BA (isPar s.rows))) ∧ Keep [] w w' := by
  have hz := (zero_of_info (P := Try.prog) baInfo).1
  have HP := Lib.hid (parF_all h.per h.ok.srt)
  have HN := Lib.hid (parF_next s.rows)
  have HKK := Lib.hid (fun w' (kp : Keep [] w w') => h.keep kp (by simp) (by simp) (by simp) (by simp))
  have HSM := Lib.hid h.rd.sm
  have HGM := Lib.hid (fun c hc => h.per.small h.ok (c := c) hc)
  obtain ⟨a, cap, hvg, _, _⟩ := h.giv.gs.sh
  subst hvg
  generalize hP : isPar s.rows = PF at *
  obtain ⟨Z, hZ⟩ : ∃ Z, BA (fun _ => false) = Z := ⟨_, rfl⟩
  rw [hZ] at hz
  have HZ := Lib.hid hZ
  have hB0 := Blk.new w Z 65
  have hB1 := Blk.new (w.alloc (.cells Z 65)) Z 65
  have hB0' := hB0.alloc (.cells Z 65)
  have K0 := Lib.hid (((Keep.refl [] w).alloc (.cells Z 65)).alloc (.cells Z 65))
  have hsz : (w.alloc (.cells Z 65)).heap.size = w.heap.size + 1 := by simp
  rw [hsz] at hB1
  have HB0 := Lib.hid hB0'
  have HB1 := Lib.hid hB1
  have c1 : ((w.alloc (.cells Z 65)).alloc (.cells Z 65)).cell? ⟨q, 1, none⟩ = some (.slice a gs.length cap) := (HKK.out _ K0.out).box.cell 1 _ rfl
  clear hP hZ hB0 hB1 hB0' h
  go_enter Try.func32, Try.ntmps32
  go_wp2_with fail
  obtain ⟨l1, hl1⟩ : ∃ l1, w.heap.size = l1 := ⟨_, rfl⟩
  have HL1 := Lib.hid hl1
  rw [hl1] at HB0 HB1 ⊢
  generalize (w.alloc (.cells Z 65)).alloc (.cells Z 65) = w2 at *
  clear hsz hl1 hz c1
  have HST : Hid (Blk w2 (l1 + 1) (BA (parF s.rows [])) 65) := by have := HB1.out; rw [← HZ.out] at this; exact this
  go_loopw [11] (fun iv wr => ∃ i : Nat, i ≤ gs.length ∧ iv = .int .i64 i ∧ Hid (Blk wr (l1 + 1) (BA (parF s.rows (gs.take i))) 65) ∧ Hid (Blk wr l1 Z 65) ∧ Hid (Keep [] w wr)) (fun iv _ => gs.length - (intOf iv).toNat)
  case atStart => exact ⟨0, Nat.zero_le _, rfl, by rw [List.take_zero]; exact HST, HB0, K0⟩
  case round =>
    obtain ⟨i, hi, rfl, hb, h0, hk⟩ := hrel
    clear HST HB0 HB1 K0
    by_cases hlt : i < gs.length
    · have hlt2 : (i : Int) < gs.length := by omega
      have HT := HKK.out wr hk.out
      obtain ⟨b, off, cap', hv, hcl⟩ := HT.giv.gs.at EIg i hlt
      simp only [Value.slice.injEq] at hv
      obtain ⟨rfl, x1, rfl⟩ := hv
      clear x1
      have hc0 := hcl 0 (by decide)
      have hc0' : wr.cell? ⟨b, off + i, none⟩ = some (.int .i64 gs[i]) := by simpa [EI] using hc0
      have hmem : gs[i] ∈ gs := List.getElem_mem hlt
      have hsm := HGM.out _ hmem
      have c0 : wr.cell? ⟨q, 0, none⟩ = some (.slice (some ⟨sb, 0, none⟩) 8192 8192) := HT.box.cell 0 _ rfl
      obtain ⟨s0, _, _⟩ := HT.slot gs[i] hsm.2
      have hps := HSM.out gs[i]
      have htk : gs.take (i + 1) = gs.take i ++ [gs[i]] := by rw [List.take_add_one, List.getElem?_eq_getElem hlt]; rfl
      have HB2 := Lib.hid (hb.out.set (sloF s.rows gs[i]).par (.bool true))
      rw [BA_set _ _ _ hps, ← HN.out, ← htk] at HB2
      have HF := hb.out.free (sloF s.rows gs[i]).par
      have HC := hb.out.cell _ _ (BA_get (parF s.rows (gs.take i)) _ hps)
      have H02 := Lib.hid (h0.out.other (p := ⟨l1 + 1, (sloF s.rows gs[i]).par, none⟩) (by simp) (.bool true))
      have HK2 := Lib.hid (hk.out.setCell (p := ⟨l1 + 1, (sloF s.rows gs[i]).par, none⟩) (.inr (by have := HL1.out; simp; omega)) (.bool true))
      have hsm2 := hsm.2
      clear hcl hc0 hmem htk hsm HT hb h0 hk
      generalize (sloF s.rows gs[i]).par = pp at *
      generalize gs[i] = cc at *
      have hpz : (pp : Int) < 8192 := by omega
      have hcz : (cc : Int) < 8192 := by omega
      go_wp2_with fail
      go_roundw
      case rel => exact ⟨i + 1, by omega, by go_num, HB2, H02, HK2⟩
      case measure => simp [intOf]; omega
    · have hlt2 : ¬ (i : Int) < gs.length := by omega
      have hie : gs.take i = gs := List.take_of_length_le (by omega)
      rw [hie, HP.out] at hb
      have hz256 : Z.size = 8192 := by rw [← HZ.out, BA_size]
      have h1 := hb.out
      have h0' := h0.out
      have HB2 := Lib.hid (h0'.setRow (BA PF))
      have K2 := Lib.hid (hk.out.trans (Keep.setRow (w := wr) (g := l1) (BA PF)) (fun x hx => .inr (by have := HL1.out; simp at hx; omega)))
      clear hie hlt
      go_wp2_with (first | refine wpList_loadBA rfl _ rfl _ rfl _ h1 ?_ | refine wpList_storeBA rfl _ _ rfl _ _ rfl rfl _ _ h0' hz256 ?_)
      refine bodyPost_ret (results_cellBA rfl _ rfl HB2.out) rfl ?_
      exact ⟨rfl, K2.out⟩
end Go.Proofs.Ytpjebbhjagllgaa
