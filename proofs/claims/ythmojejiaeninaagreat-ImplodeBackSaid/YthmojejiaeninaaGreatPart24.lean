/- Texts put together: FinBks -/
import Derived.Test.YthmojejiaeninaaGreatPart8
import Derived.Test.YthmojejiaeninaaGreatPart19
import Derived.Test.YthmojejiaeninaaGreatPart1
import Derived.Test.YthmojejiaeninaaGreatPart6
import Derived.Test.YthmojejiaeninaaGreatPart23
import Derived.BigQuiet
namespace Go.Proofs.YthmojejiaeninaaGreat
set_option linter.unusedVariables false
set_option linter.unusedSimpArgs false
set_option maxRecDepth 100000
open Go.ChangeShapes Go.WideShapes Go.ChangeAt Go.RowKit

/-- the first bytes from i on, as a key -/
def keyAt (b : List UInt8) (m i : Nat) : List UInt8 := (b.drop i).take m ++ List.replicate (3 - m) 0
theorem keyAt_len {b : List UInt8} {m i : Nat} (hm : m ≤ 3) (h : i + m ≤ b.length) : (keyAt b m i).length = 3 := by
  simp [keyAt]; omega
theorem keyAt_eq {b : List UInt8} {m i j : Nat} (hj : j + m ≤ b.length) (hi : i + m ≤ b.length) : keyAt b m j = keyAt b m i ↔ eqm b j i m := by
  have hg : ∀ n k, k < m → n + m ≤ b.length → ((b.drop n).take m)[k]? = some (b.getD (n + k) 0) := fun n k hk hn => by
    rw [List.getElem?_take, if_pos hk, List.getElem?_drop, List.getD_eq_getElem?_getD, List.getElem?_eq_getElem (by omega)]; rfl
  unfold keyAt
  rw [List.append_left_inj]
  constructor
  · intro h
    refine ⟨hi, fun k hk => ?_⟩
    have := hg j k hk hj
    rw [h, hg i k hk hi] at this
    exact (Option.some.inj this).symm
  · intro h
    apply List.ext_getElem?
    intro k
    by_cases hk : k < m
    · rw [hg j k hk hj, hg i k hk hi, h.2 k hk]
    · rw [List.getElem?_eq_none (by simp; omega), List.getElem?_eq_none (by simp; omega)]
/-- where a key was last below i -/
def lst (b : List UInt8) (m : Nat) : Nat → List UInt8 → Option Nat
  | 0, _ => none
  | i + 1, k => if k = keyAt b m i then some i else lst b m i k
theorem lst_prv {b : List UInt8} {m i : Nat} (hm : 0 < m) (hi : i + m ≤ b.length) (j : Nat) (hj : j ≤ i) : lst b m j (keyAt b m i) = prv b m i j := by
  induction j with
  | zero => rfl
  | succ j ih =>
    rw [lst, prv, ih (by omega)]
    have h1 := keyAt_eq (b := b) (m := m) (j := j) (i := i) (by omega) hi
    have h2 := sme_iff (b := b) (f := j) (i := i) hm
    by_cases h : keyAt b m i = keyAt b m j
    · rw [if_pos h, if_neg (h2.2 (h1.1 h.symm))]
    · rw [if_neg h, if_pos (Decidable.not_not.1 fun g => h (h1.2 (h2.1 g)).symm)]
/-- how far back, of the places below i; 0 of the others -/
def bkR (b : List UInt8) (m i : Nat) : List Nat := (List.range b.length).map fun j => if j < i then bck b m j else 0
theorem bkR_len (b : List UInt8) (m i : Nat) : (bkR b m i).length = b.length := by simp [bkR]
theorem bkR_get {b : List UInt8} {m i : Nat} (j : Nat) (hj : j < (bkR b m i).length) : (bkR b m i)[j] = if j < i then bck b m j else 0 := by simp [bkR]
theorem bkR_set {b : List UInt8} {m i : Nat} (hi : i < b.length) : (bkR b m i).set i (bck b m i) = bkR b m (i + 1) := by
  apply List.ext_getElem
  · simp [bkR]
  · intro j h1 h2
    rw [List.getElem_set]
    simp only [bkR, List.getElem_map, List.getElem_range]
    by_cases e : i = j
    · subst e; rw [if_pos rfl, if_pos (by omega)]
    · rw [if_neg e]
      by_cases g : j < i
      · rw [if_pos g, if_pos (by omega)]
      · rw [if_neg g, if_neg (by omega)]
theorem bkR_same {b : List UInt8} {m i : Nat} (h : bck b m i = 0) : bkR b m i = bkR b m (i + 1) := by
  unfold bkR
  apply List.map_congr_left
  intro j hj
  by_cases g : j < i
  · rw [if_pos g, if_pos (by omega)]
  · by_cases e : i = j
    · subst e; rw [if_neg g, if_pos (by omega), h]
    · rw [if_neg g, if_neg (by omega)]
theorem bkR_all {b : List UInt8} {m i : Nat} (hm : 0 < m) (h : b.length < i + m) : bkR b m i = (List.range b.length).map (bck b m) := by
  unfold bkR
  apply List.map_congr_left
  intro j hj
  split
  · rfl
  · rw [bck_short hm (by omega)]
theorem bkR_zero (b : List UInt8) (m : Nat) : bkR b m 0 = List.replicate b.length 0 := by
  apply List.ext_getElem <;> simp [bkR]
/-- the kind int32 -/
def el32 : El Nat := ⟨1, 21, 112, 4, fun n => [.int .i32 (n : Int)]⟩
theorem good32 : El.Good el32 := ⟨Nat.zero_lt_one, fun _ => rfl, fun x u hu => by simp [el32] at hu; subst hu; rfl, by kernel_rfl, Tryz.underlying112, by decide⟩
theorem cells32 (xs : List Nat) : el32.cells xs = xs.map fun (n : Nat) => Value.int .i32 (n : Int) := by
  unfold El.cells
  induction xs with
  | nil => rfl
  | cons x xs ih => rw [List.flatMap_cons, ih]; rfl
theorem made32 (w : World) (n : Nat) (hn : n ≤ maxLen) : OwnG el32 (w.alloc (.cells (madeCells #[.int .i32 0] n) 21)) (.slice (some ⟨w.heap.size, 0, none⟩) n n) (List.replicate n 0) := by
  have h := World.ownsRow_lit (base := 0) (e := 21) (size := 1) w (madeCells #[.int .i32 0] n) n (Nat.zero_le _) hn (by simp [size_madeCells])
  rw [toList_madeCells_one] at h
  unfold OwnG
  rw [List.length_replicate, cells32]
  simpa [el32] using h
theorem run_make_32 (w : World) (n c : Nat) (hn : n ≤ c) (hc : c ≤ 35184372088832) : (Instr.makeSlice 112 (.int .i64 (n : Int)) (.int .i64 (c : Int))).run Tryz.prog w = .ok (.slice (some ⟨w.heap.size, 0, none⟩) n c) (w.alloc (.cells (madeCells #[.int .i32 0] c) 21)) := by
  have hi : (Tryz.prog.info? 21).map (fun i => (i.zero, i.size, i.bytes)) = some (some (.int .i32 0), 1, 4) := by kernel_rfl
  obtain ⟨i, hi, hz⟩ := Option.map_eq_some_iff.1 hi
  simp only [Prod.mk.injEq] at hz
  have := run_make (P := Tryz.prog) (w := w) 112 21 i (.int .i32 0) Tryz.underlying112 hi hz.1 .i64 .i64 n c (by omega) (by omega) (by rw [hz.2.2]; omega) (by omega)
  rw [this, hz.2.1]
  simp [Value.cells]
set_option maxRecDepth 100000 in
/-- copy of bytes into an array of three that lies in a block of its own -/
theorem wpList_copy3 {w : World} {ops : Array Oper} {rest : List Oper} {o : Oper} {a : Act} {Q : Exit → Act → World → Prop} (d s : Operand) (hgd : o.guard = none)
    (ho : o.op = .call { callee := .builtin .copy, args := #[d, s], argTypes := #[22, 22] })
    (g : Nat) (hb : Blk w g #[.int .u8 0, .int .u8 0, .int .u8 0] 160) (hd : a.eval d = .slice (some ⟨g, 0, none⟩) 3 3) (sv : Value) (m : List UInt8) (hs : a.eval s = sv) (hsrc : Bs w sv m) (hm : m.length ≤ 3)
    (h : ∀ w', Blk w' g (ints8 (m ++ List.replicate (3 - m.length) 0)).toArray 160 → Keep [g] w w' → wpList Tryz.prog ops Q rest (a.put o.dst (goInt (m.length : Int))) w') : wpList Tryz.prog ops Q (o :: rest) a w := by
  obtain ⟨hl, h1, h2⟩ := hsrc.src
  have hml : (ints8 m).length = m.length := by simp [ints8]
  have key : ∃ w', (Builtin.copy_ #[22, 22] o.type #[.slice (some ⟨g, 0, none⟩) 3 3, sv]).run Tryz.prog w = .ok (goInt (m.length : Int)) w' ∧ Blk w' g (ints8 (m ++ List.replicate (3 - m.length) 0)).toArray 160 ∧ Keep [g] w w' := by
    rcases h2 with ⟨rfl, hm0⟩ | ⟨ad, c, rfl, hcell⟩
    · have hm1 : m = [] := List.eq_nil_of_length_eq_zero hm0
      subst hm1
      exact ⟨w, run_copy_nil (P := Tryz.prog) w _ _ o.type 5 _ _ _ Tryz.underlying22 (by rw [size8']; rfl), hb, Keep.refl _ _⟩
    · have hmin : Nat.min m.length 3 = m.length := Nat.min_eq_left hm
      have hrun := run_copy_row (P := Tryz.prog) w 22 22 o.type 5 g 0 3 3 ad m.length c #[.int .u8 0, .int .u8 0, .int .u8 0] _ (ints8 m) Tryz.underlying22 size8' hb (by rw [hml, hmin]) hcell (by rw [hml]; simpa using hm) h1
      refine ⟨_, by rw [hrun, hml], ?_, Keep.setRow _⟩
      have e : (#[Value.int .u8 0, .int .u8 0, .int .u8 0].toList.take 0 ++ ints8 m ++ #[Value.int .u8 0, .int .u8 0, .int .u8 0].toList.drop (0 + m.length)) = ints8 (m ++ List.replicate (3 - m.length) 0) := by
        match m, hm with
        | [], _ => rfl
        | [a], _ => rfl
        | [a, b], _ => rfl
        | [a, b, c], _ => rfl
      rw [e]
      exact hb.setRow _
  obtain ⟨w', hrun, g1, g2⟩ := key
  refine wpList_plain hgd fun K hK => ?_
  unfold Oper.wp
  simp [execOp, ho, resolve, invoke, builtin, hd, hs, hrun, Result.andThen]
  exact hK _ _ (h w' g1 g2)
/-- m[k] = v of such a map, for the walk -/
theorem wpList_lastPut {w : World} {ops : Array Oper} {rest : List Oper} {o : Oper} {a : Act} {Q : Exit → Act → World → Prop} (hg : o.guard = none) (m x v : Operand) (hop : o.op = Op.mapUpdate 158 m x v)
    (g n : Nat) (L : List UInt8 → Option Nat) (hL : LastM w g n L) (hn : n < 2147483647) (k : List UInt8) (hk : k.length = 3) (p : Nat) (hp : p < 2147483648)
    (hm : a.eval m = .map (some g)) (hx : a.eval x = .agg (ints8 k).toArray) (hv : a.eval v = .int .i32 (p : Int))
    (h : ∀ w', LastM w' g (n + 1) (fun k' => if k' = k then some p else L k') → Keep [g] w w' → wpList Tryz.prog ops Q rest (a.put o.dst undef) w') : wpList Tryz.prog ops Q (o :: rest) a w := by
  obtain ⟨w', hrun, hw⟩ := hL.put hn k hk p hp _ h
  refine wpList_plain hg fun K hK => ?_
  unfold Oper.wp
  have hr : (Instr.mapUpdate 158 (.map (some g)) (.agg (ints8 k).toArray) (.int .i32 (p : Int))).run Tryz.prog w = .ok () w' := hrun
  simp [execOp, hop, hm, hx, hv, hr, Result.andThen]
  exact hK _ _ hw

set_option maxRecDepth 100000 in
set_option maxHeartbeats 4000000 in
theorem backs_c (w : World) (v : Value) (b : List UInt8) (m : Nat) (h : Bs w v b) (hm : 2 ≤ m) (hm3 : m ≤ 3) (hb : b.length ≤ 100000) : Calls Tryz.prog 51 #[v, .int .i64 m] w fun e w' =>
    ∃ v', e = .returned v' ∧ OwnG el32 w' v' ((List.range b.length).map (bck b m)) ∧ Keep [] w w' ∧ ∀ x, v'.ownBlock = some x → w.heap.size ≤ x := by
  have HB := Lib.hid h
  obtain ⟨a, cap, rfl, hc1, hc2⟩ := h.shape
  clear h hc1 hc2
  have HMK := Lib.hid (fun ww => run_make_32 ww b.length b.length (Nat.le_refl _) (by omega))
  have HOM := Lib.hid (made32 w b.length (by unfold maxLen; omega))
  have HMM := Lib.hid (fun ww => @run_makeMap Tryz.prog 158 ww)
  have HSL := Lib.hid (fun (q : Nat) (W : World) => (show (Instr.sliceAt 160 (.pointer (some ⟨q, 0, none⟩)) none none none).run Tryz.prog W = .ok (.slice (some ⟨q, 0, none⟩) 3 3) W by
    have ht : Tryz.prog.underlying 160 = some (.array (Tryz.prog.arrayLen 160) (Tryz.prog.elem 160)) := by kernel_rfl
    have e1 : Tryz.prog.arrayLen 160 = 3 := by kernel_rfl
    have e2 : Tryz.prog.elem 160 = 5 := by kernel_rfl
    rw [run_sliceAt_array_all (ht := ht), e1, e2, size8]
    rfl))
  go_enter Tryz.func51, Tryz.ntmps51
  have hmk := HMK.out w
  have hmm := HMM.out (w.alloc (.cells (madeCells #[.int .i32 0] b.length) 21))
  go_wp2_with fail
  clear hmk hmm
  have HK0 : Hid (Keep [] w ((w.alloc (.cells (madeCells #[.int .i32 0] b.length) 21)).alloc (.map #[] 0))) := ((Keep.refl [] w).alloc _).alloc _
  have HO0 : Hid (OwnG el32 ((w.alloc (.cells (madeCells #[.int .i32 0] b.length) 21)).alloc (.map #[] 0)) (.slice (some ⟨w.heap.size, 0, none⟩) b.length b.length) (bkR b m 0)) := by
    rw [bkR_zero]; exact OwnG.keep HOM.out ((Keep.refl [] _).alloc _) (by simp)
  have HL0 := Lib.hid (LastM.made (w.alloc (.cells (madeCells #[.int .i32 0] b.length) 21)))
  have hsz : (w.alloc (.cells (madeCells #[.int .i32 0] b.length) 21)).heap.size = w.heap.size + 1 := by simp
  simp only [hsz] at HL0 ⊢
  generalize (w.alloc (.cells (madeCells #[.int .i32 0] b.length) 21)).alloc (.map #[] 0) = w0 at HK0 HO0 HL0 ⊢
  obtain ⟨r, hr⟩ : ∃ r, w.heap.size = r := ⟨_, rfl⟩
  have HQ := Lib.hid hr
  clear hsz HOM HMK HMM
  rw [hr] at HO0 HL0 ⊢
  clear hr
  go_loopw [7] (fun iv wr => ∃ i : Nat, i ≤ b.length ∧ iv = .int .i64 i ∧ Hid (OwnG el32 wr (.slice (some ⟨r, 0, none⟩) b.length b.length) (bkR b m i)) ∧ Hid (LastM wr (r + 1) i (lst b m i)) ∧ Hid (Keep [] w wr)) (fun iv _ => b.length - (intOf iv).toNat)
  case atStart => exact ⟨0, Nat.zero_le _, rfl, HO0, HL0, HK0⟩
  case round =>
    obtain ⟨i, hi, rfl, HO, HL, HK⟩ := hrel
    clear HO0 HL0 HK0
    by_cases hlt : i + m ≤ b.length
    case neg =>
      have HR : Hid (OwnG el32 wr (.slice (some ⟨r, 0, none⟩) b.length b.length) ((List.range b.length).map (bck b m))) := by
        have := HO.out; rw [bkR_all (by omega) (by omega)] at this; exact this
      have d1 : ¬ (i : Int) + m ≤ (b.length : Int) := by omega
      clear hlt
      go_wp2_with fail
      go_ret
      exact ⟨_, rfl, HR.out, HK.out, fun x hx => by have := HQ.out; simp [Value.ownBlock] at hx; omega⟩
    have d1 : (i : Int) + m ≤ (b.length : Int) := by omega
    have hq := HL.out.lt
    obtain ⟨w1, hw1⟩ : ∃ w1, w1 = wr.alloc (.cells #[.int .u8 0, .int .u8 0, .int .u8 0] 160) := ⟨_, rfl⟩
    have HB1 : Hid (Bs w1 (Value.slice a b.length cap) b) := by subst hw1; exact HB.out.keep (HK.out.alloc _) (by simp)
    obtain ⟨vc, hcut, hbc, hown⟩ := HB1.out.cut i (i + m) (i : Int) ((i : Int) + m) rfl (by omega) (by omega) hlt
    have hsl := HSL.out wr.heap.size
    have HBC := Lib.hid hbc
    rw [Nat.add_sub_cancel_left] at HBC
    clear hbc hown hq
    go_wp2_with fail
    have HB0 : Hid (Blk w1 wr.heap.size #[.int .u8 0, .int .u8 0, .int .u8 0] 160) := by rw [hw1]; exact Blk.new _ _ _
    have HK1 : Hid (Keep [] wr w1) := by rw [hw1]; exact (Keep.refl _ _).alloc _
    rw [← hw1]
    clear hw1
    obtain ⟨q, hq⟩ : ∃ q, wr.heap.size = q := ⟨_, rfl⟩
    have HQ2 := Lib.hid hq
    rw [hq] at hsl HB0 ⊢
    clear hq
    have hwr : IntKind.i64.wrap ((i : Int) + m) = (i : Int) + m := by rw [IntKind.wrap_i64]; omega
    go_still_tail 7, (by kernel_rfl)
    change wpList _ _ _ _ _ w1.drew
    have HB2 : Hid (Blk w1.drew q #[.int .u8 0, .int .u8 0, .int .u8 0] 160) := HB0
    have HC2 : Hid (Bs w1.drew vc (List.take m (List.drop i b))) := HBC.out.keep ((Keep.refl [] w1).drew) (by simp)
    have HK2 : Hid (Keep [] wr w1.drew) := HK1.out.drew
    clear hwr hcut hsl HB0 HBC HK1 HB1
    generalize w1.drew = w2 at HB2 HC2 HK2 ⊢
    have hml : (List.take m (List.drop i b)).length = m := by simp; omega
    have hml' : (List.take m (List.drop i b)).length ≤ 3 := by omega
    refine wpList_copy3 _ _ rfl rfl q HB2.out rfl _ _ rfl HC2.out hml' ?_
    intro w3 hb3 hk3
    rw [hml] at hb3 ⊢
    have hb3' : Blk w3 q (ints8 (keyAt b m i)).toArray 160 := hb3
    have hqr : q ≠ r ∧ q ≠ r + 1 ∧ r < q := by have := HL.out.lt; have := HQ2.out; omega
    have HK3 : Hid (Keep [] wr w3) := HK2.out.trans hk3 (by simp [HQ2.out])
    have HKW : Hid (Keep [] w w3) := HK.out.trans HK3.out (by simp)
    have HO3 : Hid (OwnG el32 w3 (.slice (some ⟨r, 0, none⟩) b.length b.length) (bkR b m i)) := HO.out.keep HK3.out (by simp)
    have HL3 : Hid (LastM w3 (r + 1) i (lst b m i)) := HL.out.keep HK3.out (by simp)
    have hkl := keyAt_len hm3 hlt
    have hlk0 := HL3.out.look (keyAt b m i) hkl
    have HB3 := Lib.hid hb3'
    have HKL := Lib.hid hkl
    have HLP := Lib.hid (lst_prv (b := b) (m := m) (i := i) (by omega) hlt i (Nat.le_refl _))
    clear hb3 hb3' hk3 HK2 HB2 HC2 hml hml' hkl
    unfold key3 at hlk0
    rw [HLP.out] at hlk0
    obtain ⟨x0, x1, x2, hc⟩ : ∃ x0 x1 x2, (ints8 (keyAt b m i)).toArray = #[x0, x1, x2] := by
      have := HKL.out
      match keyAt b m i, this with
      | [x, y, z], _ => exact ⟨_, _, _, rfl⟩
    rw [hc] at hlk0 HB3
    have HC := Lib.hid hc
    clear hc
    have k0 := HB3.out.cell 0 _ rfl
    have k1 := HB3.out.cell 1 _ rfl
    have k2 := HB3.out.cell 2 _ rfl
    cases hp : prv b m i i with
    | none =>
      rw [hp] at hlk0
      simp only at hlk0
      have HS : Hid (bkR b m i = bkR b m (i + 1)) := bkR_same (bck_none hp)
      clear hp HLP
      go_wp2_with (at_mapUpdate; refine wpList_lastPut rfl _ _ _ rfl (r + 1) i _ HL3.out (by omega) (keyAt b m i) HKL.out i (by omega) rfl (by rw [HC.out]; rfl) rfl ?_; intro w4 hl4 hk4)
      have HL4 := Lib.hid hl4
      have HK4 := Lib.hid hk4
      clear hl4 hk4
      go_wp2_with fail
      go_roundw
      case rel => exact ⟨i + 1, by omega, by go_num, by rw [← HS.out]; exact HO3.out.keep HK4.out (by simp [Value.ownBlock]), HL4.out, HKW.out.trans HK4.out (by have := HQ.out; simp; omega)⟩
      case measure => simp [intOf]; omega
    | some p =>
      rw [hp] at hlk0
      simp only at hlk0
      have hpi := (prv_some (by omega) hp).1
      have hbk := bck_some hp
      have hcl := HO3.out.cell good32 i 0 (by rw [bkR_len]; omega) Nat.zero_lt_one
      have hfr := HO3.out.free i
      have HST := Lib.hid (HO3.out.store good32 i 0 (by rw [bkR_len]; omega) Nat.zero_lt_one (bck b m i) (.int .i32 ((i : Int) - p)) (by rw [hbk]; show [Value.int .i32 ((i - p : Nat) : Int)] = [Value.int .i32 ((i : Int) - p)]; rw [Int.ofNat_sub (by omega)]))
      rw [bkR_set (by omega)] at HST
      have hcl' : w3.cell? ⟨r, i, none⟩ = some (.int .i32 ((bkR b m i)[i]'(by rw [bkR_len]; omega) : Nat)) := by simpa [el32] using hcl
      have e0 : i * el32.sz + 0 = i := by simp [el32]
      rw [e0] at HST
      have HKS : Hid (Keep [] w (w3.setCell ⟨r, i, none⟩ (.int .i32 ((i : Int) - p)))) := HKW.out.setCell (.inr (by have := HQ.out; simp; omega)) _
      have HLS : Hid (LastM (w3.setCell ⟨r, i, none⟩ (.int .i32 ((i : Int) - p))) (r + 1) i (lst b m i)) := HL3.out.keep (S := [r]) ((Keep.refl _ _).setCell (.inl (by simp)) _) (by simp)
      have HBS : Hid (Blk (w3.setCell ⟨r, i, none⟩ (.int .i32 ((i : Int) - p))) q #[x0, x1, x2] 160) := HB3.out.other (by simp; omega) _
      generalize ((bkR b m i)[i]'(by rw [bkR_len]; omega)) = old at hcl'
      clear hp HLP hcl hbk e0
      have d3 : i < b.length := by omega
      go_wp2_with (at_mapUpdate; refine wpList_lastPut rfl _ _ _ rfl (r + 1) i _ HLS.out (by omega) (keyAt b m i) HKL.out i (by omega) rfl (by rw [HC.out]; rfl) rfl ?_; intro w4 hl4 hk4)
      have HL4 := Lib.hid hl4
      have HK4 := Lib.hid hk4
      clear hl4 hk4
      go_wp2_with fail
      go_roundw
      case rel => exact ⟨i + 1, by omega, by go_num, HST.out.keep HK4.out (by simp [Value.ownBlock]), HL4.out, HKS.out.trans HK4.out (by have := HQ.out; simp; omega)⟩
      case measure => simp [intOf]; omega
end Go.Proofs.YthmojejiaeninaaGreat
