/- Texts put together: RefDyn6 RefInf1 RefInf2 RefInf3 DynMath5 RefInf4 RefInf5 RefInf6 -/
import Derived.Test.YtokfcgloogdeiaaDoorPart11
import Derived.Test.YtokfcgloogdeiaaDoorPart1
import Derived.Test.YtokfcgloogdeiaaDoorPart3
import Derived.Test.YtokfcgloogdeiaaDoorPart16
import Derived.Test.YtokfcgloogdeiaaDoorPart4
import Derived.Deep.LoopGhost
namespace Go.Proofs.YtokfcgloogdeiaaDoor
set_option linter.unusedVariables false
set_option linter.unusedSimpArgs false
set_option maxRecDepth 100000
open Go.ChangeShapes Go.WideShapes Go.ChangeAt Go.RowKit

/-- a slice of numbers that isn't empty -/
def Ob.is (v : Value) (l : List Int) : Ob where
  P w bs := bs = v.ownBlock.toList ∧ Is .i64 w v l ∧ l ≠ []
  keep := fun ⟨h1, h2, h3⟩ k hb => ⟨h1, h2.keep k (fun b hb' => hb b (by rw [h1]; simp [hb'])), h3⟩
  lt := fun {w bs} ⟨h1, h2, h3⟩ b hb => by
    subst h1
    obtain ⟨bb, off, cp, hv, hc⟩ := h2.at 0 (List.length_pos_iff.2 h3)
    rw [hv] at hb
    simp [Value.ownBlock] at hb
    subst hb
    exact World.block_lt_of_cell? w _ hc
/-- a row of numbers of one's own -/
def Ob.rowI (v : Value) (l : List Int) : Ob where
  P w bs := bs = v.ownBlock.toList ∧ OwnI w v l
  keep := fun ⟨h1, h2⟩ k hb => ⟨h1, h2.keep k (fun b hb' => hb b (by rw [h1]; simp [hb']))⟩
  lt := fun {w bs} ⟨h1, h2⟩ b hb => by subst h1; exact h2.lt b (by simpa using hb)
theorem St.is {W w : World} {Ps : List Ob} (h : St W w Ps) (i : Nat) {v : Value} {l : List Int} (hi : Ps[i]? = some (Ob.is v l)) : Is .i64 w v l := by
  obtain ⟨bs, ⟨_, h1, _⟩, _⟩ := h.get i hi; exact h1
theorem St.rowI {W w : World} {Ps : List Ob} (h : St W w Ps) (i : Nat) {v : Value} {l : List Int} (hi : Ps[i]? = some (Ob.rowI v l)) : OwnI w v l := by
  obtain ⟨bs, ⟨_, h1⟩, _⟩ := h.get i hi; exact h1
theorem St.setRowI {W w : World} {Ps : List Ob} (h : St W w Ps) (i : Nat) {g n cap : Nat} {l : List Int} (hi : Ps[i]? = some (Ob.rowI (.slice (some ⟨g, 0, none⟩) n cap) l)) (j : Nat) (x : Int) (hx : (Lit.int .i64 x).wf = true) : St W (w.setCell ⟨g, j, none⟩ (.int .i64 x)) (Ps.set i (Ob.rowI (.slice (some ⟨g, 0, none⟩) n cap) (l.set j x))) := by
  obtain ⟨bs, ⟨rfl, h1⟩, h2, h3⟩ := h.focus i hi
  exact h3 _ _ [g] ⟨rfl, h1.store j x hx⟩ ((Keep.refl _ w).setCell (.inl (by simp [Value.ownBlock])) _) (fun b hb => .inl (by simpa [Value.ownBlock] using hb))
theorem hd3_succ (T : List Int) (n : Nat) : hd3 T (n + 1) = hd3 T n ++ bitsOf (T.getD (ordD.getD n 0) 0).toNat 3 := by
  unfold hd3; rw [List.range_succ, List.flatMap_append]; simp
theorem set3_skip (T : List Int) (k y : Nat) (hy : y < 19) (hk : ordD.getD k 0 = y) (h0 : T.getD y 0 = 0) : set3 T (k + 1) = set3 T k := by
  rw [set3, hk, h0]
  apply List.ext_getElem?
  intro j
  by_cases e : y = j
  · subst e
    rw [List.getElem?_set_self (by rw [set3_len]; exact hy)]
    have := set3_at T k y hy
    rw [h0] at this
    have h2 : (set3 T k).getD y 0 = 0 := by rw [this]; split <;> rfl
    rw [List.getD_eq_getElem?_getD, List.getElem?_eq_getElem (by rw [set3_len]; exact hy)] at h2
    rw [List.getElem?_eq_getElem (by rw [set3_len]; exact hy)]
    exact congrArg some h2.symm
  · rw [List.getElem?_set_ne e]
theorem plT_at (y : Nat) (h : y < 19) : plT.getD y 0 = if y < 16 then 4 else 0 := by
  have : ∀ y : Fin 19, plT.getD y.val 0 = if y.val < 16 then 4 else 0 := by decide
  exact this ⟨y, h⟩
theorem plT_werr : werr plT = 0 := by decide +kernel
/-- words of a canonical code -/
def Ob.cds4 (v : Value) (L : List Nat) : Ob where
  P w bs := bs = v.ownBlock.toList ∧ Cds w v L ∧ L ≠ []
  keep := fun ⟨h1, h2, h3⟩ k hb => ⟨h1, h2.keep k (fun b hb' => hb b (by rw [h1]; simp [hb'])), h3⟩
  lt := fun {w bs} ⟨h1, h2, h3⟩ b hb => by
    subst h1
    obtain ⟨bb, off, cp, hv, hc, _⟩ := h2.at 0 (List.length_pos_iff.2 h3)
    rw [hv] at hb
    simp [Value.ownBlock] at hb
    subst hb
    exact World.block_lt_of_cell? w _ hc
theorem St.cds4 {W w : World} {Ps : List Ob} (h : St W w Ps) (i : Nat) {v : Value} {L : List Nat} (hi : Ps[i]? = some (Ob.cds4 v L)) : Cds w v L := by
  obtain ⟨bs, ⟨_, h1, _⟩, _⟩ := h.get i hi; exact h1
/-- a length's plain word -/
def pl17 (z : Int) : List Bool := bitsOf (code (Ln plT) z.toNat) 4
theorem pl17_len (l : List Int) : (l.flatMap pl17).length = 4 * l.length := by
  induction l with
  | nil => rfl
  | cons z l ih => rw [List.flatMap_cons, List.length_append, ih, pl17, bitsOf_length, List.length_cons]; omega
theorem pl17_take (l : List Int) (k : Nat) (h : k < l.length) : (l.take (k + 1)).flatMap pl17 = (l.take k).flatMap pl17 ++ pl17 l[k] := by
  rw [List.take_succ_eq_append_getElem h, List.flatMap_append]; simp
theorem wb17_plain (lit dist : List Int) (a1 : ∀ z ∈ lit, 0 ≤ z ∧ z ≤ 15) (a2 : ∀ z ∈ dist, 0 ≤ z ∧ z ≤ 15) :
    wb17 lit.length dist.length 19 plT (plTs lit ++ plTs dist) = ((((bitsOf (lit.length - 257) 5 ++ bitsOf (dist.length - 1) 5) ++ bitsOf 15 4) ++ hd3 plT 19) ++ lit.flatMap pl17) ++ dist.flatMap pl17 := by
  have e1 := plTs_bits lit a1
  have e2 := plTs_bits dist a2
  unfold wb17
  rw [List.flatMap_append, e1, e2, ← List.append_assoc]
  rfl
/-- any length's plain word -/
def plg (z : Int) : List Bool := pl17 (clz z)
theorem plg_len (l : List Int) : (l.flatMap plg).length = 4 * l.length := by
  have := pl17_len (l.map clz)
  rw [List.flatMap_map, List.length_map] at this; exact this
theorem plg_take (l : List Int) (k : Nat) (h : k < l.length) : (l.take (k + 1)).flatMap plg = (l.take k).flatMap plg ++ plg l[k] := by
  rw [List.take_succ_eq_append_getElem h, List.flatMap_append]; simp
theorem wb17_plain_g (lit dist : List Int) :
    wb17 lit.length dist.length 19 plT (plTs (lit.map clz) ++ plTs (dist.map clz)) = ((((bitsOf (lit.length - 257) 5 ++ bitsOf (dist.length - 1) 5) ++ bitsOf 15 4) ++ hd3 plT 19) ++ lit.flatMap plg) ++ dist.flatMap plg := by
  have := wb17_plain (lit.map clz) (dist.map clz) (clz_in lit) (clz_in dist)
  rw [List.length_map, List.length_map, List.flatMap_map, List.flatMap_map] at this; exact this
end Go.Proofs.YtokfcgloogdeiaaDoor
namespace Go.Proofs.YtokfcgloogdeiaaDoor
set_option linter.unusedVariables false
set_option linter.unusedSimpArgs false
set_option maxRecDepth 100000
open Go.ChangeShapes Go.WideShapes Go.ChangeAt Go.RowKit

theorem rd17_l (s : RS) (large : Bool) : (rd17 s large).2.2.2.l = s.l := by
  obtain ⟨x1, s1, h1⟩ : ∃ x1 s1, s.bits 5 = (x1, s1) := ⟨_, _, rfl⟩
  obtain ⟨x2, s2, h2⟩ : ∃ x2 s2, s1.bits 5 = (x2, s2) := ⟨_, _, rfl⟩
  obtain ⟨x3, s3, h3⟩ : ∃ x3 s3, s2.bits 4 = (x3, s3) := ⟨_, _, rfl⟩
  obtain ⟨T, s4, h4⟩ : ∃ T s4, th17 s3 (x3 + 4) = (T, s4) := ⟨_, _, rfl⟩
  obtain ⟨al, er, s5, h5⟩ : ∃ al er s5, ls17 (Ln T) (x1 + 257 + (x2 + 1)) (x1 + 257 + (x2 + 1) + 1) [] s4 = (al, er, s5) := ⟨_, _, _, rfl⟩
  obtain ⟨k1, k2, k3⟩ := rd17_cases s large x1 s1 x2 s2 x3 s3 T s4 al er s5 h1 h2 h3 h4 h5
  have a1 : s1.l = s.l := by have := bits_l17 s 5; rw [h1] at this; exact this
  have a2 : s2.l = s.l := by have := bits_l17 s1 5; rw [h2] at this; exact this.trans a1
  have a3 : s3.l = s.l := by have := bits_l17 s2 4; rw [h3] at this; exact this.trans a2
  have a4 : s4.l = s.l := by have := th17_l s3 (x3 + 4); rw [h4] at this; exact this.trans a3
  have l5 : ∀ (LL : List Nat) (N F : Nat) (all : List Int) (r : RS), (ls17 LL N F all r).2.2.l = r.l := by
    intro LL N F
    induction F with
    | zero => intro all r; rfl
    | succ F ih =>
      intro all r
      have ho : (often17 (r.next LL).1 (r.next LL).2.2).2.l = r.l := by
        rw [show (often17 (r.next LL).1 (r.next LL).2.2).2.l = (r.next LL).2.2.l by
          unfold often17
          repeat' split
          all_goals first | exact bits_l17 _ _ | rfl]
        exact next_l17 r LL
      rw [ls17]
      split
      · rfl
      · split
        · exact next_l17 r LL
        · split
          · exact ho
          · split
            · exact ho
            · split
              · exact ho
              · rw [ih]; exact ho
  have a5 : s5.l = s.l := by have := l5 (Ln T) (x1 + 257 + (x2 + 1)) (x1 + 257 + (x2 + 1) + 1) [] s4; rw [h5] at this; exact this.trans a4
  by_cases e1 : s3.E = 0
  rotate_left
  · rw [k1 e1]; exact a3
  by_cases e2 : 286 < x1 + 257 ∨ (30 < x2 + 1 ∧ large = false)
  · rw [k2 e1 e2]; exact a3
  obtain ⟨k4, k5⟩ := k3 e1 e2
  by_cases e3 : s4.E = 0
  rotate_left
  · rw [k4 e3]; exact a4
  obtain ⟨k6, k7⟩ := k5 e3
  by_cases e4 : chk T = 1
  rotate_left
  · rw [k6 e4]; exact a4
  obtain ⟨k8, k9⟩ := k7 e4
  by_cases e5 : er = 0
  rotate_left
  · rw [k8 e5]; exact a5
  rw [k9 e5]
  split
  · exact a5
  · exact a5
/-- the fixed codes, symbol by symbol -/
def fv18 (k : Nat) : Int := if 256 ≤ k ∧ k < 280 then 7 else if 144 ≤ k ∧ k < 256 then 9 else 8
theorem fixL_map : fixL = (List.range 288).map fv18 := by decide +kernel
theorem fixL_len : fixL.length = 288 := by decide +kernel
theorem fixL_step (k : Nat) (h : k < 288) : fixL.take (k + 1) = fixL.take k ++ [fv18 k] := by
  rw [List.take_succ_eq_append_getElem (by rw [fixL_len]; exact h)]
  congr 2
  have : fixL[k]'(by rw [fixL_len]; exact h) = ((List.range 288).map fv18)[k]'(by simp; exact h) := by simp only [fixL_map]
  rw [this]; simp
theorem fixD_step (k : Nat) (h : k < 32) : fixD.take (k + 1) = fixD.take k ++ [5] := by
  have hl : fixD.length = 32 := by decide
  rw [List.take_succ_eq_append_getElem (by rw [hl]; exact h)]
  congr 2
  unfold fixD; rw [List.getElem_replicate]
set_option maxHeartbeats 4000000 in
theorem rfixed18_c (w : World) : Calls Tryd.prog 10 #[] w fun e w' => ∃ v1 v2, e = .returned (.tuple #[v1, v2]) ∧ OwnI w' v1 fixL ∧ OwnI w' v2 fixD ∧ Keep [] w w' ∧ (∀ b, v1.ownBlock = some b → w.heap.size ≤ b) ∧ (∀ b, v2.ownBlock = some b → w.heap.size ≤ b) := by
  go_enter Tryd.func10, Tryd.ntmps10
  go_wp2_with fail
  go_loopw [2, 4] (fun av iv wr => ∃ (k : Nat) (a5 : Option Addr) (c5 : Nat), k ≤ 288 ∧ av = .slice a5 k c5 ∧ iv = .int .i64 k ∧ Hid (OwnI wr (.slice a5 k c5) (fixL.take k)) ∧ Hid (Keep [] w wr) ∧ Hid (∀ b, (Value.slice a5 k c5).ownBlock = some b → w.heap.size ≤ b)) (fun _ iv _ => 288 - (intOf iv).toNat)
  case atStart => exact ⟨0, none, 0, Nat.zero_le _, rfl, rfl, OwnI.nil _, Keep.refl _ _, by simp [Value.ownBlock, Hid]⟩
  case round =>
    obtain ⟨k, a5, c5, hk, rfl, rfl, HO, HK, HB⟩ := hrel
    by_cases hlt : k < 288
    · have htk := fixL_step k hlt
      have hml : (fixL.take k).length = k := by rw [List.length_take, fixL_len]; omega
      have HTK := Lib.hid htk
      have HML := Lib.hid hml
      have hwk : IntKind.i64.wrap ((k : Int) + 1) = ((k + 1 : Nat) : Int) := by rw [IntKind.wrap_i64]; omega
      have hO3 := Lib.hid (fun o => HO.out.keep ((Keep.refl [] wr).alloc o) (by simp))
      have hK3 := Lib.hid (fun o => HK.out.trans ((Keep.refl [] wr).alloc o) (by simp))
      clear htk hml HO
      generalize fixL.take k = M at hO3 HTK HML
      by_cases g1 : k < 144
      · have hz : fv18 k = 8 := by unfold fv18; split <;> first | rfl | (split <;> first | rfl | omega) | omega
        rw [hz] at HTK
        have q1 : decide (144 ≤ (k : Int)) = false := decide_eq_false (by omega)
        have q2 : decide ((k : Int) < 256) = true := decide_eq_true (by omega)
        have q3 : decide (256 ≤ (k : Int)) = false := decide_eq_false (by omega)
        have q4 : decide ((k : Int) < 280) = true := decide_eq_true (by omega)
        have q5 : decide (144 ≤ k) = false := decide_eq_false (by omega)
        have q6 : decide (k < 256) = true := decide_eq_true (by omega)
        have q7 : decide (256 ≤ k) = false := decide_eq_false (by omega)
        have q8 : decide (k < 280) = true := decide_eq_true (by omega)
        clear hz
        have HII := Lib.hid (fun wx => Is.one17 wx 8 (by decide))
        go_wp2_with (at_builtin; (refine wpList_appendI (.tmp 23) (.tmp 25) rfl rfl (.slice a5 k c5) M rfl (hO3.out _) _ [8] rfl (HII.out _) (by have := HML.out; simp; omega) ?_); (intro v4 w4 ho4 hk4 hb4 hz4))
        obtain ⟨a6, c6, rfl, hl5⟩ := ho4.is.sh
        have e5 : (M ++ [(8 : Int)]).length = k + 1 := by simp; exact HML.out
        rw [e5] at hb4 ho4 ⊢
        have HO4 : Hid (OwnI w4 (.slice a6 (k + 1) c6) (fixL.take (k + 1))) := by rw [HTK.out]; exact ho4
        have HK4 : Hid (Keep [] w w4) := (hK3.out _).trans hk4 (fun b hb => .inr (HB.out b (by simpa using hb)))
        have HB4 : Hid (∀ b, (Value.slice a6 (k + 1) c6).ownBlock = some b → w.heap.size ≤ b) := fun b hb => by
          rcases hb4 b hb with h | h
          · exact HB.out b h
          · rw [h]; exact (hK3.out _).size
        clear hb4 ho4 hk4 hz4 hO3 hK3 HII HB HK
        refine ⟨⟨k + 1, a6, c6, by omega, rfl, by simp, HO4, HK4, HB4⟩, by simp [intOf]; omega⟩
      by_cases g2 : k < 256
      · have hz : fv18 k = 9 := by unfold fv18; split <;> first | rfl | (split <;> first | rfl | omega) | omega
        rw [hz] at HTK
        have q1 : decide (144 ≤ (k : Int)) = true := decide_eq_true (by omega)
        have q2 : decide ((k : Int) < 256) = true := decide_eq_true (by omega)
        have q3 : decide (256 ≤ (k : Int)) = false := decide_eq_false (by omega)
        have q4 : decide ((k : Int) < 280) = true := decide_eq_true (by omega)
        have q5 : decide (144 ≤ k) = true := decide_eq_true (by omega)
        have q6 : decide (k < 256) = true := decide_eq_true (by omega)
        have q7 : decide (256 ≤ k) = false := decide_eq_false (by omega)
        have q8 : decide (k < 280) = true := decide_eq_true (by omega)
        clear hz
        have HII := Lib.hid (fun wx => Is.one17 wx 9 (by decide))
        go_wp2_with (at_builtin; (refine wpList_appendI (.tmp 23) (.tmp 25) rfl rfl (.slice a5 k c5) M rfl (hO3.out _) _ [9] rfl (HII.out _) (by have := HML.out; simp; omega) ?_); (intro v4 w4 ho4 hk4 hb4 hz4))
        obtain ⟨a6, c6, rfl, hl5⟩ := ho4.is.sh
        have e5 : (M ++ [(9 : Int)]).length = k + 1 := by simp; exact HML.out
        rw [e5] at hb4 ho4 ⊢
        have HO4 : Hid (OwnI w4 (.slice a6 (k + 1) c6) (fixL.take (k + 1))) := by rw [HTK.out]; exact ho4
        have HK4 : Hid (Keep [] w w4) := (hK3.out _).trans hk4 (fun b hb => .inr (HB.out b (by simpa using hb)))
        have HB4 : Hid (∀ b, (Value.slice a6 (k + 1) c6).ownBlock = some b → w.heap.size ≤ b) := fun b hb => by
          rcases hb4 b hb with h | h
          · exact HB.out b h
          · rw [h]; exact (hK3.out _).size
        clear hb4 ho4 hk4 hz4 hO3 hK3 HII HB HK
        refine ⟨⟨k + 1, a6, c6, by omega, rfl, by simp, HO4, HK4, HB4⟩, by simp [intOf]; omega⟩
      by_cases g3 : k < 280
      · have hz : fv18 k = 7 := by unfold fv18; split <;> first | rfl | (split <;> first | rfl | omega) | omega
        rw [hz] at HTK
        have q1 : decide (144 ≤ (k : Int)) = true := decide_eq_true (by omega)
        have q2 : decide ((k : Int) < 256) = false := decide_eq_false (by omega)
        have q3 : decide (256 ≤ (k : Int)) = true := decide_eq_true (by omega)
        have q4 : decide ((k : Int) < 280) = true := decide_eq_true (by omega)
        have q5 : decide (144 ≤ k) = true := decide_eq_true (by omega)
        have q6 : decide (k < 256) = false := decide_eq_false (by omega)
        have q7 : decide (256 ≤ k) = true := decide_eq_true (by omega)
        have q8 : decide (k < 280) = true := decide_eq_true (by omega)
        clear hz
        have HII := Lib.hid (fun wx => Is.one17 wx 7 (by decide))
        go_wp2_with (at_builtin; (refine wpList_appendI (.tmp 23) (.tmp 25) rfl rfl (.slice a5 k c5) M rfl (hO3.out _) _ [7] rfl (HII.out _) (by have := HML.out; simp; omega) ?_); (intro v4 w4 ho4 hk4 hb4 hz4))
        obtain ⟨a6, c6, rfl, hl5⟩ := ho4.is.sh
        have e5 : (M ++ [(7 : Int)]).length = k + 1 := by simp; exact HML.out
        rw [e5] at hb4 ho4 ⊢
        have HO4 : Hid (OwnI w4 (.slice a6 (k + 1) c6) (fixL.take (k + 1))) := by rw [HTK.out]; exact ho4
        have HK4 : Hid (Keep [] w w4) := (hK3.out _).trans hk4 (fun b hb => .inr (HB.out b (by simpa using hb)))
        have HB4 : Hid (∀ b, (Value.slice a6 (k + 1) c6).ownBlock = some b → w.heap.size ≤ b) := fun b hb => by
          rcases hb4 b hb with h | h
          · exact HB.out b h
          · rw [h]; exact (hK3.out _).size
        clear hb4 ho4 hk4 hz4 hO3 hK3 HII HB HK
        refine ⟨⟨k + 1, a6, c6, by omega, rfl, by simp, HO4, HK4, HB4⟩, by simp [intOf]; omega⟩
      · have hz : fv18 k = 8 := by unfold fv18; split <;> first | rfl | (split <;> first | rfl | omega) | omega
        rw [hz] at HTK
        have q1 : decide (144 ≤ (k : Int)) = true := decide_eq_true (by omega)
        have q2 : decide ((k : Int) < 256) = false := decide_eq_false (by omega)
        have q3 : decide (256 ≤ (k : Int)) = true := decide_eq_true (by omega)
        have q4 : decide ((k : Int) < 280) = false := decide_eq_false (by omega)
        have q5 : decide (144 ≤ k) = true := decide_eq_true (by omega)
        have q6 : decide (k < 256) = false := decide_eq_false (by omega)
        have q7 : decide (256 ≤ k) = true := decide_eq_true (by omega)
        have q8 : decide (k < 280) = false := decide_eq_false (by omega)
        clear hz
        have HII := Lib.hid (fun wx => Is.one17 wx 8 (by decide))
        go_wp2_with (at_builtin; (refine wpList_appendI (.tmp 23) (.tmp 25) rfl rfl (.slice a5 k c5) M rfl (hO3.out _) _ [8] rfl (HII.out _) (by have := HML.out; simp; omega) ?_); (intro v4 w4 ho4 hk4 hb4 hz4))
        obtain ⟨a6, c6, rfl, hl5⟩ := ho4.is.sh
        have e5 : (M ++ [(8 : Int)]).length = k + 1 := by simp; exact HML.out
        rw [e5] at hb4 ho4 ⊢
        have HO4 : Hid (OwnI w4 (.slice a6 (k + 1) c6) (fixL.take (k + 1))) := by rw [HTK.out]; exact ho4
        have HK4 : Hid (Keep [] w w4) := (hK3.out _).trans hk4 (fun b hb => .inr (HB.out b (by simpa using hb)))
        have HB4 : Hid (∀ b, (Value.slice a6 (k + 1) c6).ownBlock = some b → w.heap.size ≤ b) := fun b hb => by
          rcases hb4 b hb with h | h
          · exact HB.out b h
          · rw [h]; exact (hK3.out _).size
        clear hb4 ho4 hk4 hz4 hO3 hK3 HII HB HK
        refine ⟨⟨k + 1, a6, c6, by omega, rfl, by simp, HO4, HK4, HB4⟩, by simp [intOf]; omega⟩
    · obtain rfl : k = 288 := by omega
      have hfin : fixL.take 288 = fixL := List.take_of_length_le (by rw [fixL_len]; exact Nat.le_refl _)
      rw [hfin] at HO
      have HOL := HO; have HKL := HK; have HBL := HB
      clear hfin hlt hk HO HK HB
      have e288 : ((288 : Nat) : Int) = 288 := rfl
      rw [e288]
      clear e288
      go_wp2_with fail
      generalize wr = wz at *
      go_loopw [3, 6] (fun av iv wr => ∃ (k : Nat) (a6 : Option Addr) (c6 : Nat), k ≤ 32 ∧ av = .slice a6 k c6 ∧ iv = .int .i64 k ∧ Hid (OwnI wr (.slice a6 k c6) (fixD.take k)) ∧ Hid (Keep [] wz wr) ∧ Hid (∀ b, (Value.slice a6 k c6).ownBlock = some b → wz.heap.size ≤ b)) (fun _ iv _ => 32 - (intOf iv).toNat)
      case atStart => exact ⟨0, none, 0, Nat.zero_le _, rfl, rfl, OwnI.nil _, Keep.refl _ _, by simp [Value.ownBlock, Hid]⟩
      case round =>
        obtain ⟨k, a7, c7, hk, rfl, rfl, HO, HK, HB⟩ := hrel
        by_cases hlt : k < 32
        · have htk := fixD_step k hlt
          have hml : (fixD.take k).length = k := by rw [List.length_take]; have : fixD.length = 32 := by decide
                                                    omega
          have HTK := Lib.hid htk
          have HML := Lib.hid hml
          have hwk : IntKind.i64.wrap ((k : Int) + 1) = ((k + 1 : Nat) : Int) := by rw [IntKind.wrap_i64]; omega
          have hO3 := Lib.hid (fun o => HO.out.keep ((Keep.refl [] wr).alloc o) (by simp))
          have hK3 := Lib.hid (fun o => HK.out.trans ((Keep.refl [] wr).alloc o) (by simp))
          clear htk hml HO HOL HKL HBL
          generalize fixD.take k = M at hO3 HTK HML
          have HII := Lib.hid (fun wx => Is.one17 wx 5 (by decide))
          go_wp2_with (at_builtin; (refine wpList_appendI (.tmp 31) (.tmp 32) rfl rfl (.slice a7 k c7) M rfl (hO3.out _) _ [5] rfl (HII.out _) (by have := HML.out; simp; omega) ?_); (intro v4 w4 ho4 hk4 hb4 hz4))
          obtain ⟨a6, c6, rfl, hl5⟩ := ho4.is.sh
          have e5 : (M ++ [(5 : Int)]).length = k + 1 := by simp; exact HML.out
          rw [e5] at hb4 ho4 ⊢
          have HO4 : Hid (OwnI w4 (.slice a6 (k + 1) c6) (fixD.take (k + 1))) := by rw [HTK.out]; exact ho4
          have HK4 : Hid (Keep [] wz w4) := (hK3.out _).trans hk4 (fun b hb => .inr (HB.out b (by simpa using hb)))
          have HB4 : Hid (∀ b, (Value.slice a6 (k + 1) c6).ownBlock = some b → wz.heap.size ≤ b) := fun b hb => by
            rcases hb4 b hb with h | h
            · exact HB.out b h
            · rw [h]; exact (hK3.out _).size
          clear hb4 ho4 hk4 hz4 hO3 hK3 HII HB HK
          refine ⟨⟨k + 1, a6, c6, by omega, rfl, by simp, HO4, HK4, HB4⟩, by simp [intOf]; omega⟩
        · obtain rfl : k = 32 := by omega
          have hfin : fixD.take 32 = fixD := rfl
          rw [hfin] at HO
          have hO1 : Hid (OwnI wr (.slice a5 288 c5) fixL) := HOL.out.keep HK.out (by simp)
          have hKK : Hid (Keep [] w wr) := HKL.out.trans HK.out (by simp)
          have hKZ := HKL.out.size
          clear hfin hlt hk
          go_wp2_with fail
          go_ret2
          exact ⟨_, _, rfl, hO1.out, HO.out, hKK.out, HBL.out, fun b hb => by have := HB.out b hb; omega⟩
end Go.Proofs.YtokfcgloogdeiaaDoor
namespace Go.Proofs.YtokfcgloogdeiaaDoor
set_option linter.unusedVariables false
set_option linter.unusedSimpArgs false
set_option maxRecDepth 100000
open Go.ChangeShapes Go.WideShapes Go.ChangeAt Go.RowKit

/-- a state's cells -/
def sCells (qr qo : Nat) (large : Bool) (n : Nat) : Array Value := #[.pointer (some ⟨qr, 0, none⟩), .pointer (some ⟨qo, 0, none⟩), .bool large, .int .i64 n]
end Go.Proofs.YtokfcgloogdeiaaDoor
namespace Go.Proofs.YtokfcgloogdeiaaDoor
set_option linter.unusedVariables false
set_option linter.unusedSimpArgs false
set_option maxRecDepth 100000
open Go.ChangeShapes Go.WideShapes Go.ChangeAt Go.RowKit

theorem lenOf_le (x : Int) (large : Bool) : (lenOf x large).1 ≤ 258 ∧ (lenOf x large).2.1 ≤ 16 := by
  unfold lenOf
  by_cases h1 : x < 257 ∨ 285 < x
  · rw [if_pos h1]; decide
  · rw [if_neg h1]
    by_cases h2 : x = 285
    · rw [if_pos h2]; cases large <;> decide
    · rw [if_neg h2]
      obtain ⟨m, rfl⟩ : ∃ m : Nat, x = m := ⟨x.toNat, by omega⟩
      have := lbs_le ⟨m - 257, by omega⟩
      dsimp only at this ⊢
      rw [show 257 + (m - 257) = m by omega] at this
      rw [Int.toNat_natCast]
      omega
theorem dstOf_le (x : Int) (large : Bool) : (dstOf x large).1 ≤ 49153 ∧ (dstOf x large).2.1 ≤ 14 := by
  unfold dstOf
  by_cases h1 : x < 0 ∨ 31 < x ∨ (29 < x ∧ large = false)
  · rw [if_pos h1]; decide
  · rw [if_neg h1]
    obtain ⟨m, rfl⟩ : ∃ m : Nat, x = m := ⟨x.toNat, by omega⟩
    have := dbs_le ⟨m, by omega⟩
    rw [Int.toNat_natCast]
    exact this
theorem copy18_cases (large : Bool) (LD : List Nat) (x : Int) (s : SI) (b1 e1 : Nat) (o1 : Bool) (x1 : Nat) (r1 : RS) (y : Int) (er : Nat) (r2 : RS) (b2 e2 : Nat) (o2 : Bool) (x2 : Nat) (r3 : RS)
    (h1 : lenOf x large = (b1, e1, o1)) (h2 : s.r.bits e1 = (x1, r1)) (h3 : r1.next LD = (y, er, r2)) (h4 : dstOf y large = (b2, e2, o2)) (h5 : r2.bits e2 = (x2, r3)) :
    (o1 = false → (copy18 large LD x s).1 = 7) ∧ (o1 = true → (r1.E ≠ 0 → (copy18 large LD x s).1 = r1.E) ∧ (r1.E = 0 → (er ≠ 0 → (copy18 large LD x s).1 = er) ∧ (er = 0 → (o2 = false → (copy18 large LD x s).1 = 7) ∧ (o2 = true → (r3.E ≠ 0 → (copy18 large LD x s).1 = r3.E) ∧
      (r3.E = 0 → copy18 large LD x s = ((s.o.copy (b2 + x2 : Nat) (b1 + x1 : Nat)).1, ⟨r3, (s.o.copy (b2 + x2 : Nat) (b1 + x1 : Nat)).2, s.n⟩)))))) := by
  have hl : lenX large x s.r = if o1 = false then (7, 0, s.r) else if r1.E ≠ 0 then (r1.E, 0, s.r) else (0, b1 + x1, r1) := by
    unfold lenX; rw [h1]; dsimp only; rw [h2]
  have hd : dstX large LD r1 = if er ≠ 0 then (er, 0, r1) else if o2 = false then (7, 0, r1) else if r3.E ≠ 0 then (r3.E, 0, r1) else (0, b2 + x2, r3) := by
    unfold dstX; rw [h3]; dsimp only; rw [h4]; dsimp only; rw [h5]
  have key : copy18 large LD x s = if (lenX large x s.r).1 ≠ 0 then ((lenX large x s.r).1, s)
      else if (dstX large LD (lenX large x s.r).2.2).1 ≠ 0 then ((dstX large LD (lenX large x s.r).2.2).1, s)
      else ((s.o.copy (dstX large LD (lenX large x s.r).2.2).2.1 (lenX large x s.r).2.1).1, ⟨(dstX large LD (lenX large x s.r).2.2).2.2, (s.o.copy (dstX large LD (lenX large x s.r).2.2).2.1 (lenX large x s.r).2.1).2, s.n⟩) := rfl
  refine ⟨fun a => ?_, fun a => ⟨fun b => ?_, fun b => ?_⟩⟩
  · rw [if_pos a] at hl; rw [key, hl, if_pos (by simp)]
  · rw [if_neg (by simp [a]), if_pos b] at hl; rw [key, hl, if_pos b]
  · rw [if_neg (by simp [a]), if_neg (by simpa using b)] at hl
    rw [hl] at key
    dsimp only at key
    rw [if_neg (by simp)] at key
    refine ⟨fun c => ?_, fun c => ⟨fun d => ?_, fun d => ⟨fun e => ?_, fun e => ?_⟩⟩⟩
    · rw [if_pos c] at hd; rw [key, hd, if_pos c]
    · rw [if_neg (by simpa using c), if_pos d] at hd; rw [key, hd, if_pos (by simp)]
    · rw [if_neg (by simpa using c), if_neg (by simp [d]), if_pos e] at hd; rw [key, hd, if_pos e]
    · rw [if_neg (by simpa using c), if_neg (by simp [d]), if_neg (by simpa using e)] at hd; rw [key, hd, if_neg (by simp)]
end Go.Proofs.YtokfcgloogdeiaaDoor
namespace Go.Proofs.YtokfcgloogdeiaaDoor
set_option linter.unusedVariables false
set_option linter.unusedSimpArgs false

/-- how many lengths at the beginning are alike -/
def likeN (x : Int) : List Int → Nat
  | [] => 0
  | y :: l => if y = x then likeN x l + 1 else 0
theorem likeN_le (x : Int) (l : List Int) : likeN x l ≤ l.length := by
  induction l with
  | nil => simp [likeN]
  | cons y l ih => rw [likeN]; split
                   · simp; omega
                   · simp
theorem likeN_take (x : Int) (l : List Int) (n : Nat) (h : n ≤ likeN x l) : l.take n = List.replicate n x := by
  induction l generalizing n with
  | nil => rw [likeN] at h; obtain rfl : n = 0 := by omega
           simp
  | cons y l ih =>
    cases n with
    | zero => simp
    | succ n =>
      rw [likeN] at h
      by_cases e : y = x
      · rw [if_pos e] at h
        rw [List.take_succ_cons, List.replicate_succ, ih n (by omega), e]
      · rw [if_neg e] at h; omega
theorem likeN_at (x : Int) (l : List Int) (j : Nat) (h : ∀ i, i < j → l[i]? = some x) (he : l[j]? ≠ some x) : likeN x l = j := by
  induction l generalizing j with
  | nil =>
    cases j with
    | zero => rfl
    | succ j => have := h 0 (by omega); simp at this
  | cons y l ih =>
    rw [likeN]
    cases j with
    | zero => rw [if_neg (by intro e; exact he (by simp [e]))]
    | succ j =>
      have h0 := h 0 (by omega)
      simp at h0
      rw [if_pos h0, ih j (fun i hi => by simpa using h (i + 1) (by omega)) (by simpa using he)]
/-- the symbol for what lengths begin with, and for how many it stands -/
def beg17 (l : List Int) (last : Int) : Lt × Nat :=
  if l.getD 0 0 = 0 ∧ 11 ≤ likeN (l.getD 0 0) l then (⟨18, min (likeN (l.getD 0 0) l) 138 - 11⟩, min (likeN (l.getD 0 0) l) 138)
  else if l.getD 0 0 = 0 ∧ 3 ≤ likeN (l.getD 0 0) l then (⟨17, min (likeN (l.getD 0 0) l) 10 - 3⟩, min (likeN (l.getD 0 0) l) 10)
  else if l.getD 0 0 = last ∧ 3 ≤ likeN (l.getD 0 0) l then (⟨16, min (likeN (l.getD 0 0) l) 6 - 3⟩, min (likeN (l.getD 0 0) l) 6)
  else (⟨(l.getD 0 0).toNat, 0⟩, 1)
def few17 : Nat → List Int → Int → List Lt
  | 0, _, _ => []
  | F + 1, l, last => if l = [] then [] else (beg17 l last).1 :: few17 F (l.drop (beg17 l last).2) (l.getD 0 0)
theorem beg_ok (l : List Int) (last : Int) (h0 : l ≠ []) (hl : ∀ z ∈ l, 0 ≤ z ∧ z ≤ 15) : (beg17 l last).1.sym < 19 ∧ (beg17 l last).1.x < 2 ^ ltBits (beg17 l last).1.sym ∧ 1 ≤ (beg17 l last).2 ∧ (beg17 l last).2 ≤ l.length ∧ (beg17 l last).1.often = (beg17 l last).2 ∧
    l.take (beg17 l last).2 = List.replicate (beg17 l last).2 (l.getD 0 0) ∧ ((beg17 l last).1.sym = 16 → l.getD 0 0 = last) ∧ (∀ all : List Int, all.getLastD 0 = last ∨ (beg17 l last).1.sym ≠ 16 → what17 all ((beg17 l last).1.sym : Int) = l.getD 0 0) := by
  have hle := likeN_le (l.getD 0 0) l
  have htk := likeN_take (l.getD 0 0) l
  have hz : 0 ≤ l.getD 0 0 ∧ l.getD 0 0 ≤ 15 := by
    cases l with
    | nil => exact absurd rfl h0
    | cons y l => exact hl y (by simp)
  have h1 : 1 ≤ likeN (l.getD 0 0) l := by
    cases l with
    | nil => exact absurd rfl h0
    | cons y l => show 1 ≤ likeN y (y :: l); rw [likeN, if_pos rfl]; omega
  unfold beg17
  generalize l.getD 0 0 = x at *
  generalize likeN x l = k at *
  by_cases c1 : x = 0 ∧ 11 ≤ k
  · rw [if_pos c1]
    obtain ⟨rfl, c1⟩ := c1
    refine ⟨by dsimp only; omega, ?_, by dsimp only; omega, by dsimp only; omega, ?_, htk _ (by dsimp only; omega), fun h => by simp at h, fun all _ => rfl⟩
    · show min k 138 - 11 < 128; omega
    · show 11 + (min k 138 - 11) = min k 138; omega
  · rw [if_neg c1]
    by_cases c2 : x = 0 ∧ 3 ≤ k
    · rw [if_pos c2]
      obtain ⟨rfl, c2⟩ := c2
      refine ⟨by dsimp only; omega, ?_, by dsimp only; omega, by dsimp only; omega, ?_, htk _ (by dsimp only; omega), fun h => by simp at h, fun all _ => rfl⟩
      · show min k 10 - 3 < 8; omega
      · show 3 + (min k 10 - 3) = min k 10; omega
    · rw [if_neg c2]
      by_cases c3 : x = last ∧ 3 ≤ k
      · rw [if_pos c3]
        refine ⟨by dsimp only; omega, ?_, by dsimp only; omega, by dsimp only; omega, ?_, htk _ (by dsimp only; omega), fun _ => c3.1, fun all h => ?_⟩
        · show min k 6 - 3 < 4; omega
        · show 3 + (min k 6 - 3) = min k 6; omega
        · rcases h with h | h
          · show all.getLastD 0 = x; rw [h, c3.1]
          · exact absurd rfl h
      · rw [if_neg c3]
        refine ⟨by dsimp only; omega, by dsimp only; exact Nat.two_pow_pos _, Nat.le_refl _, by dsimp only; omega, ?_, htk 1 h1, fun h => ?_, fun all _ => ?_⟩
        · unfold Lt.often; dsimp only; rw [if_neg (by omega), if_neg (by omega), if_neg (by omega)]
        · dsimp only at h; omega
        · unfold what17; dsimp only; rw [if_neg (by omega), if_neg (by omega)]; omega
theorem getLastD_rep (all : List Int) (n : Nat) (x : Int) (h : 1 ≤ n) : (all ++ List.replicate n x).getLastD 0 = x := by
  obtain ⟨m, rfl⟩ : ∃ m, n = m + 1 := ⟨n - 1, by omega⟩
  rw [List.replicate_succ', ← List.append_assoc]
  simp
/-- what is told by the tokens is what they were made of -/
theorem few_exp (F : Nat) (l : List Int) (last : Int) (all : List Int) (hF : l.length ≤ F) (hl : ∀ z ∈ l, 0 ≤ z ∧ z ≤ 15) (h1 : all ≠ [] → all.getLastD 0 = last) (h0 : all = [] → last = -1) :
    exp17 all (few17 F l last) = all ++ l ∧ (∀ t ∈ few17 F l last, t.sym < 19 ∧ t.x < 2 ^ ltBits t.sym) ∧ (all = [] → ∀ t, (few17 F l last).head? = some t → t.sym ≠ 16) := by
  induction F generalizing l last all with
  | zero =>
    obtain rfl : l = [] := List.eq_nil_of_length_eq_zero (by omega)
    exact ⟨by simp [few17, exp17], by simp [few17], by simp [few17]⟩
  | succ F ih =>
    rw [few17]
    by_cases hn : l = []
    · subst hn
      rw [if_pos rfl]
      exact ⟨by simp [exp17], by simp, by simp⟩
    · rw [if_neg hn]
      obtain ⟨b1, b2, b3, b4, b5, b6, b7, b8⟩ := beg_ok l last hn hl
      have hx : 0 ≤ l.getD 0 0 := by
        cases l with
        | nil => exact absurd rfl hn
        | cons y l => exact (hl y (by simp)).1
      generalize (beg17 l last).1 = t at *
      generalize (beg17 l last).2 = n at *
      have hw : what17 all (t.sym : Int) = l.getD 0 0 := by
        refine b8 all ?_
        by_cases e : all = []
        · refine .inr (fun h => ?_)
          have e1 := b7 h
          have e2 := h0 e
          omega
        · exact .inl (h1 e)
      obtain ⟨i1, i2, i3⟩ := ih (l.drop n) (l.getD 0 0) (all ++ List.replicate n (l.getD 0 0)) (by rw [List.length_drop]; omega) (fun z hz => hl z (List.mem_of_mem_drop hz)) (fun _ => getLastD_rep _ _ _ b3)
        (fun e => by have := congrArg List.length e; simp at this; omega)
      refine ⟨?_, ?_, ?_⟩
      · rw [exp17, b5, hw, i1, List.append_assoc, ← b6, List.take_append_drop]
      · intro u hu
        rcases List.mem_cons.1 hu with rfl | hu
        · exact ⟨b1, b2⟩
        · exact i2 u hu
      · intro e u hu
        simp at hu
        subst hu
        intro h
        have e1 := b7 h
        have e2 := h0 e
        omega
/-- tokens that stand for no length alone tell noughts -/
theorem exp17_zero (all : List Int) (ts : List Lt) (h : ∀ t ∈ ts, 16 ≤ t.sym ∧ t.sym < 19) (ha : ∀ z ∈ all, z = 0) : ∀ z ∈ exp17 all ts, z = 0 := by
  induction ts generalizing all with
  | nil => exact ha
  | cons t ts ih =>
    rw [exp17]
    refine ih _ (fun u hu => h u (by simp [hu])) (fun z hz => ?_)
    rcases List.mem_append.1 hz with hz | hz
    · exact ha z hz
    · have hz := (List.mem_replicate.1 hz).2
      have ht := h t (by simp)
      rw [hz]
      unfold what17
      by_cases e : (t.sym : Int) = 16
      · rw [if_pos e]
        cases hl : all.getLast? with
        | none => rw [List.getLastD_eq_getLast?, hl]; rfl
        | some y => rw [List.getLastD_eq_getLast?, hl]; exact ha y (List.mem_of_getLast? hl)
      · rw [if_neg e, if_pos (by omega)]
/-- tokens of one symbol that is a length tell that alone -/
theorem exp17_same (all : List Int) (ts : List Lt) (s : Nat) (hs : s < 16) (h : ∀ t ∈ ts, t.sym = s) : exp17 all ts = all ++ List.replicate ts.length (s : Int) := by
  induction ts generalizing all with
  | nil => simp [exp17]
  | cons t ts ih =>
    have ht := h t (by simp)
    have ho : t.often = 1 := by unfold Lt.often; rw [if_neg (by omega), if_neg (by omega), if_neg (by omega)]
    have hw : what17 all (t.sym : Int) = s := by unfold what17; rw [if_neg (by omega), if_neg (by omega)]; omega
    rw [exp17, ho, hw, ih _ (fun u hu => h u (by simp [hu])), List.append_assoc, List.length_cons]
    congr 1
/-- how often a symbol comes -/
def cnt17 (ts : List Lt) : List Int := (List.range 19).map fun s => ((ts.countP fun t => t.sym == s : Nat) : Int)
theorem cnt17_len (ts : List Lt) : (cnt17 ts).length = 19 := by simp [cnt17]
theorem cnt17_at (ts : List Lt) (s : Nat) (h : s < 19) : (cnt17 ts).getD s 0 = ((ts.countP fun t => t.sym == s : Nat) : Int) := by
  rw [List.getD_eq_getElem?_getD, List.getElem?_eq_getElem (by rw [cnt17_len]; exact h)]; simp [cnt17]
theorem ct_two (p : Nat → Bool) (N i j : Nat) (hij : i < j) (hj : j < N) (pi : p i = true) (pj : p j = true) : 2 ≤ ct p N := by
  have h1 : ∀ a b, a ≤ b → ct p a ≤ ct p b := fun a b h => sm_mono _ a b h
  have h2 : ct p (i + 1) = ct p i + 1 := by rw [ct_succ, pi]; rfl
  have h3 : ct p (j + 1) = ct p j + 1 := by rw [ct_succ, pj]; rfl
  have := h1 (i + 1) j hij
  have := h1 (j + 1) N hj
  omega
/-- how many lengths of the third code stand there -/
def thN (T : List Int) : Nat → Nat
  | 0 => 0
  | n + 1 => if T.getD (ordD.getD n 0) 0 = 0 then thN T n else n + 1
theorem thN_le (T : List Int) (n : Nat) : thN T n ≤ n := by
  induction n with
  | zero => exact Nat.le_refl _
  | succ n ih => rw [thN]; split <;> omega
theorem thN_zero (T : List Int) (n i : Nat) (h1 : thN T n ≤ i) (h2 : i < n) : T.getD (ordD.getD i 0) 0 = 0 := by
  induction n with
  | zero => omega
  | succ n ih =>
    rw [thN] at h1
    by_cases h : T.getD (ordD.getD n 0) 0 = 0
    · rw [if_pos h] at h1
      by_cases e : i = n
      · rw [e]; exact h
      · exact ih h1 (by omega)
    · rw [if_neg h] at h1; omega
theorem thN_ge (T : List Int) (n i : Nat) (h : i < n) (h0 : T.getD (ordD.getD i 0) 0 ≠ 0) : i < thN T n := by
  rcases Nat.lt_or_ge i (thN T n) with g | g
  · exact g
  · exact absurd (thN_zero T n i g h) h0
theorem ordD_late : ∀ s : Fin 16, ∃ i : Fin 19, 3 ≤ i.val ∧ ordD.getD i.val 0 = s.val := by decide
/-- lists that are right have two symbols at least, one of which is a length above 0 -/
theorem few_two (l d : List Int) (ts : List Lt) (h : right17 l d true = true) (he : exp17 [] ts = l ++ d) (h19 : ∀ t ∈ ts, t.sym < 19) : (∃ t ∈ ts, t.sym < 16) ∧ ∃ t ∈ ts, ∃ u ∈ ts, t.sym < u.sym := by
  unfold right17 at h
  simp only [Bool.and_eq_true, decide_eq_true_eq] at h
  obtain ⟨⟨a1, a2, a3, a4⟩, a5, a6, a7⟩ := h
  have hm : l.getD 256 0 = l[256]'(by omega) := by rw [List.getD_eq_getElem?_getD, List.getElem?_eq_getElem (by omega)]; rfl
  rw [hm] at a5
  have hp : ∃ t ∈ ts, t.sym < 16 := by
    refine Classical.byContradiction fun hno => ?_
    have := exp17_zero [] ts (fun t ht => ⟨by
      refine Classical.byContradiction fun hlt => hno ⟨t, ht, by omega⟩, h19 t ht⟩) (by simp) (l[256]'(by omega)) (by rw [he]; exact List.mem_append_left _ (List.getElem_mem _))
    omega
  refine ⟨hp, Classical.byContradiction fun hno => ?_⟩
  obtain ⟨t, ht, hs⟩ := hp
  have hall : ∀ u ∈ ts, u.sym = t.sym := fun u hu => by
    refine Classical.byContradiction fun hne => ?_
    rcases Nat.lt_or_ge t.sym u.sym with g | g
    · exact hno ⟨t, ht, u, hu, g⟩
    · exact hno ⟨u, hu, t, ht, by omega⟩
  have hsame := exp17_same [] ts t.sym hs hall
  rw [he, List.nil_append] at hsame
  have hl : l = List.replicate l.length (t.sym : Int) := by
    rw [List.eq_replicate_iff]
    refine ⟨rfl, fun z hz => ?_⟩
    have : z ∈ l ++ d := List.mem_append_left _ hz
    rw [hsame] at this
    exact (List.mem_replicate.1 this).2
  have hs0 : 0 < t.sym := by
    have h1 : l[256]'(by omega) ∈ List.replicate l.length (t.sym : Int) := hl ▸ List.getElem_mem _
    have := (List.mem_replicate.1 h1).2
    omega
  clear a5 hm he hsame hall hno
  generalize t.sym = s at *
  generalize hn : l.length = n at *
  have hword : l.countP (fun z => decide (0 < z)) = n := by
    rw [hl, List.countP_replicate, if_pos (by simpa using hs0)]
  unfold whole17 at a6
  rw [Bool.and_eq_true] at a6
  obtain ⟨_, a6⟩ := a6
  rw [hword, if_neg (by omega), Bool.or_eq_true, Bool.and_eq_true, decide_eq_true_eq, decide_eq_true_eq] at a6
  rcases a6 with a6 | a6
  · omega
  · obtain ⟨_, hw⟩ := chk_one (by simpa using a6)
    have hLn : Ln l = List.replicate n s := by
      rw [hl]; unfold Ln; rw [List.map_replicate]; rfl
    have hwt : wt (Ln l) = n * 2 ^ (16 - s) := by
      rw [hLn]; unfold wt; rw [List.map_replicate, List.sum_replicate_nat]; unfold wt1; rw [if_neg (by omega)]
    rw [hwt] at hw
    have hs' : s ≤ 15 := by omega
    have : ∀ s : Fin 16, ∀ k : Fin 30, (257 + k.val) * 2 ^ (16 - s.val) ≠ 65536 := by decide +kernel
    exact this ⟨s, by omega⟩ ⟨n - 257, by omega⟩ (by rw [show 257 + (n - 257) = n by omega]; exact hw)
end Go.Proofs.YtokfcgloogdeiaaDoor
namespace Go.Proofs.YtokfcgloogdeiaaDoor
set_option linter.unusedVariables false
set_option linter.unusedSimpArgs false
set_option maxRecDepth 100000
open Go.ChangeShapes Go.WideShapes Go.ChangeAt Go.RowKit

end Go.Proofs.YtokfcgloogdeiaaDoor
namespace Go.Proofs.YtokfcgloogdeiaaDoor
set_option linter.unusedVariables false
set_option linter.unusedSimpArgs false
set_option maxRecDepth 100000
open Go.ChangeShapes Go.WideShapes Go.ChangeAt Go.RowKit

theorem codes18_len (large : Bool) (kind : Nat) (r : RS) (h : (codes18 large kind r).1 = 0) (hp : r.pos ≤ 8 * r.l.length) : Ln (codes18 large kind r).2.1 ≠ [] ∧ Ln (codes18 large kind r).2.2.1 ≠ [] := by
  have key : ∀ zs : List Int, 0 < zs.length → Ln zs ≠ [] := fun zs h e => by
    have := congrArg List.length e; rw [Ln_length] at this; simp at this; rw [this] at h; simp at h
  unfold codes18 at h ⊢
  by_cases hk : kind = 2
  · rw [if_pos hk] at h ⊢
    obtain ⟨_, b⟩ := rd17_fwd r large h hp
    obtain ⟨_, _, c, _, d, _⟩ := right_werr b
    exact ⟨key _ (by dsimp only; omega), key _ (by dsimp only; omega)⟩
  · rw [if_neg hk]
    exact ⟨key _ (by show 0 < fixL.length; rw [fixL_len]; decide), key _ (by show 0 < fixD.length; decide)⟩
theorem wt_of_werr {zs : List Int} (h : werr zs = 0) : wt (Ln zs) ≤ 65536 := (werr_ok h).2
end Go.Proofs.YtokfcgloogdeiaaDoor
namespace Go.Proofs.YtokfcgloogdeiaaDoor
set_option linter.unusedVariables false
set_option linter.unusedSimpArgs false
set_option maxRecDepth 100000
open Go.ChangeShapes Go.WideShapes Go.ChangeAt Go.RowKit

end Go.Proofs.YtokfcgloogdeiaaDoor
