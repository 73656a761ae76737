/- Texts put together: StLz Sh1 Sh2 Sh3 -/
import Derived.Test.YtkefidbokeifdaaPart3
import Derived.Test.YtkefidbokeifdaaPart9
import Derived.Test.YtkefidbokeifdaaPart12
import Derived.Test.YtkefidbokeifdaaPart6
import Derived.Test.YtkefidbokeifdaaPart1
import Derived.Deep.LoopGhost
namespace Go.Proofs.Ytkefidbokeifdaa
set_option linter.unusedVariables false
set_option linter.unusedSimpArgs false
open Go.ChangeShapes Go.WideShapes Go.ChangeAt Go.RowKit

def Ob.tab (q : Nat) (t : LT) : Ob where
  P w bs := LTab w q bs t
  keep := fun h k hb => h.keep k hb
  lt := fun h => h.lt.2
theorem St.tab {W w : World} {Ps : List Ob} (h : St W w Ps) (i : Nat) {q : Nat} {t : LT} (hi : Ps[i]? = some (Ob.tab q t)) : ∃ bs, LTab w q bs t := by
  obtain ⟨bs, h1, _⟩ := h.get i hi; exact ⟨bs, h1⟩
theorem st_lz_new {W w : World} {Ps : List Ob} (h : St W w Ps) : Calls Try.prog 33 #[] w fun e w' => ∃ q, e = .returned (.pointer (some ⟨q, 0, none⟩)) ∧ St W w' (Ps ++ [Ob.tab q LT.new]) ∧ Keep [] w w' := by
  refine (lz_new w).mono ?_
  rintro e w' ⟨q, bs, he, ht, hk, hb⟩
  exact ⟨q, he, h.push _ bs ht hk hb, hk⟩
theorem st_lz_add {W w : World} {Ps : List Ob} (h : St W w Ps) (i : Nat) {q : Nat} {t : LT} (hi : Ps[i]? = some (Ob.tab q t)) (p : Int) (c : UInt8) (hp : (Lit.int .i64 p).wf = true) :
    Calls Try.prog 65 #[.pointer (some ⟨q, 0, none⟩), .int .i64 p, .int .u8 c.toNat] w fun e w' => e = .returned (.int .i64 (t.add p c).1) ∧ St W w' (Ps.set i (Ob.tab q (t.add p c).2)) := by
  obtain ⟨bs, h1, h2, h3⟩ := h.focus i hi
  refine (lz_add w q bs t p c hp h1).mono ?_
  rintro e w' ⟨he, bs', ht, hk, hb⟩
  exact ⟨he, h3 w' (Ob.tab q _) bs' ht hk hb⟩
theorem st_lz_clear {W w : World} {Ps : List Ob} (h : St W w Ps) (i : Nat) {q : Nat} {t : LT} (hi : Ps[i]? = some (Ob.tab q t)) :
    Calls Try.prog 53 #[.pointer (some ⟨q, 0, none⟩)] w fun e w' => e = .returned (.tuple #[]) ∧ St W w' (Ps.set i (Ob.tab q t.clear)) := by
  obtain ⟨bs, h1, h2, h3⟩ := h.focus i hi
  refine (lz_clear w q bs t h1).mono ?_
  rintro e w' ⟨he, bs', ht, hk, hb⟩
  exact ⟨he, h3 w' (Ob.tab q _) bs' ht hk hb⟩
theorem st_lz_child {W w : World} {Ps : List Ob} (h : St W w Ps) (i : Nat) {q : Nat} {t : LT} (hi : Ps[i]? = some (Ob.tab q t)) (p : Int) (c : UInt8) (hp : (Lit.int .i64 p).wf = true) :
    Calls Try.prog 73 #[.pointer (some ⟨q, 0, none⟩), .int .i64 p, .int .u8 c.toNat] w fun e w' => e = .returned (.int .i64 (t.child p c)) ∧ St W w' Ps := by
  obtain ⟨bs, h1, h2, h3⟩ := h.focus i hi
  refine (lz_child w q bs t p c hp h1).mono ?_
  rintro e w' ⟨he, ht, hk⟩
  have := h3 w' (Ob.tab q t) bs ht hk (fun b hb => .inl hb)
  refine ⟨he, ?_⟩
  have e2 : Ps.set i (Ob.tab q t) = Ps := by
    apply List.ext_getElem?
    intro j
    by_cases e : i = j
    · subst e
      have hl : i < Ps.length := by
        rcases Nat.lt_or_ge i Ps.length with h | h
        · exact h
        · rw [List.getElem?_eq_none h] at hi; cases hi
      rw [List.getElem?_set_self hl, hi]
    · rw [List.getElem?_set_ne e]
  rwa [e2] at this
theorem st_lz_next {W w : World} {Ps : List Ob} (h : St W w Ps) (i : Nat) {q : Nat} {t : LT} (hi : Ps[i]? = some (Ob.tab q t)) :
    Calls Try.prog 47 #[.pointer (some ⟨q, 0, none⟩)] w fun e w' => e = .returned (.int .i64 t.next) ∧ Keep [] w w' := by
  obtain ⟨bs, h1⟩ := h.tab i hi
  exact lz_next w q bs t h1
def Ob.out (q : Nat) (s : HS) : Ob where
  P w bs := Ho w q bs s
  keep := fun h k hb => h.keep k hb
  lt := fun h => h.lt
theorem St.out {W w : World} {Ps : List Ob} (h : St W w Ps) (i : Nat) {q : Nat} {s : HS} (hi : Ps[i]? = some (Ob.out q s)) : ∃ bs, Ho w q bs s := by
  obtain ⟨bs, h1, _⟩ := h.get i hi; exact ⟨bs, h1⟩
theorem st_hs_new {W w : World} {Ps : List Ob} (h : St W w Ps) (win most : Int) (nou : Bool) (hm : most ≤ 9223372036854775807) (hm2 : -9223372036854775808 ≤ most) (hg : ¬ hsBad win most) : Calls Try.prog 19 #[.int .i64 win, .int .i64 most, .bool nou] w fun e w' =>
    ∃ q, e = .returned (.tuple #[.pointer (some ⟨q, 0, none⟩), .int .i64 0]) ∧ St W w' (Ps ++ [Ob.out q ⟨win.toNat, most.toNat, nou, []⟩]) ∧ Keep [] w w' := by
  refine (hs_new w win most nou hm hm2).mono ?_
  rintro e w' ⟨p, er, he, hk, _, h2⟩
  obtain ⟨rfl, q, bs, rfl, ho, hb⟩ := h2 hg
  exact ⟨q, he, h.push _ bs ho hk hb, hk⟩
theorem st_hs_lit {W w : World} {Ps : List Ob} (h : St W w Ps) (i : Nat) {q : Nat} {s : HS} (hi : Ps[i]? = some (Ob.out q s)) (c : UInt8) (hl : s.b.length + 1 ≤ 140737488350000) :
    Calls Try.prog 55 #[.pointer (some ⟨q, 0, none⟩), .int .u8 c.toNat] w fun e w' => e = .returned (.int .i64 (s.lit c).1) ∧ St W w' (Ps.set i (Ob.out q (s.lit c).2)) := by
  obtain ⟨bs, h1, h2, h3⟩ := h.focus i hi
  refine (hs_lit w q bs s c h1 hl).mono ?_
  rintro e w' ⟨he, bs', ht, hk, hb⟩
  exact ⟨he, h3 w' (Ob.out q _) bs' ht hk hb⟩
theorem st_hs_full {W w : World} {Ps : List Ob} (h : St W w Ps) (i : Nat) {q : Nat} {s : HS} (hi : Ps[i]? = some (Ob.out q s)) : Calls Try.prog 22 #[.pointer (some ⟨q, 0, none⟩)] w fun e w' => e = .returned (.bool (decide (s.b.length = s.most))) ∧ ∃ n, w' = w.drewN n := by
  obtain ⟨bs, h1⟩ := h.out i hi
  exact hs_full w q bs s h1
theorem st_hs_bytes {W w : World} {Ps : List Ob} (h : St W w Ps) (i : Nat) {q : Nat} {s : HS} (hi : Ps[i]? = some (Ob.out q s)) (hl : s.b.length ≤ 140737488350000) : Calls Try.prog 25 #[.pointer (some ⟨q, 0, none⟩)] w fun e w' => ∃ v, e = .returned v ∧ OwnB w' v s.b ∧ Keep [] w w' ∧ ∀ b, v.ownBlock = some b → w.heap.size ≤ b := by
  obtain ⟨bs, h1⟩ := h.out i hi
  exact hs_bytes w q bs s h1 hl
end Go.Proofs.Ytkefidbokeifdaa
namespace Go.Proofs.Ytkefidbokeifdaa
set_option linter.unusedVariables false
set_option linter.unusedSimpArgs false
open Go.ChangeShapes Go.WideShapes Go.ChangeAt Go.RowKit

theorem wf64 {x : Int} (h : -9223372036854775808 ≤ x ∧ x ≤ 9223372036854775807) : (Lit.int .i64 x).wf = true := by
  simpa [Lit.wf, IntKind.min, IntKind.max, IntKind.bits, IntKind.signed] using h
set_option maxRecDepth 100000 in
theorem begin_c (w : World) : Calls Try.prog 20 #[] w fun e w' => ∃ qt bt, e = .returned (.agg #[.pointer (some ⟨qt, 0, none⟩), .int .i64 9, .int .i64 (-1)]) ∧ LTab w' qt bt LT.new ∧ Keep [] w w' ∧ ∀ b ∈ bt, w.heap.size ≤ b := by
  have hX := Blk.new w #[.pointer none, .int .i64 0, .int .i64 0] 50
  have KX : Keep [] w (w.alloc (.cells #[.pointer none, .int .i64 0, .int .i64 0] 50)) := (Keep.refl [] w).alloc _
  obtain ⟨q, hq⟩ : ∃ q, w.heap.size = q := ⟨_, rfl⟩
  have HN := Lib.hid (lz_new (w.alloc (.cells #[.pointer none, .int .i64 0, .int .i64 0] 50)))
  have hs : (w.alloc (.cells #[.pointer none, .int .i64 0, .int .i64 0] 50)).heap.size = q + 1 := by simp [hq]
  have HS := Lib.hid hs; have HQ := Lib.hid hq; clear hs
  rw [hq] at hX
  go_enter Try.func20, Try.ntmps20
  go_wp2_with fail
  clear hq
  generalize w.alloc (.cells #[.pointer none, .int .i64 0, .int .i64 0] 50) = w1 at *
  refine HN.out.mono ?_; rintro e w2 ⟨qt, bt, rfl, hT, k2, hb2⟩
  have hX2 := hX.keep k2 (by simp)
  have f0 := hX2.free 0
  have f1 := hX2.free 1
  have f2 := hX2.free 2
  have c0 := hX2.cell 0 _ rfl
  have c1 := hX2.cell 1 _ rfl
  have c2 := hX2.cell 2 _ rfl
  have HB := Lib.hid (((hX2.set 0 (.pointer (some ⟨qt, 0, none⟩))).set 1 (.int .i64 9)).set 2 (.int .i64 (-1)))
  have HT := Lib.hid hT; have HK := Lib.hid k2; have HKX := Lib.hid KX; have HL := Lib.hid hb2
  clear hX hX2 hT k2 KX hb2
  go_wp2_with fail
  refine bodyPost_ret (results_cell_row rfl _ _ _ _ _ (0, 0) _ rfl HB.out Try.underlying50 rfl (by kernel_rfl)) rfl ?_
  have hq1 : ∀ b ∈ bt, b ≠ q := fun b hb => by have := HL.out b hb; have := HS.out; omega
  have K3 := HKX.out.trans HK.out (by simp)
  have K4 : Keep [q] w2 (((w2.setCell ⟨q, 0, none⟩ (.pointer (some ⟨qt, 0, none⟩))).setCell ⟨q, 1, none⟩ (.int .i64 9)).setCell ⟨q, 2, none⟩ (.int .i64 (-1))) :=
    (((Keep.refl [q] w2).setCell (p := ⟨q, 0, none⟩) (.inl (by simp)) _).setCell (p := ⟨q, 1, none⟩) (.inl (by simp)) _).setCell (p := ⟨q, 2, none⟩) (.inl (by simp)) _
  refine ⟨qt, bt, rfl, HT.out.keep K4 (fun b hb hm => ?_), K3.trans K4 (fun x hx => .inr ?_), fun b hb => ?_⟩
  · simp at hm; exact hq1 b hb hm
  · simp at hx; have := HQ.out; omega
  · have := HL.out b hb; have := HS.out; have := HQ.out; omega
set_option maxRecDepth 100000 in
theorem st_pass {W w : World} {Ps : List Ob} (h : St W w Ps) (i j : Nat) (q : Nat) (cs : Array Value) (ty : TypeId) (qt : Nat) (t : LT) (last : Int) (code : Nat) (c : UInt8) (hi : Ps[i]? = some (Ob.box q cs ty)) (hj : Ps[j]? = some (Ob.tab qt t)) (hij : j ≠ i)
    (h0 : cs[0]? = some (.pointer (some ⟨qt, 0, none⟩))) (h2 : cs[2]? = some (.int .i64 last)) (hl : -1 ≤ last ∧ last < 8192) : Calls Try.prog 51 #[.pointer (some ⟨q, 0, none⟩), .int .i64 code, .int .u8 c.toNat] w fun e w' =>
    e = .returned (.tuple #[]) ∧ St W w' ((Ps.set j (Ob.tab qt (t.add last c).2)).set i (Ob.box q (cs.setIfInBounds 2 (.int .i64 code)) ty)) := by
  have hb := h.blk i hi
  have c0 := hb.cell 0 _ h0
  have c2 := hb.cell 2 _ h2
  have HA := Lib.hid (st_lz_add (h.read ((Keep.refl [] w).drew)) j hj last c (wf64 (by omega)))
  have HI : Hid ((Ps.set j (Ob.tab qt (t.add last c).2))[i]? = some (Ob.box q cs ty)) := by unfold Hid; rw [List.getElem?_set_ne hij]; exact hi
  have HC2 := Lib.hid h2
  clear hb h0 h2 hl h hi hj hij
  go_enter Try.func51, Try.ntmps51
  go_wp2_with fail
  go_still_tail 9, (by kernel_rfl)
  change wpList _ _ _ _ _ w.drew
  clear c0 c2
  generalize w.drew = w1 at *
  go_wp2_with fail
  refine HA.out.mono ?_; rintro e w2 ⟨rfl, hS⟩
  have hB2 := hS.blk i HI.out
  have c2 := hB2.cell 2 _ HC2.out
  have g2 := hB2.free 2
  have HS3 := Lib.hid (hS.setBox i HI.out 2 (.int .i64 code))
  clear hB2 hS
  go_wp2_with fail
  go_end0
  exact ⟨rfl, HS3.out⟩
/-- the string of the code that is given out next -/
theorem aheadT_none {t : LT} {last : Int} (h : t.text last = none) : aheadT t last = none := by unfold aheadT; rw [h]; split <;> rfl
set_option maxRecDepth 100000 in
theorem ahead_c (w : World) (q : Nat) (cs : Array Value) (ty : TypeId) (qt : Nat) (bt : List Nat) (t : LT) (last : Int) (hb : Blk w q cs ty) (h0 : cs[0]? = some (.pointer (some ⟨qt, 0, none⟩))) (h2 : cs[2]? = some (.int .i64 last)) (hl : -1 ≤ last ∧ last < 8192)
    (ht : LTab w qt bt t) : Calls Try.prog 62 #[.pointer (some ⟨q, 0, none⟩)] w fun e w' =>
    ∃ v', e = .returned (.tuple #[v', .bool (aheadT t last).isSome]) ∧ Bs w' v' ((aheadT t last).getD []) ∧ Keep [] w w' ∧ ∀ b, v'.ownBlock = some b → w.heap.size ≤ b := by
  have c0 := hb.cell 0 _ h0
  have c2 := hb.cell 2 _ h2
  have HA := Lib.hid (lz_textO w.drew qt bt t last (wf64 (by omega)) (ht.keep ((Keep.refl [] w).drew) (by simp)))
  have HB := Lib.hid hb
  have HT := Lib.hid ht
  have HC0 := Lib.hid h0
  have hok := ht.ok
  obtain ⟨sm, hsm⟩ : ∃ sm, (t.text last).isSome = sm := ⟨_, rfl⟩
  obtain ⟨u, hu⟩ : ∃ u, (t.text last).getD [] = u := ⟨_, rfl⟩
  rw [hsm, hu] at HA
  have HSM := Lib.hid hsm; have HU := Lib.hid hu
  obtain ⟨R, hR⟩ : ∃ R, aheadT t last = R := ⟨_, rfl⟩
  rw [hR]
  have HR := Lib.hid hR
  have HOK := Lib.hid hok
  clear hb h0 h2 ht hl hsm hu hR hok
  have KD : Keep [] w w.drew := (Keep.refl [] w).drew
  go_enter Try.func62, Try.ntmps62
  go_upto_region 1 with fail
  go_cut [4, 5] (fun v4 b5 wx => b5 = .bool sm ∧ OwnB wx v4 u ∧ Keep [] w wx ∧ (∀ b, v4.ownBlock = some b → w.heap.size ≤ b))
  case first =>
    go_region_with (first | (go_at_call 71; (refine HA.out.mono ?_); (rintro e w7 ⟨v7, rfl, ho7, k7, b7⟩)))
    all_goals
      go_wp2_with fail
      go_meet
      exact ⟨rfl, ho7.keep (by first | exact Keep.refl [] _ | exact (Keep.refl [] _).drew) (by simp), by first | exact KD.trans k7 (by simp) | exact (KD.trans k7 (by simp)).drew, fun b hb => b7 b hb⟩
  case rest =>
  obtain ⟨rfl, ho, k2, hv2⟩ := hcut
  generalize wc = w2 at *
  clear c0 c2 HA KD
  have HO := Lib.hid ho
  have HK := Lib.hid k2
  have HV := Lib.hid hv2
  cases hx : t.text last with
  | none =>
    obtain rfl : sm = false := by have := HSM.out; rw [hx] at this; exact this.symm
    obtain rfl : R = none := by rw [← HR.out]; exact aheadT_none hx
    clear hx ho k2 hv2
    go_wp2_with fail
    go_ret2
    exact ⟨_, rfl, Bs.nil _, HK.out, fun b hb => by simp [Value.ownBlock] at hb⟩
  | some u' =>
    have hne := text_ne hx
    have hlen := text_len HOK.out hx
    obtain rfl : sm = true := by have := HSM.out; rw [hx] at this; exact this.symm
    obtain rfl : u' = u := by have := HU.out; rw [hx] at this; exact this
    have HX := Lib.hid hx; clear hx
    have c0 := (HB.out.keep k2 (by simp)).cell 0 _ HC0.out
    have HN2 := Lib.hid (lz_next w2 qt bt t (HT.out.keep k2 (by simp)))
    obtain ⟨a2, n2, cp2, rfl⟩ := ho.shape
    clear ho k2 hv2
    rcases t.next_cases HOK.out with hn | ⟨n, hn, hn1, hn2, _⟩
    · obtain rfl : R = none := by rw [← HR.out]; unfold aheadT; rw [if_pos hn]
      rw [hn] at HN2
      clear hn
      go_wp2_with fail
      refine HN2.out.mono ?_; rintro e w3 ⟨rfl, k3⟩
      have K3 := Lib.hid (HK.out.trans k3 (by simp))
      clear k3 HN2
      go_wp2_with fail
      go_ret2
      exact ⟨_, rfl, Bs.nil _, K3.out, fun b hb => by simp [Value.ownBlock] at hb⟩
    · obtain rfl : R = some (u' ++ [u'.headD 0]) := by rw [← HR.out]; unfold aheadT; rw [if_neg (by omega), HX.out, Option.map_some]
      rw [hn] at HN2
      have hn9 : ((n : Int) == -1) = false := by simp
      clear hn hn1 hn2
      have hpos : 0 < u'.length := List.length_pos_iff.2 hne
      have hhd : u'[0] = u'.headD 0 := by cases u' with | nil => exact absurd rfl hne | cons a l => rfl
      go_wp2_with fail
      refine HN2.out.mono ?_; rintro e w3 ⟨rfl, k3⟩
      have K3 := HK.out.trans k3 (by simp)
      have hO3 := HO.out.keep k3 (by simp)
      clear k3 HN2 HO c0
      obtain ⟨g7, o7, cp7, e7, cell7⟩ := hO3.bs.spot 0 hpos
      obtain ⟨ch, hch⟩ : ∃ ch, u'.headD 0 = ch := ⟨_, rfl⟩
      rw [hhd, Nat.add_zero, hch] at cell7
      have HCH := Lib.hid hch
      clear hhd hch hne
      simp only [Value.slice.injEq] at e7
      obtain ⟨rfl, rfl, rfl⟩ := e7
      have HN := Lib.hid (Bs.new1 w3 ch)
      have KA := (Keep.refl [] w3).alloc (.cells #[.int .u8 (ch.toNat)] 5)
      have hO7 := hO3.keep KA (by simp)
      have hll : u'.length + [ch].length ≤ 140737488355328 := by simp; omega
      have HLL := Lib.hid hll
      have HK3 := Lib.hid K3; have HKA := Lib.hid KA
      have HO7 := Lib.hid hO7
      clear hll K3 KA hO7 hO3 hlen
      go_wp2_with (at_builtin; ((refine wpList_appendB (.tmp 28) (.tmp 32) rfl rfl (.slice (some ⟨g7, o7, none⟩) u'.length cp2) u' rfl HO7.out _ [ch] rfl HN.out HLL.out ?_); (intro v8 w8 ho8 hk8 hb8 hz8)))
      go_ret2
      refine ⟨_, rfl, by rw [← HCH.out] at ho8; exact ho8.bs, (HK3.out.trans HKA.out (by simp)).trans hk8 (fun z hz => .inr (HV.out z (by simpa using hz))), fun b hb => ?_⟩
      rcases hb8 b hb with h' | h'
      · exact HV.out b h'
      · have h1 := HK3.out.size; rw [h']; simp; omega
/-- a code's string: its own, or the one that is told ahead of being given out -/
def strT (t : LT) (last : Int) (x : Nat) : Option (List UInt8) :=
  match t.text (x : Nat) with
  | some u => some u
  | none => if (x : Int) = t.next then aheadT t last else none
theorem strT_str {d : SH} (hd : d.t.ok) (x : Nat) : strT d.t d.last x = d.str x := by
  unfold strT SH.str
  cases e : d.t.text (x : Nat) with
  | some u => rfl
  | none =>
    dsimp only
    by_cases h1 : d.last < 0
    · have h2 : aheadT d.t d.last = none := aheadT_none (text_neg hd h1)
      rw [if_pos (Or.inl h1 : d.last < 0 ∨ (x : Int) ≠ d.t.next), h2]; split <;> rfl
    · by_cases h2 : (x : Int) = d.t.next
      · rw [if_pos h2, if_neg (by omega)]
        unfold aheadT
        rw [if_neg (by omega)]
      · rw [if_neg h2, if_pos (Or.inr h2 : d.last < 0 ∨ (x : Int) ≠ d.t.next)]
set_option maxRecDepth 100000 in
theorem text_c (w : World) (q : Nat) (cs : Array Value) (ty : TypeId) (qt : Nat) (bt : List Nat) (t : LT) (last : Int) (x : Nat) (hb : Blk w q cs ty) (h0 : cs[0]? = some (.pointer (some ⟨qt, 0, none⟩))) (h2 : cs[2]? = some (.int .i64 last)) (hl : -1 ≤ last ∧ last < 8192) (hx : x < 8192)
    (ht : LTab w qt bt t) : Calls Try.prog 54 #[.pointer (some ⟨q, 0, none⟩), .int .i64 x] w fun e w' =>
    ∃ v', e = .returned (.tuple #[v', .bool (strT t last x).isSome]) ∧ Bs w' v' ((strT t last x).getD []) ∧ Keep [] w w' ∧ ∀ b, v'.ownBlock = some b → w.heap.size ≤ b := by
  have c0 := hb.cell 0 _ h0
  have HA := Lib.hid (lz_text w qt bt t x (wf64 (by omega)) ht)
  have HB := Lib.hid hb
  have HT := Lib.hid ht
  have HC0 := Lib.hid h0
  have HC2 := Lib.hid h2
  obtain ⟨R, hR⟩ : ∃ R, strT t last x = R := ⟨_, rfl⟩
  rw [hR]
  have HL := Lib.hid hl
  unfold strT at hR
  clear hb h0 h2 ht hl hx
  cases hu : t.text (x : Nat) with
  | some u =>
    rw [hu] at hR HA
    dsimp only at hR
    have HR := Lib.hid hR
    clear hu hR
    simp only [Option.isSome_some, Option.getD_some] at HA
    go_enter Try.func54, Try.ntmps54
    go_wp2_with fail
    refine HA.out.mono ?_; rintro e w2 ⟨v2, rfl, hb2, k2, hf2⟩
    obtain ⟨a2, cp2, rfl, _⟩ := hb2.shape
    have HF := Lib.hid hf2; have HK := Lib.hid k2; have HB2 := Lib.hid hb2
    clear hb2 k2 HA hf2
    go_wp2_with fail
    go_ret2
    rw [← HR.out]
    exact ⟨_, rfl, HB2.out, HK.out, HF.out⟩
  | none =>
    rw [hu] at hR HA
    dsimp only at hR
    clear hu
    simp only [Option.isSome_none, Option.getD_none] at HA
    by_cases hn : (x : Int) = t.next
    · rw [if_pos hn] at hR
      have HR := Lib.hid hR
      clear hR
      have t1 : ((x : Int) == t.next) = true := by simp [hn]
      have HNN := Lib.hid hn; clear hn
      go_enter Try.func54, Try.ntmps54
      go_wp2_with fail
      refine HA.out.mono ?_; rintro e w2 ⟨v2, rfl, hb2, k2, hf2⟩
      obtain ⟨a2, cp2, rfl, _⟩ := hb2.shape
      have c0 := (HB.out.keep k2 (by simp)).cell 0 _ HC0.out
      have HN2 := Lib.hid (lz_next w2 qt bt t (HT.out.keep k2 (by simp)))
      have HF := Lib.hid hf2; have HK := Lib.hid k2
      clear hb2 k2 HA hf2
      go_wp2_with fail
      refine HN2.out.mono ?_; rintro e w3 ⟨rfl, k3⟩
      have K3 := HK.out.trans k3 (by simp)
      have HAH := Lib.hid (ahead_c w3 q cs ty qt bt t last (HB.out.keep K3 (by simp)) HC0.out HC2.out HL.out (HT.out.keep K3 (by simp)))
      rw [HR.out] at HAH
      have HK3 := Lib.hid K3
      clear K3 k3 HN2 c0
      go_wp2_with fail
      refine HAH.out.mono ?_; rintro e w4 ⟨v4, rfl, hb4, k4, hf4⟩
      obtain ⟨a4, cp4, rfl, _⟩ := hb4.shape
      have HK4 := Lib.hid (HK3.out.trans k4 (by simp)); have HB4 := Lib.hid hb4; have HF4 := Lib.hid hf4
      clear hb4 k4 HAH hf4
      go_wp2_with fail
      go_ret2
      exact ⟨_, rfl, HB4.out, HK4.out, fun b hb => Nat.le_trans HK3.out.size (HF4.out b hb)⟩
    · rw [if_neg hn] at hR
      have HR := Lib.hid hR
      clear hR
      have t1 : ((x : Int) == t.next) = false := by simpa using hn
      have HNN := Lib.hid hn; clear hn
      go_enter Try.func54, Try.ntmps54
      go_wp2_with fail
      refine HA.out.mono ?_; rintro e w2 ⟨v2, rfl, hb2, k2, hf2⟩
      obtain ⟨a2, cp2, rfl, _⟩ := hb2.shape
      have c0 := (HB.out.keep k2 (by simp)).cell 0 _ HC0.out
      have HN2 := Lib.hid (lz_next w2 qt bt t (HT.out.keep k2 (by simp)))
      have HF := Lib.hid hf2; have HK := Lib.hid k2; have HB2 := Lib.hid hb2
      clear hb2 k2 HA hf2
      go_wp2_with fail
      refine HN2.out.mono ?_; rintro e w3 ⟨rfl, k3⟩
      have HK3 := Lib.hid (HK.out.trans k3 (by simp))
      have HB3 := Lib.hid (HB2.out.keep k3 (by simp))
      clear k3 HN2 c0
      go_wp2_with fail
      go_ret2
      rw [← HR.out]
      exact ⟨_, rfl, HB3.out, HK3.out, HF.out⟩
end Go.Proofs.Ytkefidbokeifdaa
namespace Go.Proofs.Ytkefidbokeifdaa
set_option linter.unusedVariables false
set_option linter.unusedSimpArgs false
open Go.ChangeShapes Go.WideShapes Go.ChangeAt Go.RowKit

/-- a reader's cells -/
def rdCells (qt qr qo : Nat) (s : SH) : Array Value := #[.pointer (some ⟨qt, 0, none⟩), .int .i64 s.w, .int .i64 s.last, .pointer (some ⟨qr, 0, none⟩), .pointer (some ⟨qo, 0, none⟩), .int .i64 s.n]
/-- a reader of codes and all that it holds -/
def ErL (q qt qr qo size : Nat) (s : SH) : List Ob := [Ob.box q (rdCells qt qr qo s) 55, Ob.tab qt s.t, Ob.rd qr s.r, Ob.out qo ⟨1, size, false, s.out⟩]
theorem code_err (s : SH) (hm : s.r.made = true) : s.code.2.r.E = s.code.2.r.err := by
  have : s.code.2.r.made = true := by
    unfold SH.code RS.bits RS.fail
    dsimp only
    repeat' split
    all_goals first | exact hm | rfl
  unfold RS.E; rw [if_pos this]
theorem rd_cells {w : World} {q qt qr qo : Nat} {s : SH} (h : Blk w q (rdCells qt qr qo s) 55) : w.cell? ⟨q, 0, none⟩ = some (.pointer (some ⟨qt, 0, none⟩)) ∧ w.cell? ⟨q, 1, none⟩ = some (.int .i64 s.w) ∧ w.cell? ⟨q, 2, none⟩ = some (.int .i64 s.last) ∧
    w.cell? ⟨q, 3, none⟩ = some (.pointer (some ⟨qr, 0, none⟩)) ∧ w.cell? ⟨q, 4, none⟩ = some (.pointer (some ⟨qo, 0, none⟩)) ∧ w.cell? ⟨q, 5, none⟩ = some (.int .i64 s.n) :=
  ⟨h.cell 0 _ rfl, h.cell 1 _ rfl, h.cell 2 _ rfl, h.cell 3 _ rfl, h.cell 4 _ rfl, h.cell 5 _ rfl⟩
set_option maxRecDepth 100000 in
theorem rcode_c {W w : World} (q qt qr qo size : Nat) (s : SH) (h : St W w (ErL q qt qr qo size s)) (hm : s.r.made = true) (hw : s.w ≤ 13) (hn : s.n ≤ 4611686018427387904) : Calls Try.prog 36 #[.pointer (some ⟨q, 0, none⟩)] w fun e w' =>
    e = .returned (.tuple #[.int .i64 s.code.1, .int .i64 s.code.2.r.err]) ∧ St W w' (ErL q qt qr qo size s.code.2) := by
  have hb := h.blk 0 rfl
  obtain ⟨-, c1, -, c3, -, -⟩ := rd_cells hb
  have HB := Lib.hid (st_bits (h.read ((Keep.refl [] w).drew)) 2 rfl (s.w : Nat))
  have HX : Hid (s.code.1 = (s.r.bits (s.w : Nat)).1 ∧ s.code.2.r = (s.r.bits (s.w : Nat)).2) := ⟨rfl, rfl⟩
  have hlt : (s.r.bits (s.w : Nat)).1 < 4294967296 := by
    unfold RS.bits
    split
    · show (0 : Nat) < _; decide
    · split
      · show (0 : Nat) < _; decide
      · split
        · show (0 : Nat) < _; decide
        · have := num_lt s.r.l s.r.pos ((s.w : Nat) : Int).toNat
          have h2 : 2 ^ ((s.w : Nat) : Int).toNat ≤ 2 ^ 13 := Nat.pow_le_pow_right (by decide) (by omega)
          show num _ _ _ < _
          omega
  have HE := Lib.hid (code_err s hm)
  obtain ⟨x, hx⟩ : ∃ x, (s.r.bits (s.w : Nat)).1 = x := ⟨_, rfl⟩
  rw [hx] at hlt HB HX
  have HXX := Lib.hid hx
  have hwr : IntKind.i64.wrap ((s.n : Int) + 1) = ((s.n + 1 : Nat) : Int) := by rw [IntKind.wrap_i64]; omega
  obtain ⟨n1, hn1⟩ : ∃ n1, s.n + 1 = n1 := ⟨_, rfl⟩
  have HN1 := Lib.hid hn1
  clear hx hb h hm
  go_enter Try.func36, Try.ntmps36
  go_wp2_with fail
  go_still_tail 9, (by kernel_rfl)
  change wpList _ _ _ _ _ w.drew
  clear c1 c3
  generalize w.drew = w1 at *
  go_wp2_with fail
  refine HB.out.mono ?_; rintro e w2 ⟨rfl, hS⟩
  have hB2 := hS.blk 0 rfl
  obtain ⟨-, -, -, c3, -, c5⟩ := rd_cells hB2
  have g5 := hB2.free 5
  have hS3 := hS.setBox 0 rfl 5 (.int .i64 ((s.n + 1 : Nat) : Int))
  obtain ⟨-, -, -, d3, -, -⟩ := rd_cells (s := { s with n := s.n + 1 }) (qt := qt) (qr := qr) (qo := qo) (hS3.blk 0 rfl)
  have HE3 := Lib.hid (st_err hS3 2 rfl)
  have HS3 : Hid (St W (w2.setCell ⟨q, 5, none⟩ (.int .i64 ((s.n + 1 : Nat) : Int))) (ErL q qt qr qo size s.code.2)) := hS3
  rw [hn1] at HE3 HS3 d3 hwr
  clear hS hB2 HB hS3 hn1
  go_wp2_with fail
  refine HE3.out.mono ?_; rintro e w3 ⟨rfl, rfl⟩
  go_wp2_with fail
  go_ret2
  refine ⟨?_, HS3.out⟩
  rw [← HE.out, HX.out.2, HX.out.1]; rfl
theorem code_keeps (s : SH) : s.code.2.w = s.w ∧ s.code.2.last = s.last ∧ s.code.2.t = s.t ∧ s.code.2.out = s.out ∧ s.code.2.n = s.n + 1 := ⟨rfl, rfl, rfl, rfl, rfl⟩
set_option maxRecDepth 100000 in
set_option maxHeartbeats 1000000 in
theorem rcontrol_c {W w : World} (q qt qr qo size : Nat) (s : SH) (h : St W w (ErL q qt qr qo size s)) (ho : s.ok size) (hn : s.n ≤ 4611686018427387904) : Calls Try.prog 37 #[.pointer (some ⟨q, 0, none⟩)] w fun e w' =>
    e = .returned (.int .i64 s.control.1) ∧ Keep [] W w' ∧ (s.control.1 = 0 → St W w' (ErL q qt qr qo size s.control.2)) := by
  have HC := Lib.hid (rcode_c q qt qr qo size s h ho.made ho.w13 hn)
  have hcode := ho.code_ok
  unfold SH.control
  obtain ⟨s2, hs2⟩ : ∃ s2, s.code.2 = s2 := ⟨_, rfl⟩
  obtain ⟨x, hx⟩ : ∃ x, s.code.1 = x := ⟨_, rfl⟩
  rw [hs2, hx] at HC hcode
  rw [hs2, hx]
  clear h ho hs2 hx hn
  rcases hcode with he | ⟨he, hx, hok, -⟩
  · rw [if_pos (by omega)]
    rw [he] at HC
    have HE := Lib.hid he; clear he
    go_enter Try.func37, Try.ntmps37
    go_wp2_with fail
    refine HC.out.mono ?_; rintro e w2 ⟨rfl, hS⟩
    have HK := Lib.hid hS.kp
    clear hS HC
    go_wp2_with fail
    go_ret
    exact ⟨by rw [HE.out]; rfl, HK.out, fun h => by rw [HE.out] at h; simp at h⟩
  · rw [if_neg (by omega)]
    rw [he] at HC
    have w13 := hok.w13
    clear hok he
    obtain ⟨D, hD⟩ : ∃ D, (if x = 1 ∧ s2.w < 13 then (0, { s2 with w := s2.w + 1 }) else if x = 2 then (0, { s2 with t := s2.t.clear }) else (7, s2)) = D := ⟨_, rfl⟩
    rw [hD]
    by_cases h1 : x = 1
    · have t1 : ((x : Int) == 1) = true := by simp; omega
      by_cases h2 : s2.w < 13
      · rw [if_pos ⟨h1, h2⟩] at hD
        have HD := Lib.hid hD
        have t2 : decide ((s2.w : Int) < 13) = true := by simp; omega
        have t2' : decide (s2.w < 13) = true := by simp; omega
        have hwr : IntKind.i64.wrap ((s2.w : Int) + 1) = ((s2.w + 1 : Nat) : Int) := by rw [IntKind.wrap_i64]; omega
        obtain ⟨n1, hn1⟩ : ∃ n1, s2.w + 1 = n1 := ⟨_, rfl⟩
        have HN1 := Lib.hid hn1
        rw [hn1] at hwr
        clear h1 h2 hD hn1
        go_enter Try.func37, Try.ntmps37
        go_wp2_with fail
        refine HC.out.mono ?_; rintro e w2 ⟨rfl, hS⟩
        have hB := hS.blk 0 rfl
        obtain ⟨-, c1, -, -, -, -⟩ := rd_cells hB
        have g1 := hB.free 1
        have HS2 := Lib.hid (hS.setBox 0 rfl 1 (.int .i64 (n1 : Nat)))
        clear hS hB HC
        go_wp2_with fail
        go_ret
        have hS3 : St W (w2.setCell ⟨q, 1, none⟩ (.int .i64 (n1 : Nat))) (ErL q qt qr qo size { s2 with w := s2.w + 1 }) := by rw [← HN1.out]; have := HS2.out; rw [← HN1.out] at this; exact this
        rw [← HD.out]
        exact ⟨rfl, hS3.kp, fun _ => hS3⟩
      · rw [if_neg (by omega), if_neg (by omega)] at hD
        have HD := Lib.hid hD
        have t2 : decide ((s2.w : Int) < 13) = false := by simp; omega
        have t2' : decide (s2.w < 13) = false := by simp; omega
        have t3 : ((x : Int) == 2) = false := by simp; omega
        clear h1 h2 hD w13 hx
        go_enter Try.func37, Try.ntmps37
        go_wp2_with fail
        refine HC.out.mono ?_; rintro e w2 ⟨rfl, hS⟩
        obtain ⟨-, c1, -, -, -, -⟩ := rd_cells (hS.blk 0 rfl)
        have HK := Lib.hid hS.kp
        clear hS HC
        go_wp2_with fail
        go_ret
        rw [← HD.out]
        exact ⟨rfl, HK.out, fun h => by simp at h⟩
    · have t1 : ((x : Int) == 1) = false := by simp; omega
      rw [if_neg (by omega)] at hD
      by_cases h2 : x = 2
      · rw [if_pos h2] at hD
        have HD := Lib.hid hD
        have t3 : ((x : Int) == 2) = true := by simp; omega
        clear h1 h2 hD w13 hx
        go_enter Try.func37, Try.ntmps37
        go_wp2_with fail
        refine HC.out.mono ?_; rintro e w2 ⟨rfl, hS⟩
        obtain ⟨c0, -, -, -, -, -⟩ := rd_cells (hS.blk 0 rfl)
        have HCL := Lib.hid (st_lz_clear hS 1 rfl)
        clear hS HC
        go_wp2_with fail
        refine HCL.out.mono ?_; rintro e w3 ⟨rfl, hS⟩
        have HS3 : Hid (St W w3 (ErL q qt qr qo size { s2 with t := s2.t.clear })) := hS
        clear hS HCL
        go_wp2_with fail
        go_ret
        rw [← HD.out]
        exact ⟨rfl, HS3.out.kp, fun _ => HS3.out⟩
      · rw [if_neg h2] at hD
        have HD := Lib.hid hD
        have t3 : ((x : Int) == 2) = false := by simp; omega
        clear h1 h2 hD w13 hx
        go_enter Try.func37, Try.ntmps37
        go_wp2_with fail
        refine HC.out.mono ?_; rintro e w2 ⟨rfl, hS⟩
        obtain ⟨c0, c1, -, -, -, -⟩ := rd_cells (hS.blk 0 rfl)
        have HK := Lib.hid hS.kp
        clear hS HC
        go_wp2_with fail
        go_ret
        rw [← HD.out]
        exact ⟨rfl, HK.out, fun h => by simp at h⟩
theorem lit_out (o : List UInt8) (size : Nat) (c : UInt8) : (⟨1, size, false, o⟩ : HS).lit c = if o.length < size then (0, ⟨1, size, false, o ++ [c]⟩) else (9, ⟨1, size, false, o⟩) := by
  unfold HS.lit
  by_cases h : o.length < size
  · rw [if_pos h, if_neg (by show ¬ size ≤ o.length; omega)]
  · rw [if_neg h, if_pos (by show size ≤ o.length; omega)]
set_option maxRecDepth 100000 in
set_option maxHeartbeats 1000000 in
theorem rtell_c {W w : World} (q qt qr qo size : Nat) (s : SH) (x : Nat) (hx : x < 8192) (h : St W w (ErL q qt qr qo size s)) (ho : s.ok size) (hso : s.out.length ≤ size) (hl : s.out.length ≤ 100000000000000) : Calls Try.prog 38 #[.pointer (some ⟨q, 0, none⟩), .int .i64 x] w fun e w' =>
    ∃ er : Nat, e = .returned (.int .i64 er) ∧ Keep [] W w' ∧ (match s.str x with | none => er = 7 | some u => er = (s.tell size x u).1 ∧ (er = 0 → St W w' (ErL q qt qr qo size (s.tell size x u).2))) := by
  have hb := h.blk 0 rfl
  obtain ⟨bt, hT⟩ := h.tab 1 rfl
  have HT := Lib.hid (text_c w q _ _ qt bt s.t s.last x hb rfl rfl ho.last hx hT)
  rw [strT_str ho.tok] at HT
  obtain ⟨R, hR⟩ : ∃ R, s.str x = R := ⟨_, rfl⟩
  rw [hR] at HT ⊢
  have HS := Lib.hid h
  cases R with
  | none =>
    clear hb hT hR h ho hso hl hx
    go_enter Try.func38, Try.ntmps38
    go_wp2_with fail
    refine HT.out.mono ?_; rintro e w2 ⟨v2, rfl, -, k2, -⟩
    have HK := Lib.hid (HS.out.kp.trans k2 (by simp))
    clear HT k2
    go_wp2_with fail
    go_ret
    exact ⟨7, rfl, HK.out, rfl⟩
  | some u =>
    obtain ⟨hne, hul⟩ := SH.str_some ho hR
    have hpos : 0 < u.length := List.length_pos_iff.2 hne
    simp only [Option.isSome_some, Option.getD_some] at HT
    dsimp only
    obtain ⟨D, hD⟩ : ∃ D, s.tell size x u = D := ⟨_, rfl⟩
    rw [hD]
    unfold SH.tell at hD
    have HD := Lib.hid hD
    clear hD
    clear hb hT hR h
    go_enter Try.func38, Try.ntmps38
    go_wp2_with fail
    refine HT.out.mono ?_; rintro e w2 ⟨v2, rfl, hb2, k2, hf2⟩
    obtain ⟨a2, cp2, rfl, _⟩ := hb2.shape
    have hS2 := HS.out.pushBs hb2 k2 hf2
    have HS2 := Lib.hid hS2
    clear HT k2 hS2 hf2 HS hb2
    go_wp2_with fail
    have HNE := Lib.hid hne
    clear hne
    go_loopw [22] (fun iv wr => ∃ k : Nat, k ≤ u.length ∧ iv = .int .i64 k ∧ s.out.length + k ≤ size ∧ Hid (St W wr (ErL q qt qr qo size { s with out := s.out ++ u.take k } ++ [Ob.bytes (.slice a2 u.length cp2) u]))) (fun iv _ => u.length - (intOf iv).toNat)
    case atStart => exact ⟨0, by omega, rfl, by omega, by simpa using HS2⟩
    case round =>
      obtain ⟨k, hk, rfl, hks, HSR⟩ := hrel
      by_cases hlt : k < u.length
      · obtain ⟨bb, off, cp, e4, cell4⟩ := (HSR.out.bs 4 rfl).spot k hlt
        simp only [Value.slice.injEq] at e4
        obtain ⟨rfl, -, rfl⟩ := e4
        obtain ⟨-, -, -, -, c4, -⟩ := rd_cells (HSR.out.blk 0 rfl)
        have HL := Lib.hid (st_hs_lit HSR.out 3 rfl u[k] (by show (s.out ++ u.take k).length + 1 ≤ _; rw [List.length_append, List.length_take]; omega))
        rw [lit_out] at HL
        have hlen : (s.out ++ u.take k).length = s.out.length + k := by rw [List.length_append, List.length_take]; omega
        rw [hlen] at HL
        have htk : (s.out ++ u.take k) ++ [u[k]] = s.out ++ u.take (k + 1) := by rw [List.append_assoc, List.take_succ_eq_append_getElem hlt]
        clear hlen
        by_cases hfit : s.out.length + k < size
        · rw [if_pos hfit] at HL
          rw [htk] at HL
          clear htk hks
          generalize u[k] = ch at *
          go_wp2_with fail
          refine HL.out.mono ?_; rintro e w3 ⟨rfl, hS3⟩
          have HS3 := Lib.hid hS3
          clear HL hS3
          go_wp2_with fail
          go_roundw
          case rel => exact ⟨k + 1, by omega, by go_num, by omega, HS3⟩
          case measure => simp [intOf]; omega
        · rw [if_neg hfit] at HL
          clear htk
          have HF := Lib.hid hfit
          have hHK : (size : Int) - s.out.length < u.length := by omega
          have HHK := Lib.hid hHK
          generalize u[k] = ch at *
          clear hfit hHK
          go_wp2_with fail
          refine HL.out.mono ?_; rintro e w3 ⟨rfl, hS3⟩
          have HK3 := Lib.hid hS3.kp
          clear HL hS3
          go_wp2_with fail
          go_ret
          have hd := HD.out
          rw [if_pos HHK.out] at hd
          refine ⟨9, rfl, HK3.out, ?_⟩
          rw [← hd]
          exact ⟨rfl, fun h => by simp at h⟩
      · obtain rfl : k = u.length := by omega
        rw [List.take_length] at HSR
        obtain ⟨bb, off, cp, e4, cell4⟩ := (HSR.out.bs 4 rfl).spot 0 hpos
        simp only [Value.slice.injEq] at e4
        obtain ⟨rfl, -, rfl⟩ := e4
        rw [Nat.add_zero] at cell4
        have hhd : u[0] = u.headD 0 := by
          have := HNE.out
          cases u with | nil => exact absurd rfl this | cons a l => rfl
        rw [hhd] at cell4
        obtain ⟨ch, hch⟩ : ∃ ch, u.headD 0 = ch := ⟨_, rfl⟩
        have hd := HD.out
        rw [if_neg (by omega)] at hd
        rw [hch] at cell4 hd
        have HDD := Lib.hid hd
        have HP := Lib.hid (st_pass (HSR.out.read ((Keep.refl [] wr).drew)) 0 1 q _ _ qt s.t s.last x ch rfl rfl (by decide) rfl rfl ho.last)
        have hlast := ho.last
        have HLST : Hid ((if s.last < 0 then s.t else (s.t.add s.last ch).2) = (s.t.add s.last ch).2) := by
          unfold Hid
          split
          · rename_i hn; rw [add_neg _ hn]
          · rfl
        clear hhd hch hd HD HNE HS2 hks hlt hk hlast ho hso hx HSR
        go_wp2_with fail
        go_still_tail 7, (by kernel_rfl)
        change wpList _ _ _ _ _ wr.drew
        clear cell4
        generalize wr.drew = w4 at *
        go_wp2_with fail
        refine HP.out.mono ?_; rintro e w5 ⟨rfl, hS5⟩
        have hS6 : St W w5 (ErL q qt qr qo size { s with out := s.out ++ u, t := (s.t.add s.last ch).2, last := x } ++ [Ob.bytes (.slice (some ⟨bb, off, none⟩) u.length cp2) u]) := hS5
        have HS5 := Lib.hid hS6.pop
        clear HP hS5 hS6
        go_wp2_with fail
        go_ret
        refine ⟨0, rfl, HS5.out.kp, ?_⟩
        rw [← HDD.out]
        refine ⟨rfl, fun _ => ?_⟩
        rw [HLST.out]
        exact HS5.out
end Go.Proofs.Ytkefidbokeifdaa
namespace Go.Proofs.Ytkefidbokeifdaa
set_option linter.unusedVariables false
set_option linter.unusedSimpArgs false
open Go.ChangeShapes Go.WideShapes Go.ChangeAt Go.RowKit

theorem st_begin {W w : World} {Ps : List Ob} (h : St W w Ps) : Calls Try.prog 20 #[] w fun e w' => ∃ qt, e = .returned (.agg #[.pointer (some ⟨qt, 0, none⟩), .int .i64 9, .int .i64 (-1)]) ∧ St W w' (Ps ++ [Ob.tab qt LT.new]) ∧ Keep [] w w' := by
  refine (begin_c w).mono ?_
  rintro e w' ⟨qt, bt, he, ht, hk, hb⟩
  exact ⟨qt, he, h.push (Ob.tab qt LT.new) bt ht hk hb, hk⟩
set_option maxRecDepth 100000 in
set_option maxHeartbeats 1000000 in
theorem rstep_c {W w : World} (q qt qr qo size : Nat) (s : SH) (h : St W w (ErL q qt qr qo size s)) (ho : s.ok size) (hn : s.n ≤ 10000000000) : Calls Try.prog 23 #[.pointer (some ⟨q, 0, none⟩)] w fun e w' =>
    e = .returned (.int .i64 (s.step size).1) ∧ Keep [] W w' ∧ ((s.step size).1 = 0 → St W w' (ErL q qt qr qo size (s.step size).2)) := by
  have HC := Lib.hid (rcode_c q qt qr qo size s h ho.made ho.w13 (by omega))
  have hcode := ho.code_ok
  have htold := ho.told
  have hn2 : s.code.2.n = s.n + 1 := rfl
  have hout2 : s.code.2.out = s.out := rfl
  obtain ⟨D, hD⟩ : ∃ D, s.step size = D := ⟨_, rfl⟩
  rw [hD]
  unfold SH.step at hD
  obtain ⟨s2, hs2⟩ : ∃ s2, s.code.2 = s2 := ⟨_, rfl⟩
  obtain ⟨x, hx⟩ : ∃ x, s.code.1 = x := ⟨_, rfl⟩
  rw [hs2, hx] at HC hcode
  rw [hs2] at hn2 hout2
  rw [hs2, hx] at hD
  clear h ho hs2 hx
  rcases hcode with he | ⟨he, hx, hok, -⟩
  · rw [if_pos (by omega)] at hD
    rw [he] at HC hD
    have HD := Lib.hid hD
    clear he hD
    go_enter Try.func23, Try.ntmps23
    go_wp2_with fail
    refine HC.out.mono ?_; rintro e w2 ⟨rfl, hS⟩
    have HK := Lib.hid hS.kp
    clear hS HC
    go_wp2_with fail
    go_ret
    rw [← HD.out]
    exact ⟨rfl, HK.out, fun h => by simp at h⟩
  · rw [if_neg (by omega)] at hD
    rw [he] at HC
    have HOK := Lib.hid hok
    have hb : s2.n ≤ 10000000001 ∧ s2.out.length ≤ 100000000000000 := by rw [hn2, hout2]; omega
    have HBB := Lib.hid hb
    clear hok he hn2 hout2 htold hn hb
    by_cases h1 : x = 256
    · rw [if_pos h1] at hD
      have HD := Lib.hid hD
      have t1 : ((x : Int) == 256) = true := by simp; omega
      clear h1 hx hD
      go_enter Try.func23, Try.ntmps23
      go_wp2_with fail
      refine HC.out.mono ?_; rintro e w2 ⟨rfl, hS⟩
      have HT := Lib.hid (rcontrol_c q qt qr qo size s2 hS HOK.out (by have := HBB.out; omega))
      clear hS HC
      go_wp2_with fail
      refine HT.out.mono ?_; rintro e w3 ⟨rfl, hk, hS⟩
      have HK := Lib.hid hk
      have HS := Lib.hid hS
      clear hk hS HT
      go_wp2_with fail
      go_ret
      rw [← HD.out]
      exact ⟨rfl, HK.out, HS.out⟩
    · rw [if_neg h1] at hD
      have t1 : ((x : Int) == 256) = false := by simp; omega
      have HD := Lib.hid hD
      have HX := Lib.hid hx
      clear h1 hx hD
      go_enter Try.func23, Try.ntmps23
      go_wp2_with fail
      refine HC.out.mono ?_; rintro e w2 ⟨rfl, hS⟩
      have HT := Lib.hid (rtell_c q qt qr qo size s2 x HX.out hS HOK.out (by have := HOK.out.size; omega) HBB.out.2)
      clear hS HC
      go_wp2_with fail
      refine HT.out.mono ?_; rintro e w3 ⟨er, rfl, hk, hS⟩
      have HK := Lib.hid hk
      have HS := Lib.hid hS
      clear hk hS HT
      go_wp2_with fail
      go_ret
      have hd := HD.out
      have hs := HS.out
      cases hstr : s2.str x with
      | none =>
        rw [hstr] at hd hs
        dsimp only at hd hs
        rw [← hd, hs]
        exact ⟨rfl, HK.out, fun h => by simp at h⟩
      | some u =>
        rw [hstr] at hd hs
        dsimp only at hd hs
        rw [hd] at hs
        rw [← hs.1]
        exact ⟨rfl, HK.out, hs.2⟩
set_option maxRecDepth 100000 in
set_option maxHeartbeats 2000000 in
theorem sh_decode (w : World) (v : Value) (l : List UInt8) (size : Int) (hb : Bs w v l) (hl : l.length ≤ 100000000) (hz : (Lit.int .i64 size).wf = true) :
    Calls Try.prog 10 #[v, .int .i64 size] w fun e w' => ∃ v', e = .returned (.tuple #[v', .int .i64 (shDec l size).2.1, .int .i64 (shDec l size).2.2]) ∧ Bs w' v' (shDec l size).1 ∧ Keep [] w w' := by
  have hz2 : -9223372036854775808 ≤ size ∧ size ≤ 9223372036854775807 := by
    simpa [Lit.wf, IntKind.min, IntKind.max, IntKind.bits, IntKind.signed] using hz
  clear hz
  obtain ⟨R, hR⟩ : ∃ R, shDec l size = R := ⟨_, rfl⟩
  rw [hR]
  unfold shDec at hR
  by_cases h0 : size < 0
  · rw [if_pos h0] at hR
    have HR := Lib.hid hR; clear hR
    have HN := Lib.hid (hs_new w 1 size false hz2.2 hz2.1)
    have hbad : hsBad 1 size := by unfold hsBad; omega
    have HBAD := Lib.hid hbad
    clear hbad h0 hz2 hb
    go_enter Try.func10, Try.ntmps10
    go_wp2_with fail
    refine HN.out.mono ?_; rintro e w2 ⟨p, er, rfl, k2, h2, -⟩
    obtain ⟨rfl, rfl⟩ := h2 HBAD.out
    have HK := Lib.hid k2
    clear HN k2 h2
    go_wp2_with fail
    go_ret3
    rw [← HR.out]
    exact ⟨_, rfl, Bs.nil _, HK.out⟩
  · rw [if_neg h0] at hR
    obtain ⟨size, rfl⟩ : ∃ z : Nat, size = z := ⟨size.toNat, by omega⟩
    have HR := Lib.hid hR; clear hR
    have HN := Lib.hid (st_hs_new (St.nil w) 1 size false hz2.2 hz2.1 (by unfold hsBad; omega))
    have HB := Lib.hid hb
    clear h0 hb
    go_enter Try.func10, Try.ntmps10
    go_wp2_with fail
    refine HN.out.mono ?_; rintro e w2 ⟨qo, rfl, hS, -⟩
    have HS := Lib.hid hS
    have HBG := Lib.hid (st_begin hS)
    clear HN hS
    go_wp2_with fail
    refine HBG.out.mono ?_; rintro e w3 ⟨qt, rfl, hS, -⟩
    have HOP := Lib.hid (st_open hS v l (by omega) (HB.out.keep hS.kp (by simp)))
    clear HBG hS HS
    go_wp2_with fail
    refine HOP.out.mono ?_; rintro e w4 ⟨qr, rfl, hS, -⟩
    have HS := Lib.hid hS
    clear HOP hS
    have hS5 := HS.out.pushBox (rdCells qt qr qo (SH.start l)) 55
    go_wp2_with fail
    have HS5 : Hid (St w (w4.alloc (.cells #[.pointer (some ⟨qt, 0, none⟩), .int .i64 9, .int .i64 (-1), .pointer (some ⟨qr, 0, none⟩), .pointer (some ⟨qo, 0, none⟩), .int .i64 0] 55)) (ErL w4.heap.size qt qr qo size (SH.start l))) :=
      hS5.sub _ (fun j => [3, 1, 2, 0].getD j 0) (fun j => [3, 1, 2, 0].getD j 0) (fun j hj => by
        rcases j with _ | _ | _ | _ | j
        · exact ⟨rfl, rfl⟩
        · exact ⟨rfl, rfl⟩
        · exact ⟨rfl, rfl⟩
        · exact ⟨rfl, rfl⟩
        · simp [ErL] at hj; omega)
    clear hS5 HS HB
    generalize w4.alloc (.cells #[.pointer (some ⟨qt, 0, none⟩), .int .i64 9, .int .i64 (-1), .pointer (some ⟨qr, 0, none⟩), .pointer (some ⟨qo, 0, none⟩), .int .i64 0] 55) = w5 at HS5 ⊢
    generalize w4.heap.size = q at HS5 ⊢
    have HSO : Hid ((SH.start l).ok size) := SH.start_ok l size (by omega) (by omega)
    obtain ⟨D, hD⟩ : ∃ D, SH.run size (8 * l.length + 1) (SH.start l) = D := ⟨_, rfl⟩
    have HD := Lib.hid hD
    rw [hD] at HR
    clear hD
    go_loopg [] (8 * l.length + 1) (fun g wr => ∃ (s : SH), Hid (St w wr (ErL q qt qr qo size s)) ∧ s.ok size ∧ s.r.l = l ∧ 8 * l.length + 1 ≤ s.r.pos + g ∧ Hid (SH.run size g s = D))
    case atStart => exact ⟨SH.start l, HS5, HSO.out, rfl, by show 8 * l.length + 1 ≤ 0 + _; omega, HD⟩
    case round =>
      obtain ⟨s, HS, hok, hrl, hg, hrun⟩ := hrel
      have hp := hok.rok.1
      rw [hrl] at hp
      obtain ⟨f, rfl⟩ : ∃ f, gk = f + 1 := ⟨gk - 1, by omega⟩
      have hrun2 := hrun.out
      rw [SH.run] at hrun2
      have hst := hok.steps
      have htl := hok.told
      have hsz := hok.size
      have HFU := Lib.hid (st_hs_full HS.out 3 rfl)
      by_cases hx : s.out.length = size
      · rw [if_pos (by omega)] at hrun2
        have hdec : decide (s.out.length = size) = true := by simpa using hx
        rw [hdec] at HFU
        have HRUN := Lib.hid hrun2
        have HOUT : Hid (s.out.length ≤ 140737488350000) := by unfold Hid; omega
        have hlb : s.r.left ≤ 1000000000 := by have := RS.left_le s.r hok.rok; rw [hrl] at this; omega
        have hr := HR.out
        rw [← hrun2] at hr
        rw [if_neg (by simp)] at hr
        have HR2 := Lib.hid hr
        clear hdec hr hrun2 hrun hst htl hsz hok hrl hp hg hx
        go_wp2_with fail
        refine HFU.out.mono ?_; rintro e w6 ⟨rfl, n6, rfl⟩
        have hS6 := HS.out.read ((Keep.refl [] wr).drewN n6)
        generalize wr.drewN n6 = w6 at *
        obtain ⟨-, -, -, c3, -, -⟩ := rd_cells (hS6.blk 0 rfl)
        have HLF := Lib.hid (st_left hS6 2 rfl)
        have HS6 := Lib.hid hS6
        clear HFU hS6
        go_wp2_with fail
        refine HLF.out.mono ?_; rintro e w7 ⟨rfl, n7, rfl⟩
        have HS7 := Lib.hid (HS6.out.read ((Keep.refl [] w6).drewN n7))
        clear HLF c3
        generalize w6.drewN n7 = w7 at *
        obtain ⟨lf, hlf⟩ : ∃ lf, s.r.left = lf := ⟨_, rfl⟩
        have hr := HR2.out
        rw [hlf] at hr hlb ⊢
        clear hlf
        by_cases h8 : 8 ≤ lf
        · rw [if_pos h8] at hr
          have HR3 := Lib.hid hr
          clear hr
          go_wp2_with fail
          go_ret3
          rw [← HR3.out]
          exact ⟨_, rfl, Bs.nil _, HS7.out.kp⟩
        · rw [if_neg h8] at hr
          have HR3 := Lib.hid hr
          have h8' : lf < 8 := by omega
          clear hr h8
          obtain ⟨-, -, -, -, -, c5⟩ := rd_cells (HS7.out.blk 0 rfl)
          have hS8 := HS7.out.read ((Keep.refl [] w7).drew)
          have HBY := Lib.hid (st_hs_bytes hS8 3 rfl HOUT.out)
          have KD : Keep [] w7 w7.drew := (Keep.refl [] w7).drew
          go_upto_region 11 with fail
          go_cut [4, 5, 6] (fun v4 n5 e6 wx => n5 = .int .i64 s.n ∧ e6 = .int .i64 0 ∧ Bs wx v4 s.out ∧ Keep [] w7 wx)
          case first =>
            go_region_with (first | (go_at_call 25; (refine HBY.out.mono ?_); (rintro e w8 ⟨v8, rfl, ho8, k8, b8⟩); (have c5' := (KD.trans k8 (by simp)).cell c5 (by simp))))
            all_goals
              go_wp2_with fail
              go_meet
              exact ⟨rfl, rfl, ho8.bs.keep (by first | exact Keep.refl [] _ | exact (Keep.refl [] _).drew) (by simp), by first | exact KD.trans k8 (by simp) | exact (KD.trans k8 (by simp)).drew⟩
          case rest =>
          obtain ⟨rfl, rfl, hb4, k4⟩ := hcut
          have HB4 := Lib.hid hb4
          have HK4 := Lib.hid k4
          clear hb4 k4 hS8
          go_wp2_with fail
          go_ret3
          rw [← HR3.out]
          exact ⟨_, rfl, HB4.out, HS7.out.kp.trans HK4.out (by simp)⟩
      · rw [if_neg (by omega)] at hrun2
        have hdec : decide (s.out.length = size) = false := by simpa using hx
        rw [hdec] at HFU
        clear hdec
        have hstep := hok.step_ok
        have HOK := Lib.hid hok
        have HRL := Lib.hid hrl
        have HG := Lib.hid hg
        have hn10 : s.n ≤ 10000000000 := by omega
        have HN10 := Lib.hid hn10
        clear hrun hx hst htl hsz hok hrl hp hg hn10
        go_wp2_with fail
        refine HFU.out.mono ?_; rintro e w6 ⟨rfl, n6, rfl⟩
        have hS6 := HS.out.read ((Keep.refl [] wr).drewN n6)
        have HST := Lib.hid (rstep_c q qt qr qo size s hS6 HOK.out HN10.out)
        clear HFU hS6
        generalize wr.drewN n6 = w6 at *
        go_wp2_with fail
        refine HST.out.mono ?_; rintro e w7 ⟨rfl, hk, hS⟩
        have HK := Lib.hid hk
        have HS7 := Lib.hid hS
        clear HST hk hS
        obtain ⟨er, her⟩ : ∃ er, (s.step size).1 = er := ⟨_, rfl⟩
        rw [her] at hrun2 hstep HS7 ⊢
        have HER := Lib.hid her
        clear her
        by_cases h0 : er = 0
        · subst h0
          rw [if_neg (by simp)] at hrun2
          have HRUN := Lib.hid hrun2
          obtain ⟨a, b, c⟩ : (s.step size).2.ok size ∧ s.r.pos + 9 ≤ (s.step size).2.r.pos ∧ (s.step size).2.r.l = s.r.l := by
            rcases hstep with e | e
            · exact absurd rfl e
            · exact e
          have HA := Lib.hid a; have HC := Lib.hid c; have HB := Lib.hid b
          clear hrun2 hstep a b c
          go_wp2_with fail
          go_roundg f
          case rel => exact ⟨(s.step size).2, HS7.out trivial, HA.out, HC.out.trans HRL.out, by have := HB.out; have := HG.out; omega, HRUN⟩
          case measure => omega
        · rw [if_pos h0] at hrun2
          have t1 : ((er : Int) != 0) = true := by simp; omega
          have HH0 := Lib.hid h0
          have HD1 : Hid (D.1 = er) := by unfold Hid; rw [← hrun2]; exact HER.out
          clear hrun2 hstep h0
          go_wp2_with fail
          go_ret3
          have hr := HR.out
          rw [if_pos (by rw [HD1.out]; exact HH0.out), HD1.out] at hr
          rw [← hr]
          exact ⟨_, rfl, Bs.nil _, HK.out⟩
end Go.Proofs.Ytkefidbokeifdaa
