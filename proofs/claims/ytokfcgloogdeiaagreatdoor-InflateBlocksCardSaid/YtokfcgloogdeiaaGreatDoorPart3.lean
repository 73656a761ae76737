/- Texts put together: Append RefKit St Part Clone BitLook2 BitBytes BitLives BitWr BitWr2 StBit RefHst RefBit SfPack OfBits RefWr RefBit2 StCut -/
import Derived.Test.YtokfcgloogdeiaaGreatDoorPart1
import Derived.WalkSpells
import Derived.Laws.AppendOwnNone
import Derived.Deep.RegionLaw
import Derived.StillTailTactics
import Derived.Test.YtokfcgloogdeiaaGreatDoorPart5
import Derived.Test.YtokfcgloogdeiaaGreatDoorPart4
import Derived.BigQuiet
/-! append, at whatever elements: what comes of it, and where. -/
namespace Go.Proofs.YtokfcgloogdeiaaGreatDoor
set_option linter.unusedVariables false
set_option linter.unusedSimpArgs false
open Go.ChangeShapes Go.WideShapes Go.ChangeAt Go.RowKit

/-- x is a slice of m elements whose cells are news -/
def Src (w : World) (size : Nat) (x : Value) (m : Nat) (news : List Value) : Prop :=
  news.length = m * size ∧ (∀ u ∈ news, u.oneCell' = true) ∧ ((x = .slice none 0 0 ∧ m = 0) ∨ ∃ ad c, x = .slice (some ad) m c ∧ ∀ j u, news[j]? = some u → w.cell? (ad.add j) = some u)

theorem run_append_any {P : Program} (w : World) (t ty e : TypeId) (i : TypeInfo) (z : Value) (size bytes : Nat) (ht : P.underlying t = some (.slice e)) (hi : P.info? e = some i) (hz : i.zero = some z)
    (hsize : i.size = size) (hby : i.bytes = bytes) (hzs : z.cells.size = size) (hsz : 0 < size)
    (v : Value) (n : Nat) (xs : List Value) (hown : w.ownsRow 0 e size v n xs)
    (x : Value) (m : Nat) (news : List Value) (hx : Src w size x m news) (h63 : n + m ≤ maxLen) (hbytes : (n + m) * bytes ≤ 140737488355328) :
    ∃ v' w', (Builtin.append_ #[t, t] ty #[v, x]).run P w = .ok v' w' ∧ w'.ownsRow 0 e size v' (n + m) (xs ++ news) ∧ w.grownBy w' v.ownBlock ∧
      (∀ b, v'.ownBlock = some b → v.ownBlock = some b ∨ b = w.heap.size) ∧ (v ≠ .slice none 0 0 → v' ≠ .slice none 0 0) := by
  obtain ⟨hl, h1, ⟨rfl, rfl⟩ | ⟨ad, c, rfl, hnews⟩⟩ := hx
  · obtain rfl : news = [] := List.eq_nil_of_length_eq_zero (by simpa using hl)
    exact ⟨v, w, run_append_owned_none (P := P) (w := w) 0 t ty e i size ht hi v n xs hown, by simpa using hown, World.grownBy.refl _ _, fun b hb => .inl hb, fun h => h⟩
  · obtain ⟨v', w', hr, h2, h3, h4⟩ := run_append_own (P := P) w 0 t ty e i z size bytes ht hi hz hsize hby hzs hsz v n xs hown ad m c news hl hnews h1 h63 hbytes (Nat.zero_le _)
    refine ⟨v', w', hr, h2, h3, ?_, fun h hn => h (h4.1 hn).1⟩
    intro b hb
    subst hsize
    rcases hown.2 with ⟨rfl, rfl⟩ | ⟨g, cap, cur, rfl, _, hg, hnc, hcm, hcs, htake⟩
    · have hx0 : xs = [] := List.eq_nil_of_length_eq_zero (by simpa using hown.1)
      subst hx0
      by_cases hm : m = 0
      · have := h4.2 ⟨rfl, hm⟩
        rw [this] at hb; simp [Value.ownBlock] at hb
      · have hr2 := run_append_nil (P := P) w t ty e i z ht hi hz ad m c news hl hnews (by omega) (by unfold maxLen at h63; omega) (by rw [hby]; have := hbytes; simp only [Nat.zero_add] at this; omega)
        rw [hr2] at hr
        obtain ⟨rfl, _⟩ : _ = v' ∧ _ := by simpa using hr
        right; simpa [Value.ownBlock, eq_comm] using hb
    · by_cases hroom : n + m ≤ cap
      · have hfit : n * i.size + news.length ≤ cur.size := by rw [hl, hcs, ← Nat.add_mul]; exact Nat.mul_le_mul_right _ hroom
        have hr2 := run_append_room (P := P) w t ty e i ht hi g n cap cur hg ad m c news hl hnews h1 hroom hfit
        rw [hr2] at hr
        obtain ⟨rfl, _⟩ : _ = v' ∧ _ := by simpa using hr
        left; exact hb
      · have holds : ∀ j u, xs[j]? = some u → w.cell? ((⟨g, 0, none⟩ : Addr).add j) = some u := hown.cells (g := g) rfl
        have hr2 := run_append_grow (P := P) w t ty e i z ht hi hz ⟨g, 0, none⟩ n cap xs hown.1 holds ad m c news hl hnews (by omega) (by unfold maxLen at h63; omega) (growslice_fits (by omega) (by rw [hby]; exact hbytes))
        rw [hr2] at hr
        obtain ⟨rfl, _⟩ : _ = v' ∧ _ := by simpa using hr
        right; simpa [Value.ownBlock, eq_comm] using hb

theorem wpList_append_any {P : Program} {w : World} {ops : Array Oper} {rest : List Oper} {o : Oper} {a : Act} {Q : Exit → Act → World → Prop} (hgd : o.guard = none) (s x : Operand) (t : TypeId)
    (ho : o.op = .call { callee := .builtin .append, args := #[s, x], argTypes := #[t, t] })
    (e : TypeId) (i : TypeInfo) (z : Value) (size bytes : Nat) (ht : P.underlying t = some (.slice e)) (hi : P.info? e = some i) (hz : i.zero = some z)
    (hsize : i.size = size) (hby : i.bytes = bytes) (hzs : z.cells.size = size) (hsz : 0 < size)
    (v : Value) (n : Nat) (xs : List Value) (hs : a.eval s = v) (hown : w.ownsRow 0 e size v n xs)
    (xv : Value) (m : Nat) (news : List Value) (hx : a.eval x = xv) (hsrc : Src w size xv m news) (h63 : n + m ≤ maxLen) (hbytes : (n + m) * bytes ≤ 140737488355328)
    (h : ∀ v' w', w'.ownsRow 0 e size v' (n + m) (xs ++ news) → Keep v.ownBlock.toList w w' → (∀ b, v'.ownBlock = some b → v.ownBlock = some b ∨ b = w.heap.size) → (v ≠ .slice none 0 0 → v' ≠ .slice none 0 0) → wpList P ops Q rest (a.put o.dst v') w') : wpList P ops Q (o :: rest) a w := by
  obtain ⟨v', w', hr, h2, h3, h4, h5⟩ := run_append_any (P := P) w t o.type e i z size bytes ht hi hz hsize hby hzs hsz v n xs hown xv m news hsrc h63 hbytes
  refine wpList_plain hgd fun K hK => ?_
  unfold Oper.wp execOp
  simp only [ho, resolve, invoke, builtin, Sem.run_bind, Sem.run_pure, Result.andThen_ok, List.map_toArray, List.map_cons, List.map_nil, hs, hx, hr]
  exact hK _ _ (h v' w' h2 ((Keep.refl _ _).grown h3 (fun k hk => .inl (by simp [hk]))) h4 h5)

theorem Bs.src {w : World} {v : Value} {l : List UInt8} (h : Bs w v l) : Src w 1 v l.length (ints8 l) := by
  obtain ⟨a, cap, rfl, h1, h2, h3, h4⟩ := h
  refine ⟨by simp [ints8], by simp [ints8, Value.oneCell'], ?_⟩
  cases a with
  | none =>
    obtain rfl := h3 rfl
    left; have : l.length = 0 := by omega
    simp [this]
  | some x =>
    refine .inr ⟨x, cap, rfl, fun j u hu => ?_⟩
    have hj : j < l.length := by
      have := (List.getElem?_eq_some_iff.1 hu).1; simpa [ints8] using this
    rw [h4 x rfl j hj]
    simpa [ints8, hj] using hu
theorem ints8_append (a b : List UInt8) : ints8 (a ++ b) = ints8 a ++ ints8 b := by simp [ints8]

/-- append of bytes -/
theorem wpList_appendB {w : World} {ops : Array Oper} {rest : List Oper} {o : Oper} {a : Act} {Q : Exit → Act → World → Prop} (s x : Operand) (hgd : o.guard = none)
    (ho : o.op = .call { callee := .builtin .append, args := #[s, x], argTypes := #[22, 22] })
    (v : Value) (l : List UInt8) (hs : a.eval s = v) (hown : OwnB w v l) (xv : Value) (l2 : List UInt8) (hx : a.eval x = xv) (hsrc : Bs w xv l2) (hlen : l.length + l2.length ≤ 140737488355328)
    (h : ∀ v' w', OwnB w' v' (l ++ l2) → Keep v.ownBlock.toList w w' → (∀ b, v'.ownBlock = some b → v.ownBlock = some b ∨ b = w.heap.size) → (v ≠ .slice none 0 0 → v' ≠ .slice none 0 0) → wpList Tryz.prog ops Q rest (a.put o.dst v') w') : wpList Tryz.prog ops Q (o :: rest) a w := by
  obtain ⟨i0, hi, hz0, hz1, hz2⟩ := info_parts info8
  refine wpList_append_any hgd s x 22 ho 5 i0 (.int .u8 0) 1 1 Tryz.underlying22 hi hz0 hz1 hz2 rfl (by decide) v l.length (ints8 l) hs hown xv l2.length (ints8 l2) hx hsrc.src (by unfold maxLen; omega) (by omega) ?_
  intro v' w' h1 h2 h3 h4
  exact h v' w' (by unfold OwnB; rw [List.length_append, ints8_append]; exact h1) h2 h3 h4
/-- append of bytes, as a step of a region that draws -/
theorem step_appendB {w : World} {ops : Array Oper} {o : Oper} {a : Act} {K : Act → World → Prop} {Q : Exit → Act → World → Prop} {E : Prop} (s x : Operand) (hgd : o.guard = none)
    (ho : o.op = .call { callee := .builtin .append, args := #[s, x], argTypes := #[22, 22] })
    (v : Value) (l : List UInt8) (hs : a.eval s = v) (hown : OwnB w v l) (xv : Value) (l2 : List UInt8) (hx : a.eval x = xv) (hsrc : Bs w xv l2) (hlen : l.length + l2.length ≤ 140737488355328)
    (h : ∀ v' w', OwnB w' v' (l ++ l2) → Keep v.ownBlock.toList w w' → (∀ b, v'.ownBlock = some b → v.ownBlock = some b ∨ b = w.heap.size) → (v ≠ .slice none 0 0 → v' ≠ .slice none 0 0) → K (a.put o.dst v') w') :
    if Region.wanted o (yielded ops a.tmps) = true then Oper.wp Tryz.prog o a w K Q else E := by
  have hw : Region.wanted o (yielded ops a.tmps) = true := by simp [Region.wanted, hgd]
  rw [if_pos hw]
  obtain ⟨i0, hi, hz0, hz1, hz2⟩ := info_parts info8
  obtain ⟨v', w', hr, h2, h3, h4, h5⟩ := run_append_any (P := Tryz.prog) w 22 o.type 5 i0 (.int .u8 0) 1 1 Tryz.underlying22 hi hz0 hz1 hz2 rfl (by decide) v l.length (ints8 l) hown xv l2.length (ints8 l2) hsrc.src (by unfold maxLen; omega) (by omega)
  unfold Oper.wp execOp
  simp only [ho, resolve, invoke, builtin, Sem.run_bind, Sem.run_pure, Result.andThen_ok, List.map_toArray, List.map_cons, List.map_nil, hs, hx, hr]
  exact h v' w' (by unfold OwnB; rw [List.length_append, ints8_append]; exact h2) ((Keep.refl _ _).grown h3 (fun k hk => .inl (by simp [hk]))) h4 h5
theorem OwnB.made (w : World) : OwnB (w.alloc (.cells #[] 5)) (.slice (some ⟨w.heap.size, 0, none⟩) 0 0) [] :=
  World.ownsRow_made w #[] 0 (Nat.zero_le _) (by simp [maxLen]) (by simp)
/-- append of bytes behind a guard that lets it -/
theorem wpList_appendBg {w : World} {ops : Array Oper} {rest : List Oper} {o : Oper} {a : Act} {Q : Exit → Act → World → Prop} (s x : Operand) (hw : Region.wanted o (yielded ops a.tmps) = true)
    (ho : o.op = .call { callee := .builtin .append, args := #[s, x], argTypes := #[22, 22] })
    (v : Value) (l : List UInt8) (hs : a.eval s = v) (hown : OwnB w v l) (xv : Value) (l2 : List UInt8) (hx : a.eval x = xv) (hsrc : Bs w xv l2) (hlen : l.length + l2.length ≤ 140737488355328)
    (h : ∀ v' w', OwnB w' v' (l ++ l2) → Keep v.ownBlock.toList w w' → (∀ b, v'.ownBlock = some b → v.ownBlock = some b ∨ b = w.heap.size) → (v ≠ .slice none 0 0 → v' ≠ .slice none 0 0) → wpList Tryz.prog ops Q rest (a.put o.dst v') w') : wpList Tryz.prog ops Q (o :: rest) a w := by
  obtain ⟨i0, hi, hz0, hz1, hz2⟩ := info_parts info8
  obtain ⟨v', w', hr, h2, h3, h4, h5⟩ := run_append_any (P := Tryz.prog) w 22 o.type 5 i0 (.int .u8 0) 1 1 Tryz.underlying22 hi hz0 hz1 hz2 rfl (by decide) v l.length (ints8 l) hown xv l2.length (ints8 l2) hsrc.src (by unfold maxLen; omega) (by omega)
  refine wpList_step fun K hK => ?_
  rw [if_pos hw]
  unfold Oper.wp execOp
  simp only [ho, resolve, invoke, builtin, Sem.run_bind, Sem.run_pure, Result.andThen_ok, List.map_toArray, List.map_cons, List.map_nil, hs, hx, hr]
  exact hK _ _ (h v' w' (by unfold OwnB; rw [List.length_append, ints8_append]; exact h2) ((Keep.refl _ _).grown h3 (fun k hk => .inl (by simp [hk]))) h4 h5)
end Go.Proofs.YtokfcgloogdeiaaGreatDoor
/-! The document's small helpers: rows of bytes held against one another, copied, cut. -/
namespace Go.Proofs.YtokfcgloogdeiaaGreatDoor
set_option linter.unusedVariables false
set_option linter.unusedSimpArgs false
open Go.ChangeShapes Go.WideShapes Go.ChangeAt Go.RowKit

theorem Bs.cases {w : World} {v : Value} {l : List UInt8} (h : Bs w v l) : (l = [] ∧ ∃ a cap, v = .slice a 0 cap ∧ cap ≤ maxLen ∧ (a = none → cap = 0)) ∨
    (0 < l.length ∧ ∃ b off cap, v = .slice (some ⟨b, off, none⟩) l.length cap ∧ l.length ≤ cap ∧ cap ≤ maxLen ∧ b < w.heap.size ∧ ∀ i (hi : i < l.length), w.cell? ⟨b, off + i, none⟩ = some (.int .u8 (l[i].toNat))) := by
  obtain ⟨a, cap, rfl, h1, h2, h3, h4⟩ := h
  by_cases hl : l.length = 0
  · left; exact ⟨List.eq_nil_of_length_eq_zero hl, a, cap, by rw [hl], h2, h3⟩
  · right
    cases a with
    | none => have := h3 rfl; omega
    | some x =>
      obtain ⟨b, off, spot⟩ := x
      have hc := h4 _ rfl 0 (by omega)
      have hspot : spot = none := by simpa [Addr.add] using World.cell?_spot hc
      subst hspot
      refine ⟨by omega, b, off, cap, rfl, h1, h2, World.block_lt_of_cell? w _ hc, fun i hi => ?_⟩
      rw [← h4 _ rfl i hi]
      unfold Addr.add; split <;> simp_all
theorem Bs.shape {w : World} {v : Value} {l : List UInt8} (h : Bs w v l) : ∃ a cap, v = .slice a l.length cap ∧ l.length ≤ cap ∧ cap ≤ maxLen := by
  obtain ⟨a, cap, hv, h1, h2, _⟩ := h; exact ⟨a, cap, hv, h1, h2⟩

theorem Bs.lt {w : World} {v : Value} {l : List UInt8} (h : Bs w v l) (hl : l ≠ []) : ∀ b, v.ownBlock = some b → b < w.heap.size := by
  intro b hb
  rcases h.cases with ⟨h, _⟩ | ⟨_, b2, off, cap, rfl, _, _, hlt, _⟩
  · exact absurd h hl
  · simp only [Value.ownBlock, Option.some.injEq] at hb; omega
theorem cut_c (w : World) (v : Value) (l : List UInt8) (n : Nat) (hn : n ≤ 9223372036854775807) (h : Bs w v l) : Calls Tryz.prog 6 #[v, .int .i64 n] w fun e w' => ∃ v', e = .returned v' ∧ Bs w v' (l.take n) ∧ v'.ownBlock = v.ownBlock ∧ w = w' := by
  have h0 := h
  obtain ⟨a, cap, rfl, h1, h2, h3, h4⟩ := h
  unfold maxLen at h2
  by_cases hl : n < l.length
  · go_enter Tryz.func6, Tryz.ntmps6
    go_wp2
    go_ret
    have e : (l.take n).length = n := by rw [List.length_take]; omega
    refine ⟨_, rfl, ⟨a, cap, by rw [e]; rfl, by omega, by unfold maxLen; omega, h3, fun x hx i hi => ?_⟩, (by cases a <;> rfl), rfl⟩
    rw [e] at hi
    rw [h4 x hx i (by omega)]; simp
  · have ht : Hid (l.take n = l) := List.take_of_length_le (by omega)
    clear h4
    go_enter Tryz.func6, Tryz.ntmps6
    go_wp2
    go_ret
    exact ⟨_, rfl, by rw [ht.out]; exact h0, rfl, rfl⟩
theorem copy_c (w : World) (v : Value) (l : List UInt8) (hl : l.length ≤ 140737488355328) (h : Bs w v l) : Calls Tryz.prog 7 #[v] w fun e w' => ∃ v', e = .returned v' ∧ OwnB w' v' l ∧ Keep [] w w' ∧ ∀ b, v'.ownBlock = some b → w.heap.size ≤ b := by
  have hn := OwnB.nil w
  go_enter Tryz.func7, Tryz.ntmps7
  go_wp2_with (at_builtin; (refine wpList_appendB (.tmp 4) (.tmp 5) rfl rfl (.slice none 0 0) [] rfl hn v l rfl h (by simpa using hl) ?_); (intro v3 w3 ho3 hk3 hb3 hz3))
  go_ret
  exact ⟨v3, rfl, ho3, by simpa [Value.ownBlock] using hk3, fun b hb => by rcases hb3 b hb with h | h; simp [Value.ownBlock] at h; omega⟩

theorem same_ne (w : World) (v v' : Value) (l l' : List UInt8) (h : Bs w v l) (h' : Bs w v' l') (hl : l.length ≠ l'.length) : Calls Tryz.prog 10 #[v, v'] w fun e w' => e = .returned (.bool (decide (l = l'))) ∧ ∃ n, w' = w.drewN n := by
  obtain ⟨a, cap, rfl, h1, h2⟩ := h.shape
  obtain ⟨a', cap', rfl, h1', h2'⟩ := h'.shape
  have hf : decide (l = l') = false := by simp; intro e; rw [e] at hl; exact hl rfl
  have hne : ((l.length : Int) != l'.length) = true := by simp; omega
  have HF := Lib.hid hf; clear hf hl
  unfold maxLen at h2 h2'
  go_enter Tryz.func10, Tryz.ntmps10
  go_wp2
  go_ret
  exact ⟨by rw [HF.out]; rfl, 0, rfl⟩
theorem take_succ_eq {l l' : List UInt8} {k : Nat} (h : k < l.length) (h' : k < l'.length) : (l.take (k + 1) = l'.take (k + 1)) ↔ (l.take k = l'.take k ∧ l[k] = l'[k]) := by
  rw [List.take_succ_eq_append_getElem h, List.take_succ_eq_append_getElem h']
  constructor
  · intro e
    have := List.append_inj e (by simp; omega)
    exact ⟨this.1, by simpa using this.2⟩
  · rintro ⟨e1, e2⟩; rw [e1, e2]
theorem same_c (w : World) (v v' : Value) (l l' : List UInt8) (h : Bs w v l) (h' : Bs w v' l') : Calls Tryz.prog 10 #[v, v'] w fun e w' => e = .returned (.bool (decide (l = l'))) ∧ ∃ n, w' = w.drewN n := by
  by_cases hl : l.length = l'.length
  · rcases h.cases with ⟨rfl, a, cap, rfl, hm, _⟩ | ⟨hp, b, off, cap, rfl, h1, h2, hb, hc⟩
    · obtain rfl : l' = [] := List.eq_nil_of_length_eq_zero hl.symm
      obtain ⟨a', cap', rfl, _⟩ := h'.shape
      go_enter Tryz.func10, Tryz.ntmps10
      go_wp2
      refine wp_loop_rounds 1 ?_
      rw [rounds_succ]
      go_wp2
      go_ret
      exact ⟨by simp, 0, rfl⟩
    · rcases h'.cases with ⟨rfl, _⟩ | ⟨hp', b', off', cap', rfl, h1', h2', hb', hc'⟩
      · simp at hl; rw [hl] at hp; simp at hp
      · have hll := Lib.hid hl
        rw [← hl]
        unfold maxLen at h2 h2'
        rw [← hl] at h1'
        clear hl hp'
        go_enter Tryz.func10, Tryz.ntmps10
        go_wp2
        go_loopw [5] (fun i wr => ∃ k : Nat, k ≤ l.length ∧ i = .int .i64 k ∧ Hid (l.take k = l'.take k) ∧ ∃ n, wr = w.drewN n) (fun i _ => l.length - (intOf i).toNat)
        case atStart => exact ⟨0, by omega, rfl, rfl, 0, rfl⟩
        case round =>
          obtain ⟨k, hk, rfl, HE, n, rfl⟩ := hrel
          by_cases hlt : k < l.length
          · have e1 := hc k hlt
            have hlt' : k < l'.length := by rw [← hll.out]; exact hlt
            have e2 := hc' k hlt'
            have HT := Lib.hid (take_succ_eq hlt hlt')
            by_cases he : l[k] = l'[k]
            · have hb1 : ((l[k].toNat : Int) != l'[k].toNat) = false := by rw [he]; simp
              have HE2 : Hid (l.take (k + 1) = l'.take (k + 1)) := HT.out.2 ⟨HE.out, he⟩
              generalize l[k].toNat = x1 at e1 hb1
              generalize l'[k].toNat = x2 at e2 hb1
              clear hc hc' he
              go_wp2
              go_quiet (fail)
              go_wp2
              go_roundw
              case rel => exact ⟨k + 1, by omega, by go_num, HE2, _, rfl⟩
              case measure => simp [intOf]; omega
            · have hb1 : ((l[k].toNat : Int) != l'[k].toNat) = true := by
                have : l[k].toNat ≠ l'[k].toNat := fun e => he (UInt8.toNat_inj.1 e)
                simp; omega
              have HN : Hid (decide (l = l') = false) := by
                unfold Hid; simp only [decide_eq_false_iff_not]
                intro e; exact he (by simp [e])
              generalize l[k].toNat = x1 at e1 hb1
              generalize l'[k].toNat = x2 at e2 hb1
              clear hc hc' he
              go_wp2
              go_quiet (fail)
              go_wp2
              go_ret
              exact ⟨by rw [HN.out]; rfl, _, World.drewN_drewN _ _ _⟩
          · have HN : Hid (decide (l = l') = true) := by
              unfold Hid; simp only [decide_eq_true_eq]
              have h3 := HE.out
              have h4 := hll.out
              rwa [List.take_of_length_le (by omega), List.take_of_length_le (by omega)] at h3
            clear hc hc'
            go_wp2
            go_ret
            exact ⟨by rw [HN.out]; rfl, _, rfl⟩
  · exact same_ne w v v' l l' h h' hl
theorem Bs.spot {w : World} {v : Value} {l : List UInt8} (h : Bs w v l) (i : Nat) (hi : i < l.length) : ∃ b off cap, v = .slice (some ⟨b, off, none⟩) l.length cap ∧ w.cell? ⟨b, off + i, none⟩ = some (.int .u8 (l[i].toNat)) := by
  rcases h.cases with ⟨rfl, _⟩ | ⟨hp, b, off, cap, rfl, h1, h2, hb, hc⟩
  · simp at hi
  · exact ⟨b, off, cap, rfl, hc i hi⟩
end Go.Proofs.YtokfcgloogdeiaaGreatDoor
namespace Go.Proofs.YtokfcgloogdeiaaGreatDoor
set_option linter.unusedVariables false
set_option linter.unusedSimpArgs false
open Go.ChangeShapes Go.WideShapes Go.ChangeAt Go.RowKit

/-- an object: what it is in a world, with which blocks -/
structure Ob where
  P : World → List Nat → Prop
  keep : ∀ {w w' : World} {bs S : List Nat}, P w bs → Keep S w w' → (∀ b ∈ bs, b ∉ S) → P w' bs
  lt : ∀ {w : World} {bs : List Nat}, P w bs → ∀ b ∈ bs, b < w.heap.size
/-- since W these objects came up, each in blocks of its own, and nothing of W has turned -/
def St (W w : World) (Ps : List Ob) : Prop := Keep [] W w ∧ ∃ own : Nat → Nat, ∀ i (P : Ob), Ps[i]? = some P → ∃ bs, P.P w bs ∧ ∀ b ∈ bs, own b = i ∧ W.heap.size ≤ b
theorem St.nil (W : World) : St W W [] := ⟨Keep.refl _ _, fun _ => 0, fun i P h => by simp at h⟩
theorem St.kp {W w : World} {Ps : List Ob} (h : St W w Ps) : Keep [] W w := h.1
theorem St.read {W w w' : World} {Ps : List Ob} (h : St W w Ps) (k : Keep [] w w') : St W w' Ps := by
  obtain ⟨h1, own, h2⟩ := h
  refine ⟨h1.trans k (by simp), own, fun i P hi => ?_⟩
  obtain ⟨bs, h3, h4⟩ := h2 i P hi
  exact ⟨bs, P.keep h3 k (by simp), h4⟩
theorem St.focus {W w : World} {Ps : List Ob} (h : St W w Ps) (i : Nat) {P : Ob} (hi : Ps[i]? = some P) : ∃ bs, P.P w bs ∧ (∀ b ∈ bs, W.heap.size ≤ b) ∧
    ∀ (w' : World) (P' : Ob) (bs' : List Nat), P'.P w' bs' → Keep bs w w' → (∀ b ∈ bs', b ∈ bs ∨ w.heap.size ≤ b) → St W w' (Ps.set i P') := by
  obtain ⟨h1, own, h2⟩ := h
  obtain ⟨bs, h3, h4⟩ := h2 i P hi
  refine ⟨bs, h3, fun b hb => (h4 b hb).2, fun w' P' bs' h5 h6 h7 => ?_⟩
  refine ⟨h1.trans h6 (fun x hx => .inr (h4 x hx).2), fun b => if b < w.heap.size then own b else i, fun j Q hj => ?_⟩
  by_cases e : i = j
  · subst e
    have hl : i < Ps.length := by
      rcases Nat.lt_or_ge i Ps.length with h | h
      · exact h
      · rw [List.getElem?_eq_none h] at hi; cases hi
    rw [List.getElem?_set_self hl] at hj
    cases hj
    refine ⟨bs', h5, fun b hb => ?_⟩
    rcases h7 b hb with h8 | h8
    · have := P.lt h3 b h8; dsimp only; rw [if_pos this]; exact h4 b h8
    · dsimp only; rw [if_neg (by omega)]; exact ⟨rfl, Nat.le_trans h1.size h8⟩
  · rw [List.getElem?_set_ne e] at hj
    obtain ⟨cs, h8, h9⟩ := h2 j Q hj
    refine ⟨cs, Q.keep h8 h6 (fun b hb hm => e ((h4 b hm).1.symm.trans (h9 b hb).1)), fun b hb => ?_⟩
    dsimp only; rw [if_pos (Q.lt h8 b hb)]; exact h9 b hb
theorem St.push {W w w' : World} {Ps : List Ob} (h : St W w Ps) (P : Ob) (bs : List Nat) (hp : P.P w' bs) (k : Keep [] w w') (hb : ∀ b ∈ bs, w.heap.size ≤ b) : St W w' (Ps ++ [P]) := by
  obtain ⟨h1, own, h2⟩ := h
  refine ⟨h1.trans k (by simp), fun b => if b < w.heap.size then own b else Ps.length, fun j Q hj => ?_⟩
  rcases Nat.lt_or_ge j Ps.length with hl | hl
  · rw [List.getElem?_append_left hl] at hj
    obtain ⟨cs, h8, h9⟩ := h2 j Q hj
    refine ⟨cs, Q.keep h8 k (by simp), fun b hb => ?_⟩
    dsimp only; rw [if_pos (Q.lt h8 b hb)]; exact h9 b hb
  · rw [List.getElem?_append_right hl] at hj
    obtain ⟨hj0, rfl⟩ : j - Ps.length = 0 ∧ P = Q := by
      cases e : j - Ps.length with
      | zero => rw [e] at hj; exact ⟨rfl, by simpa using hj⟩
      | succ n => rw [e] at hj; simp at hj
    refine ⟨bs, hp, fun b hb' => ?_⟩
    dsimp only; rw [if_neg (by have := hb b hb'; omega)]
    exact ⟨by omega, Nat.le_trans h1.size (hb b hb')⟩
/-- all but the last one -/
theorem St.pop {W w : World} {Ps : List Ob} {P : Ob} (h : St W w (Ps ++ [P])) : St W w Ps := by
  obtain ⟨h1, own, h2⟩ := h
  refine ⟨h1, own, fun i Q hi => h2 i Q ?_⟩
  have hl : i < Ps.length := by
    rcases Nat.lt_or_ge i Ps.length with h | h
    · exact h
    · rw [List.getElem?_eq_none h] at hi; cases hi
  rw [List.getElem?_append_left hl]; exact hi
/-- some of the objects, in another order: the j-th is the (f j)-th one -/
theorem St.sub {W w : World} {Ps : List Ob} (h : St W w Ps) (Qs : List Ob) (f g : Nat → Nat) (hf : ∀ j, j < Qs.length → Ps[f j]? = Qs[j]? ∧ g (f j) = j) : St W w Qs := by
  obtain ⟨h1, own, h2⟩ := h
  refine ⟨h1, fun b => g (own b), fun j Q hj => ?_⟩
  have hl : j < Qs.length := by
    rcases Nat.lt_or_ge j Qs.length with h | h
    · exact h
    · rw [List.getElem?_eq_none h] at hj; cases hj
  obtain ⟨e1, e2⟩ := hf j hl
  obtain ⟨bs, h3, h4⟩ := h2 (f j) Q (by rw [e1]; exact hj)
  refine ⟨bs, h3, fun b hb => ⟨?_, (h4 b hb).2⟩⟩
  dsimp only
  rw [(h4 b hb).1]; exact e2
/-- two objects have no block in common -/
theorem St.apart {W w : World} {Ps : List Ob} (h : St W w Ps) (i j : Nat) (hij : i ≠ j) {P Q : Ob} (hi : Ps[i]? = some P) (hj : Ps[j]? = some Q) : ∃ bs cs, P.P w bs ∧ Q.P w cs ∧ (∀ b ∈ bs, b ∉ cs) ∧ (∀ b ∈ bs, W.heap.size ≤ b) ∧
    ∀ (w' : World) (P' : Ob) (bs' : List Nat), P'.P w' bs' → Keep bs w w' → (∀ b ∈ bs', b ∈ bs ∨ w.heap.size ≤ b) → St W w' (Ps.set i P') := by
  obtain ⟨h1, own, h2⟩ := h
  obtain ⟨bs, h3, h4⟩ := h2 i P hi
  obtain ⟨cs, g3, g4⟩ := h2 j Q hj
  refine ⟨bs, cs, h3, g3, fun b hb hc => hij ((h4 b hb).1.symm.trans (g4 b hc).1), fun b hb => (h4 b hb).2, fun w' P' bs' h5 h6 h7 => ?_⟩
  refine ⟨h1.trans h6 (fun x hx => .inr (h4 x hx).2), fun b => if b < w.heap.size then own b else i, fun k R hk => ?_⟩
  by_cases e : i = k
  · subst e
    have hl : i < Ps.length := by
      rcases Nat.lt_or_ge i Ps.length with h | h
      · exact h
      · rw [List.getElem?_eq_none h] at hi; cases hi
    rw [List.getElem?_set_self hl] at hk
    cases hk
    refine ⟨bs', h5, fun b hb => ?_⟩
    rcases h7 b hb with h8 | h8
    · have := P.lt h3 b h8; dsimp only; rw [if_pos this]; exact h4 b h8
    · dsimp only; rw [if_neg (by omega)]; exact ⟨rfl, Nat.le_trans h1.size h8⟩
  · rw [List.getElem?_set_ne e] at hk
    obtain ⟨ds, h8, h9⟩ := h2 k R hk
    refine ⟨ds, R.keep h8 h6 (fun b hb hm => e ((h4 b hm).1.symm.trans (h9 b hb).1)), fun b hb => ?_⟩
    dsimp only; rw [if_pos (R.lt h8 b hb)]; exact h9 b hb
/-- what an object is there -/
theorem St.get {W w : World} {Ps : List Ob} (h : St W w Ps) (i : Nat) {P : Ob} (hi : Ps[i]? = some P) : ∃ bs, P.P w bs ∧ ∀ b ∈ bs, W.heap.size ≤ b := by
  obtain ⟨bs, h1, h2, _⟩ := h.focus i hi
  exact ⟨bs, h1, h2⟩
/-- a block of cells -/
def Ob.box (q : Nat) (cs : Array Value) (ty : TypeId) : Ob where
  P w bs := bs = [q] ∧ Blk w q cs ty
  keep := fun ⟨h1, h2⟩ k hb => ⟨h1, h2.keep k (hb _ (by simp [h1]))⟩
  lt := fun ⟨h1, h2⟩ b hb => by subst h1; simp at hb; subst hb; exact h2.lt
theorem St.blk {W w : World} {Ps : List Ob} (h : St W w Ps) (i : Nat) {q : Nat} {cs : Array Value} {ty : TypeId} (hi : Ps[i]? = some (Ob.box q cs ty)) : Blk w q cs ty := by
  obtain ⟨bs, ⟨_, h1⟩, _⟩ := h.get i hi; exact h1
theorem St.own {W w : World} {Ps : List Ob} (h : St W w Ps) (i : Nat) {q : Nat} {cs : Array Value} {ty : TypeId} (hi : Ps[i]? = some (Ob.box q cs ty)) : W.heap.size ≤ q := by
  obtain ⟨bs, ⟨rfl, h1⟩, h2⟩ := h.get i hi; exact h2 q (by simp)
/-- one cell of a block turned -/
theorem St.setBox {W w : World} {Ps : List Ob} (h : St W w Ps) (i : Nat) {q : Nat} {cs : Array Value} {ty : TypeId} (hi : Ps[i]? = some (Ob.box q cs ty)) (j : Nat) (u : Value) : St W (w.setCell ⟨q, j, none⟩ u) (Ps.set i (Ob.box q (cs.setIfInBounds j u) ty)) := by
  obtain ⟨bs, ⟨rfl, h1⟩, h2, h3⟩ := h.focus i hi
  exact h3 _ _ [q] ⟨rfl, h1.set j u⟩ ((Keep.refl _ w).setCell (.inl (by simp)) u) (fun b hb => .inl hb)
/-- a block of cells, whatever they are -/
theorem St.pushBox {W w : World} {Ps : List Ob} (h : St W w Ps) (cs : Array Value) (ty : TypeId) : St W (w.alloc (.cells cs ty)) (Ps ++ [Ob.box w.heap.size cs ty]) :=
  h.push _ [w.heap.size] ⟨rfl, Blk.new _ _ _⟩ ((Keep.refl _ _).alloc _) (by simp)
/-- a slice of bytes -/
def Ob.bytes (v : Value) (l : List UInt8) : Ob where
  P w bs := bs = (if l = [] then [] else v.ownBlock.toList) ∧ Bs w v l
  keep := fun ⟨h1, h2⟩ k hb => ⟨h1, h2.keep' k (fun hl b hb' => hb b (by rw [h1, if_neg hl]; simp [hb']))⟩
  lt := fun {w bs} ⟨h1, h2⟩ b hb => by
    subst h1
    split at hb
    · simp at hb
    · rename_i hl; exact h2.lt hl b (by simpa using hb)
theorem St.bs {W w : World} {Ps : List Ob} (h : St W w Ps) (i : Nat) {v : Value} {l : List UInt8} (hi : Ps[i]? = some (Ob.bytes v l)) : Bs w v l := by
  obtain ⟨bs, ⟨_, h1⟩, _⟩ := h.get i hi; exact h1
theorem St.pushBs {W w w' : World} {Ps : List Ob} (h : St W w Ps) {v : Value} {l : List UInt8} (hb : Bs w' v l) (k : Keep [] w w') (hf : ∀ b, v.ownBlock = some b → w.heap.size ≤ b) : St W w' (Ps ++ [Ob.bytes v l]) :=
  h.push _ _ ⟨rfl, hb⟩ k (fun b hb => by
    split at hb
    · simp at hb
    · exact hf b (by simpa using hb))
/-- a row of bytes of one's own -/
def Ob.row (v : Value) (l : List UInt8) : Ob where
  P w bs := bs = v.ownBlock.toList ∧ OwnB w v l
  keep := fun ⟨h1, h2⟩ k hb => ⟨h1, h2.keep k (fun b hb' => hb b (by rw [h1]; simp [hb']))⟩
  lt := fun {w bs} ⟨h1, h2⟩ b hb => by subst h1; exact h2.lt b (by simpa using hb)
end Go.Proofs.YtokfcgloogdeiaaGreatDoor
namespace Go.Proofs.YtokfcgloogdeiaaGreatDoor
set_option linter.unusedVariables false
set_option linter.unusedSimpArgs false
open Go.ChangeShapes Go.WideShapes Go.ChangeAt Go.RowKit

theorem Bs.part {w : World} {l : List UInt8} {g cap : Nat} (hc : l.length ≤ cap) (hm : cap ≤ maxLen) (hcell : ∀ i (hi : i < l.length), w.cell? ⟨g, i, none⟩ = some (.int .u8 (l[i].toNat))) (p n : Nat) (h : p + n ≤ l.length) (hp : p < cap) :
    Bs w (.slice (some ⟨g, p, none⟩) n (cap - p)) ((l.drop p).take n) := by
  have e : ((l.drop p).take n).length = n := by simp; omega
  refine ⟨some ⟨g, p, none⟩, cap - p, by rw [e], by omega, by omega, (fun h => nomatch h), fun x hx i hi => ?_⟩
  obtain rfl : (⟨g, p, none⟩ : Addr) = x := by simpa using hx
  rw [e] at hi
  rw [show (⟨g, p, none⟩ : Addr).add i = ⟨g, p + i, none⟩ by unfold Addr.add; split <;> simp_all, hcell (p + i) (by omega)]
  simp
/-- a piece whose capacity is its length -/
theorem Bs.part3 {w : World} {l : List UInt8} {g cap : Nat} (hc : l.length ≤ cap) (hm : cap ≤ maxLen) (hcell : ∀ i (hi : i < l.length), w.cell? ⟨g, i, none⟩ = some (.int .u8 (l[i].toNat))) (p n : Nat) (h : p + n ≤ l.length) :
    Bs w (.slice (some ⟨g, p, none⟩) n n) ((l.drop p).take n) := by
  have e : ((l.drop p).take n).length = n := by simp; omega
  refine ⟨some ⟨g, p, none⟩, n, by rw [e], by omega, by omega, (fun h => nomatch h), fun x hx i hi => ?_⟩
  obtain rfl : (⟨g, p, none⟩ : Addr) = x := by simpa using hx
  rw [e] at hi
  rw [show (⟨g, p, none⟩ : Addr).add i = ⟨g, p + i, none⟩ by unfold Addr.add; split <;> simp_all, hcell (p + i) (by omega)]
  simp
theorem Bs.none_of_len {w : World} (a : Option Addr) (h : a ≠ none) : Bs w (.slice a 0 0) [] :=
  ⟨a, 0, rfl, by simp, by simp, fun _ => rfl, fun _ _ i hi => by simp at hi⟩

theorem Bs.new1 (w : World) (c : UInt8) : Bs (w.alloc (.cells #[.int .u8 (c.toNat)] 5)) (.slice (some ⟨w.heap.size, 0, none⟩) 1 1) [c] := by
  refine ⟨some ⟨w.heap.size, 0, none⟩, 1, rfl, by simp, by simp [maxLen], (fun h => nomatch h), fun x hx i hi => ?_⟩
  obtain rfl : (⟨w.heap.size, 0, none⟩ : Addr) = x := by simpa using hx
  obtain rfl : i = 0 := by simpa using hi
  exact (Blk.new w #[.int .u8 (c.toNat)] 5).cell 0 _ rfl
/-- a literal of bytes -/
theorem Bs.lit (w : World) (l : List UInt8) (cs : Array Value) (n : Nat) (hc : cs.toList = ints8 l) (hn : l.length = n) (hl : n ≤ maxLen) : Bs (w.alloc (.cells cs 5)) (.slice (some ⟨w.heap.size, 0, none⟩) n n) l := by
  subst hn
  refine ⟨some ⟨w.heap.size, 0, none⟩, l.length, rfl, Nat.le_refl _, hl, (fun h => nomatch h), fun x hx i hi => ?_⟩
  obtain rfl : (⟨w.heap.size, 0, none⟩ : Addr) = x := by simpa using hx
  rw [show (⟨w.heap.size, 0, none⟩ : Addr).add i = ⟨w.heap.size, i, none⟩ by unfold Addr.add; split <;> simp_all]
  refine (Blk.new w cs 5).cell i _ ?_
  rw [← Array.getElem?_toList, hc]
  simp [ints8, hi]
/-- a text written out, as bytes -/
theorem Bs.litF (w : World) (l : List UInt8) (cs : Array Value) (n : Nat) (fr : Nat × Nat) (hc : cs.toList = ints8 l) (hn : l.length = n) (hl : n ≤ maxLen) : Bs (w.alloc (.cells cs 5 fr)) (.slice (some ⟨w.heap.size, 0, none⟩) n n) l := by
  subst hn
  refine ⟨some ⟨w.heap.size, 0, none⟩, l.length, rfl, Nat.le_refl _, hl, (fun h => nomatch h), fun x hx i hi => ?_⟩
  obtain rfl : (⟨w.heap.size, 0, none⟩ : Addr) = x := by simpa using hx
  rw [show (⟨w.heap.size, 0, none⟩ : Addr).add i = ⟨w.heap.size, i, none⟩ by unfold Addr.add; split <;> simp_all]
  rw [cell_of_row _ w.heap.size i cs _ fr (heap_alloc_new w _), ← Array.getElem?_toList, hc]
  simp [ints8, hi]
end Go.Proofs.YtokfcgloogdeiaaGreatDoor
namespace Go.Proofs.YtokfcgloogdeiaaGreatDoor
set_option linter.unusedVariables false
set_option linter.unusedSimpArgs false
open Go.ChangeShapes Go.WideShapes Go.ChangeAt Go.RowKit

/-- slices.Clone of bytes -/
theorem clone_nil (w : World) : Calls Tryz.prog 43 #[.slice none 0 0] w fun e w' => e = .returned (.slice none 0 0) ∧ w = w' := by
  have hn := Lib.run_eql_slice_nil (P := Tryz.prog) w 22 5 none 0 0 0 0 Tryz.underlying22
  go_enter Tryz.func43, Tryz.ntmps43
  go_wp2
  go_ret
  exact ⟨rfl, rfl⟩
theorem clone_c (w : World) (v : Value) (l : List UInt8) (hl : l.length ≤ 140737488355328) (h : Bs w v l) : Calls Tryz.prog 43 #[v] w fun e w' => ∃ v', e = .returned v' ∧ OwnB w' v' l ∧ Keep [] w w' ∧ ∀ b, v'.ownBlock = some b → w.heap.size ≤ b := by
  have h0 := h
  obtain ⟨a, cap, rfl, h1, h2, h3, h4⟩ := h
  cases a with
  | none =>
    obtain rfl := h3 rfl
    obtain rfl : l = [] := List.eq_nil_of_length_eq_zero (by omega)
    exact (clone_nil w).mono fun e w' ⟨he, hw⟩ => ⟨_, he, hw ▸ OwnB.nil w, hw ▸ Keep.refl _ _, fun b hb => by simp [Value.ownBlock] at hb⟩
  | some x =>
    have hc := h4 x rfl
    have hn := Lib.run_eql_slice_nil (P := Tryz.prog) w 22 5 (some x) l.length cap 0 0 Tryz.underlying22
    clear h4 h3
    have hb : Bs (w.alloc (.cells #[] 5)) (.slice (some x) l.length cap) l := h0.keep ((Keep.refl [] w).alloc _) (by simp)
    have hm := OwnB.made w
    clear h0
    go_enter Tryz.func43, Tryz.ntmps43
    go_wp2_with (at_builtin; refine wpList_appendB (.tmp 5) (.tmp 6) rfl rfl (.slice (some ⟨w.heap.size, 0, none⟩) 0 0) [] rfl hm (.slice (some x) l.length cap) l rfl hb (by simpa using hl) ?_; intro v' w' ho hk hv hz)
    go_ret
    refine ⟨v', rfl, ho, (((Keep.refl [] w).alloc _).trans hk (by simp [Value.ownBlock])), fun b hb => ?_⟩
    rcases hv b hb with h | h
    · simp only [Value.ownBlock, Option.some.injEq] at h; omega
    · simp at h; omega

end Go.Proofs.YtokfcgloogdeiaaGreatDoor
namespace Go.Proofs.YtokfcgloogdeiaaGreatDoor
set_option linter.unusedVariables false
set_option linter.unusedSimpArgs false
open Go.ChangeShapes Go.WideShapes Go.ChangeAt Go.RowKit

theorem mask_u64 (x k n : Nat) (hx : x < 18446744073709551616) (hn : n ≤ 32) : Go.bits .and .u64 ((x : Int) / 2 ^ k) (IntKind.u64.wrap (IntKind.u64.wrap (2 ^ n) - 1)) % 4294967296 = ((x / 2 ^ k % 2 ^ n : Nat) : Int) := by
  have h2 : 2 ^ n ≤ 2 ^ 32 := Nat.pow_le_pow_right (by decide) hn
  have h3 : 0 < 2 ^ n := Nat.two_pow_pos n
  have e1 : IntKind.u64.wrap (IntKind.u64.wrap (2 ^ n) - 1) = ((2 ^ n - 1 : Nat) : Int) := by
    rw [show ((2 : Int) ^ n) = ((2 ^ n : Nat) : Int) by simp, IntKind.wrap_u64, IntKind.wrap_u64]
    generalize 2 ^ n = q at h2 h3
    omega
  have hd : x / 2 ^ k < 18446744073709551616 := Nat.lt_of_le_of_lt (Nat.div_le_self _ _) hx
  rw [e1, show ((x : Int) / 2 ^ k) = ((x / 2 ^ k : Nat) : Int) by simp, u64_and_nat _ _ hd (by omega), Nat.and_two_pow_sub_one_eq_mod]
  have h4 : x / 2 ^ k % 2 ^ n < 2 ^ n := Nat.mod_lt _ h3
  generalize x / 2 ^ k % 2 ^ n = z at h4
  omega
def okN (n : Int) : Prop := 0 ≤ n ∧ n ≤ 32
theorem look_bad (w : World) (p : Option Addr) (n : Int) (hn : ¬ okN n) : Calls Tryz.prog 62 #[.pointer p, .int .i64 n] w fun e w' => e = .returned (.tuple #[.int .u32 0, .int .i64 0]) ∧ w = w' := by
  unfold okN at hn
  by_cases h0 : n < 0
  · have h1 : decide (n < 0) = true := by simpa using h0
    go_enter Tryz.func62, Tryz.ntmps62
    go_wp2
    go_ret2
    exact ⟨rfl, rfl⟩
  · have h1 : 32 < n := by omega
    go_enter Tryz.func62, Tryz.ntmps62
    go_wp2
    go_ret2
    exact ⟨rfl, rfl⟩
theorem look_err (w : World) (r : Nat) (v : Value) (s : RS) (n : Int) (h : Rd w r v s) (hE : s.E ≠ 0) : Calls Tryz.prog 62 #[.pointer (some ⟨r, 0, none⟩), .int .i64 n] w fun e w' => e = .returned (.tuple #[.int .u32 0, .int .i64 0]) ∧ w = w' := by
  by_cases hn : okN n
  · unfold okN at hn
    obtain ⟨h0, h1⟩ := hn
    have he2 : ((s.E : Int) != 0) = true := by simp; omega
    clear hE
    go_enter Tryz.func62, Tryz.ntmps62
    go_wp2_with (refine (err_c _ _ _ _ h).mono ?_; rintro e w' ⟨rfl, rfl⟩)
    go_ret2
    exact ⟨rfl, rfl⟩
  · exact look_bad w _ n hn
theorem look_nil (w : World) (n : Int) : Calls Tryz.prog 62 #[.pointer none, .int .i64 n] w fun e w' => e = .returned (.tuple #[.int .u32 0, .int .i64 0]) ∧ w = w' := by
  by_cases hn : okN n
  · unfold okN at hn
    obtain ⟨h0, h1⟩ := hn
    go_enter Tryz.func62, Tryz.ntmps62
    go_wp2_with (refine (err_nil _).mono ?_; rintro e w' ⟨rfl, rfl⟩)
    go_ret2
    exact ⟨rfl, rfl⟩
  · exact look_bad w _ n hn
theorem look_ok (w : World) (r : Nat) (v : Value) (s : RS) (n : Nat) (h : Rd w r v s) (hE : s.E = 0) (hn : n ≤ 32) : Calls Tryz.prog 62 #[.pointer (some ⟨r, 0, none⟩), .int .i64 n] w fun e w' => e = .returned (.tuple #[.int .u32 (num s.l s.pos n), .int .i64 (min n s.left : Nat)]) ∧ ∃ m, w' = w.drewN m := by
  have he2 : ((s.E : Int) != 0) = false := by simp [hE]
  have c1 := h.1.cell 1 _ rfl
  obtain ⟨a, cap, rfl, _⟩ := h.2.1.bs
  have hk := h.2.2.1
  unfold RS.ok at hk
  obtain ⟨k1, k2, k3⟩ := hk
  go_enter Tryz.func62, Tryz.ntmps62
  go_wp2_with (refine (err_c _ _ _ _ h).mono ?_; rintro e w' ⟨rfl, rfl⟩)
  have hp : s.pos / 8 ≤ s.l.length := by omega
  go_quiet ((go_at_call 76; exact Calls.quiet_of (window_c _ r _ s (s.pos / 8) hp (h.drewN _))))
  go_wp2
  generalize hx : num s.l (8 * (s.pos / 8)) 64 = x
  have hxl : x < 18446744073709551616 := by rw [← hx]; exact num_lt _ _ _
  have HV : Hid (x / 2 ^ (s.pos % 8) % 2 ^ n = num s.l s.pos n) := by
    unfold Hid; rw [← hx, num_cut _ _ _ _ _ (by omega), show 8 * (s.pos / 8) + s.pos % 8 = s.pos by omega]
  clear hx
  have h2 := h.drewN nq
  generalize hw2 : w.drewN nq = w2 at h2 ⊢
  have HW : Hid (∃ m, w2 = w.drewN m) := ⟨_, hw2.symm⟩
  clear hw2
  by_cases hm : n ≤ s.left <;> have HF : Hid (min n s.left = if n ≤ s.left then n else s.left) := by { unfold Hid; split <;> omega }
  · go_quiet ((go_at_call 25; exact Calls.quiet_of (left_c _ r _ s (h2.drewN _))))
    go_wp2
    go_ret2
    obtain ⟨m, hmw⟩ := HW.out
    refine ⟨?_, m + nq, ?_⟩
    · rw [HF.out, HV.out.symm]
      exact ret_ints (mask_u64 x (s.pos % 8) n hxl hn) (by first | rw [if_pos hm] | rw [if_neg hm])
    · rw [hmw, World.drewN_drewN]
  · go_quiet ((go_at_call 25; exact Calls.quiet_of (left_c _ r _ s (h2.drewN _))))
    go_wp2
    go_ret2
    obtain ⟨m, hmw⟩ := HW.out
    refine ⟨?_, m + nq, ?_⟩
    · rw [HF.out, HV.out.symm]
      exact ret_ints (mask_u64 x (s.pos % 8) n hxl hn) (by first | rw [if_pos hm] | rw [if_neg hm])
    · rw [hmw, World.drewN_drewN]

/-- what Bits(n) answers, and the state behind it -/
def RS.bits (s : RS) (n : Int) : Nat × RS :=
  if n < 0 ∨ 32 < n then (0, s.fail 2)
  else if s.E ≠ 0 then (0, if 0 < n then s.fail 3 else s)
  else if (s.left : Int) < n then (0, s.fail 3)
  else (num s.l s.pos n.toNat, { s with pos := s.pos + n.toNat })
theorem RS.fail_fail (s : RS) (e : Nat) (h : s.E ≠ 0) : s.fail e = s := by unfold RS.fail; rw [if_neg h]
theorem bits_c (w : World) (r : Nat) (v : Value) (s : RS) (n : Int) (h : Rd w r v s) : Calls Tryz.prog 45 #[.pointer (some ⟨r, 0, none⟩), .int .i64 n] w fun e w' => e = .returned (.int .u32 (s.bits n).1) ∧ Rd w' r v (s.bits n).2 ∧ Keep [r] w w' := by
  by_cases hb : n < 0 ∨ 32 < n
  · have hf : s.bits n = (0, s.fail 2) := by unfold RS.bits; rw [if_pos hb]
    have HF := Lib.hid hf; clear hf
    by_cases h0 : n < 0
    · have h1 : decide (n < 0) = true := by simpa using h0
      clear hb
      go_enter Tryz.func45, Tryz.ntmps45
      go_wp2_with (refine (fail_c _ _ _ _ 2 (by decide) h).mono ?_; rintro e w' ⟨rfl, hr, hk⟩)
      go_ret
      exact ⟨by rw [HF.out]; rfl, by rw [HF.out]; assumption, by assumption⟩
    · have h1 : 32 < n := by omega
      clear hb
      go_enter Tryz.func45, Tryz.ntmps45
      go_wp2_with (refine (fail_c _ _ _ _ 2 (by decide) h).mono ?_; rintro e w' ⟨rfl, hr, hk⟩)
      go_ret
      exact ⟨by rw [HF.out]; rfl, by rw [HF.out]; assumption, by assumption⟩
  · have h0 : 0 ≤ n := by omega
    have h1 : n ≤ 32 := by omega
    clear hb
    obtain ⟨n, rfl⟩ := Int.eq_ofNat_of_zero_le h0
    by_cases hE : s.E = 0
    · have hs := RS.left_le s h.2.2.1
      have hp1 := h.2.2.1.1
      by_cases hl : (s.left : Int) < n
      · have hf : s.bits n = (0, s.fail 3) := by unfold RS.bits; rw [if_neg (by omega), if_neg (by simpa using hE), if_pos hl]
        have HF := Lib.hid hf; clear hf
        have hm : min n s.left = s.left := by omega
        have hk := Lib.hid (look_ok w r v s n h hE (by omega))
        have hE1 := Lib.hid hE; clear hE
        have hm1 := Lib.hid hm; clear hm
        go_enter Tryz.func45, Tryz.ntmps45
        go_wp2_with fail
        refine hk.out.mono ?_; rintro e w' ⟨rfl, m, rfl⟩
        rw [hm1.out]
        go_wp2_with (refine (fail_c _ _ _ _ 3 (by decide) (h.drewN _)).mono ?_; rintro e w' ⟨rfl, hr, hk⟩)
        go_ret
        rename_i hr hk
        exact ⟨by rw [HF.out]; rfl, by rw [HF.out]; exact hr, ((Keep.refl [] w).drewN m).nil.trans hk (by simp)⟩
      · have hf : s.bits n = (num s.l s.pos n, { s with pos := s.pos + n }) := by unfold RS.bits; rw [if_neg (by omega), if_neg (by simpa using hE), if_neg hl]; simp
        have HF := Lib.hid hf; clear hf
        have hm : min n s.left = n := by omega
        have hk := Lib.hid (look_ok w r v s n h hE (by omega))
        have hn : s.pos + n ≤ 8 * s.l.length := by omega
        have hE1 := Lib.hid hE; clear hE
        have hm1 := Lib.hid hm; clear hm
        go_enter Tryz.func45, Tryz.ntmps45
        go_wp2_with fail
        refine hk.out.mono ?_; rintro e w' ⟨rfl, m, rfl⟩
        rw [hm1.out]
        go_wp2_with (refine (skip_c _ _ _ _ n hn (h.drewN _)).mono ?_; rintro e w' ⟨rfl, hr, hk⟩)
        go_ret
        rename_i hr hk
        exact ⟨by rw [HF.out]; rfl, by rw [HF.out]; exact hr, ((Keep.refl [] w).drewN m).nil.trans hk (by simp)⟩
    · have hk := Lib.hid (look_err w r v s n h hE)
      by_cases hz : 0 < (n : Int)
      · have hf : s.bits n = (0, s.fail 3) := by unfold RS.bits; rw [if_neg (by omega), if_pos hE, if_pos hz]
        have HF := Lib.hid hf; clear hf
        go_enter Tryz.func45, Tryz.ntmps45
        go_wp2_with fail
        refine hk.out.mono ?_; rintro e w' ⟨rfl, rfl⟩
        go_wp2_with (refine (fail_c _ _ _ _ 3 (by decide) h).mono ?_; rintro e w' ⟨rfl, hr, hk⟩)
        go_ret
        rename_i hr hk
        exact ⟨by rw [HF.out]; rfl, by rw [HF.out]; exact hr, hk⟩
      · have hn0 : n = 0 := by omega
        subst hn0
        have hf : s.bits (0 : Nat) = (0, s) := by unfold RS.bits; rw [if_neg (by omega), if_pos hE, if_neg (by omega)]
        have HF := Lib.hid hf; clear hf
        have hs := h.2.2.1.1
        have hsk := Lib.hid (skip_c w r v s 0 (by omega) h)
        go_enter Tryz.func45, Tryz.ntmps45
        go_wp2_with fail
        refine hk.out.mono ?_; rintro e w' ⟨rfl, rfl⟩
        go_wp2_with (refine hsk.out.mono ?_; rintro e w' ⟨rfl, hr, hk⟩)
        go_ret
        exact ⟨by rw [HF.out]; rfl, by rw [HF.out]; exact hr, hk⟩

theorem bit_c (w : World) (r : Nat) (v : Value) (s : RS) (h : Rd w r v s) : Calls Tryz.prog 44 #[.pointer (some ⟨r, 0, none⟩)] w fun e w' => e = .returned (.int .u32 (s.bits 1).1) ∧ Rd w' r v (s.bits 1).2 ∧ Keep [r] w w' := by
  go_enter Tryz.func44, Tryz.ntmps44
  go_wp2_with (refine (bits_c _ _ _ _ 1 h).mono ?_; rintro e w' ⟨rfl, hr, hk⟩)
  go_ret
  exact ⟨rfl, hr, hk⟩
theorem bits_nil (w : World) (n : Int) : Calls Tryz.prog 45 #[.pointer none, .int .i64 n] w fun e w' => e = .returned (.int .u32 0) ∧ w = w' := by
  by_cases h0 : n < 0
  · have h1 : decide (n < 0) = true := by simpa using h0
    go_enter Tryz.func45, Tryz.ntmps45
    go_wp2_with (refine (fail_nil _ 2).mono ?_; rintro e w' ⟨rfl, rfl⟩)
    go_ret
    exact ⟨rfl, rfl⟩
  · by_cases h1 : 32 < n
    · go_enter Tryz.func45, Tryz.ntmps45
      go_wp2_with (refine (fail_nil _ 2).mono ?_; rintro e w' ⟨rfl, rfl⟩)
      go_ret
      exact ⟨rfl, rfl⟩
    · have h2 : n ≤ 32 := by omega
      have h3 : 0 ≤ n := by omega
      by_cases hz : 0 < n
      · go_enter Tryz.func45, Tryz.ntmps45
        go_wp2_with fail
        refine (look_nil _ _).mono ?_; rintro e w' ⟨rfl, rfl⟩
        go_wp2_with (refine (fail_nil _ 3).mono ?_; rintro e w' ⟨rfl, rfl⟩)
        go_ret
        exact ⟨rfl, rfl⟩
      · obtain rfl : n = 0 := by omega
        go_enter Tryz.func45, Tryz.ntmps45
        go_wp2_with fail
        refine (look_nil _ _).mono ?_; rintro e w' ⟨rfl, rfl⟩
        go_wp2_with (refine (skip_nil _).mono ?_; rintro e w' ⟨rfl, rfl⟩)
        go_ret
        exact ⟨rfl, rfl⟩

/-- Open -/
theorem open_c (w : World) (v : Value) (l : List UInt8) (hl : l.length ≤ 140737488355328) (h : Bs w v l) : Calls Tryz.prog 22 #[v] w fun e w' => ∃ r v', e = .returned (.pointer (some ⟨r, 0, none⟩)) ∧ Rd w' r v' ⟨l, 0, true, 0⟩ ∧ Keep [] w w' ∧ w.heap.size ≤ r ∧ (∀ b, v'.ownBlock = some b → w.heap.size ≤ b) := by
  have hc := Lib.hid (clone_c w v l hl h)
  go_enter Tryz.func22, Tryz.ntmps22
  go_wp2_with fail
  refine hc.out.mono ?_; rintro e w' ⟨v', rfl, ho, hk, hv⟩
  obtain ⟨a, n, c, rfl⟩ := ho.shape
  go_wp2_with fail
  go_ret
  refine ⟨w'.heap.size, .slice a n c, rfl, ⟨Blk.new _ _ _, ho.keep ((Keep.refl [] _).alloc _) (by simp), ⟨by simp, hl, by simp⟩, fun b hb => Nat.ne_of_lt (ho.lt b hb)⟩, hk.alloc _, hk.size, hv⟩
end Go.Proofs.YtokfcgloogdeiaaGreatDoor
namespace Go.Proofs.YtokfcgloogdeiaaGreatDoor
set_option linter.unusedVariables false
set_option linter.unusedSimpArgs false
open Go.ChangeShapes Go.WideShapes Go.ChangeAt Go.RowKit

/-- what Bytes(n) answers, and the state behind it -/
def RS.bytes (s : RS) (n : Int) : List UInt8 × RS :=
  if s.E ≠ 0 then ([], s)
  else if n < 0 then ([], s.fail 2)
  else if s.left % 8 ≠ 0 then ([], s.fail 4)
  else if (s.left / 8 : Nat) < n then ([], s.fail 3)
  else ((s.l.drop (s.pos / 8)).take n.toNat, { s with pos := s.pos + 8 * n.toNat })
theorem RS.fail_E (s : RS) (e : Nat) (h : s.E = 0) (he : e ≠ 0) : (s.fail e).E = e := by
  have : s.made = true := by
    cases hm : s.made
    · simp [RS.E, hm] at h
    · rfl
  unfold RS.fail; rw [if_pos h]; simp [RS.E, this]
theorem RS.fail_E_ne (s : RS) (e : Nat) (he : e ≠ 0) : (s.fail e).E ≠ 0 := by
  by_cases h : s.E = 0
  · rw [RS.fail_E s e h he]; exact he
  · rw [RS.fail_fail s e h]; exact h
end Go.Proofs.YtokfcgloogdeiaaGreatDoor
namespace Go.Proofs.YtokfcgloogdeiaaGreatDoor
set_option linter.unusedVariables false
set_option linter.unusedSimpArgs false
open Go.ChangeShapes Go.WideShapes Go.ChangeAt Go.RowKit

def RS5 : RS := ⟨[5], 0, true, 0⟩
theorem bits5 : RS5.bits 3 = (5, ⟨[5], 3, true, 0⟩) := rfl
theorem turn_turn (x : Nat) (n : Int) : turn (turn x n) n = x % 2 ^ (max 0 (min n 32)).toNat := by
  unfold turn
  generalize (max 0 (min n 32)).toNat = c
  apply Nat.eq_of_testBit_eq
  intro i
  rw [tr_bit, tr_bit, Nat.testBit_mod_two_pow]
  by_cases h : i < c
  · have : c - 1 - i < c := by omega
    simp [h, this]
    congr 1; omega
  · simp [h]
theorem turn_lt (x : Nat) (n : Int) : turn x n < 4294967296 := by
  unfold turn
  have h := tr_lt (max 0 (min n 32)).toNat x
  exact Nat.lt_of_lt_of_le h (Nat.pow_le_pow_right (n := 2) (j := 32) (by decide) (by omega))
theorem mask_low (x c : Nat) (hx : x < 4294967296) (hc : c ≤ 32) : Go.bits .and .u64 (x : Int) (IntKind.u64.wrap (IntKind.u64.wrap (2 ^ c) - 1)) = ((x % 2 ^ c : Nat) : Int) := by
  have h2 : 2 ^ c ≤ 2 ^ 32 := Nat.pow_le_pow_right (by decide) hc
  have h3 : 0 < 2 ^ c := Nat.two_pow_pos c
  have e1 : IntKind.u64.wrap (IntKind.u64.wrap (2 ^ c) - 1) = ((2 ^ c - 1 : Nat) : Int) := by
    rw [show ((2 : Int) ^ c) = ((2 ^ c : Nat) : Int) by simp, IntKind.wrap_u64, IntKind.wrap_u64]
    generalize 2 ^ c = q at h2 h3
    omega
  rw [e1, u64_and_nat _ _ (by omega) (by omega), Nat.and_two_pow_sub_one_eq_mod]
end Go.Proofs.YtokfcgloogdeiaaGreatDoor
namespace Go.Proofs.YtokfcgloogdeiaaGreatDoor
set_option linter.unusedVariables false
set_option linter.unusedSimpArgs false
set_option maxRecDepth 100000
open Go.ChangeShapes Go.WideShapes Go.ChangeAt Go.RowKit

theorem Bs.new1' (w : World) (x : Nat) : Bs (w.alloc (.cells #[.int .u8 (IntKind.u8.wrap x)] 5)).drew (.slice (some ⟨w.heap.size, 0, none⟩) 1 1) [UInt8.ofNat x] := by
  have e : IntKind.u8.wrap x = ((UInt8.ofNat x).toNat : Int) := by
    rw [IntKind.wrap_u8']; simp [UInt8.toNat_ofNat']
  rw [e]
  exact (Bs.new1 w (UInt8.ofNat x)).keep ((Keep.refl [] _).drew) (by simp)
theorem Bs.new1'' (w : World) (x : Nat) : Bs (w.alloc (.cells #[.int .u8 (IntKind.u8.wrap x)] 5)) (.slice (some ⟨w.heap.size, 0, none⟩) 1 1) [UInt8.ofNat x] := by
  have e : IntKind.u8.wrap x = ((UInt8.ofNat x).toNat : Int) := by
    rw [IntKind.wrap_u8']; simp [UInt8.toNat_ofNat']
  rw [e]
  exact Bs.new1 w (UInt8.ofNat x)
theorem put_rest (x h y n : Nat) (hy : y < 4294967296) (hx : x < 2 ^ h) (hh : h < 8) (hn : n ≤ 32) : Go.bits .or .u64 (x : Int) (IntKind.u64.wrap (Go.bits .and .u64 (y : Int) (IntKind.u64.wrap (IntKind.u64.wrap (2 ^ n) - 1)) * 2 ^ h)) = ((x + (y % 2 ^ n) * 2 ^ h : Nat) : Int) := by
  rw [mask_low y n hy hn]
  have h1 : y % 2 ^ n < 2 ^ n := Nat.mod_lt _ (Nat.two_pow_pos n)
  have h2 : 2 ^ n ≤ 2 ^ 32 := Nat.pow_le_pow_right (by decide) hn
  have h3 : 2 ^ h ≤ 2 ^ 7 := Nat.pow_le_pow_right (by decide) (by omega)
  have h4 : y % 2 ^ n * 2 ^ h ≤ 2 ^ 32 * 2 ^ 7 := Nat.mul_le_mul (by omega) h3
  have e : IntKind.u64.wrap (((y % 2 ^ n : Nat) : Int) * 2 ^ h) = ((y % 2 ^ n * 2 ^ h : Nat) : Int) := by
    rw [show ((y % 2 ^ n : Nat) : Int) * 2 ^ h = ((y % 2 ^ n * 2 ^ h : Nat) : Int) by simp, IntKind.wrap_u64]
    generalize y % 2 ^ n * 2 ^ h = q at h4
    omega
  rw [e, u64_or_nat _ _ (by omega) (by omega), Nat.or_comm, nat_join h _ _ (by simp) hx, Nat.add_comm]
def cln (n : Int) : Nat := (max 0 (min n 32)).toNat
end Go.Proofs.YtokfcgloogdeiaaGreatDoor
namespace Go.Proofs.YtokfcgloogdeiaaGreatDoor
set_option linter.unusedVariables false
set_option linter.unusedSimpArgs false
set_option maxRecDepth 100000
open Go.ChangeShapes Go.WideShapes Go.ChangeAt Go.RowKit

theorem pad8_of (l : List UInt8) (x h : Nat) (h8 : h < 8) (h0 : 0 < h) : pad8 (toBits l ++ bitsOf x h) = (toBits l ++ bitsOf x h) ++ bitsOf 0 (cln (8 - h)) := by
  unfold pad8
  rw [bitsOf_zero]
  congr 2
  unfold cln
  simp only [List.length_append, toBits_length, bitsOf_length]
  omega
theorem Bs.addr_any {w : World} {a : Option Addr} {n cap : Nat} (h : Bs w (.slice a n cap) []) : n = 0 := by
  obtain ⟨_, _, h, _⟩ := h; simp only [Value.slice.injEq] at h; simpa using h.2.1
end Go.Proofs.YtokfcgloogdeiaaGreatDoor
namespace Go.Proofs.YtokfcgloogdeiaaGreatDoor
set_option linter.unusedVariables false
set_option linter.unusedSimpArgs false
open Go.ChangeShapes Go.WideShapes Go.ChangeAt Go.RowKit

def Ob.rd (q : Nat) (s : RS) : Ob where
  P w bs := ∃ v : Value, bs = q :: v.ownBlock.toList ∧ Rd w q v s
  keep := fun ⟨v, h1, h2⟩ k hb => ⟨v, h1, h2.keep k (hb q (by simp [h1])) (fun b hb' => hb b (by simp [h1, hb']))⟩
  lt := fun {w bs} ⟨v, h1, h2⟩ b hb => by
    subst h1
    rcases List.mem_cons.1 hb with rfl | hb
    · exact h2.1.lt
    · exact h2.2.1.lt b (by simpa using hb)
theorem St.rd {W w : World} {Ps : List Ob} (h : St W w Ps) (i : Nat) {q : Nat} {s : RS} (hi : Ps[i]? = some (Ob.rd q s)) : ∃ v, Rd w q v s := by
  obtain ⟨bs, ⟨v, _, h1⟩, _⟩ := h.get i hi; exact ⟨v, h1⟩
/-- Bits of a reader among others -/
theorem st_bits {W w : World} {Ps : List Ob} (h : St W w Ps) (i : Nat) {q : Nat} {s : RS} (hi : Ps[i]? = some (Ob.rd q s)) (n : Int) : Calls Tryz.prog 45 #[.pointer (some ⟨q, 0, none⟩), .int .i64 n] w fun e w' => e = .returned (.int .u32 (s.bits n).1) ∧ St W w' (Ps.set i (Ob.rd q (s.bits n).2)) := by
  obtain ⟨bs, ⟨v, rfl, h1⟩, h2, h3⟩ := h.focus i hi
  refine (bits_c w q v s n h1).mono ?_
  rintro e w' ⟨he, hr, hk⟩
  exact ⟨he, h3 w' _ _ ⟨v, rfl, hr⟩ (hk.mono (by simp)) (fun b hb => .inl hb)⟩
theorem st_err {W w : World} {Ps : List Ob} (h : St W w Ps) (i : Nat) {q : Nat} {s : RS} (hi : Ps[i]? = some (Ob.rd q s)) : Calls Tryz.prog 46 #[.pointer (some ⟨q, 0, none⟩)] w fun e w' => e = .returned (.int .i64 s.E) ∧ w = w' := by
  obtain ⟨v, h1⟩ := h.rd i hi
  exact err_c w q v s h1
theorem st_left {W w : World} {Ps : List Ob} (h : St W w Ps) (i : Nat) {q : Nat} {s : RS} (hi : Ps[i]? = some (Ob.rd q s)) : Calls Tryz.prog 25 #[.pointer (some ⟨q, 0, none⟩)] w fun e w' => e = .returned (.int .i64 s.left) ∧ ∃ n, w' = w.drewN n := by
  obtain ⟨v, h1⟩ := h.rd i hi
  exact left_c w q v s h1
/-- a new reader beside others -/
theorem st_open {W w : World} {Ps : List Ob} (h : St W w Ps) (v : Value) (l : List UInt8) (hl : l.length ≤ 140737488355328) (hb : Bs w v l) : Calls Tryz.prog 22 #[v] w fun e w' => ∃ q, e = .returned (.pointer (some ⟨q, 0, none⟩)) ∧ St W w' (Ps ++ [Ob.rd q ⟨l, 0, true, 0⟩]) ∧ Keep [] w w' := by
  refine (open_c w v l hl hb).mono ?_
  rintro e w' ⟨q, v', he, hr, hk, hq, hv⟩
  exact ⟨q, he, h.push _ _ ⟨v', rfl, hr⟩ hk (fun b hb => by
    rcases List.mem_cons.1 hb with rfl | hb
    · exact hq
    · exact hv b (by simpa using hb)), hk⟩
end Go.Proofs.YtokfcgloogdeiaaGreatDoor
namespace Go.Proofs.YtokfcgloogdeiaaGreatDoor
set_option linter.unusedVariables false
set_option linter.unusedSimpArgs false
open Go.ChangeShapes Go.WideShapes Go.ChangeAt Go.RowKit

/-- block x is the document's output in state s; its bytes lie in the slice v of its own -/
def Rx (w : World) (x : Nat) (v : Value) (s : HS) : Prop :=
  Blk w x #[.int .i64 s.win, .int .i64 s.most, .bool s.nou, v] 71 ∧ OwnB w v s.b ∧ (∀ b, v.ownBlock = some b → b ≠ x) ∧ s.most ≤ 9223372036854775807 ∧ s.win ≤ 65536
theorem Rx.keep {w w' : World} {x : Nat} {v : Value} {s : HS} {S : List Nat} (h : Rx w x v s) (k : Keep S w w') (hx : x ∉ S) (hv : ∀ b, v.ownBlock = some b → b ∉ S) : Rx w' x v s :=
  ⟨h.1.keep k hx, h.2.1.keep k hv, h.2.2⟩
theorem Rx.drewN {w : World} {x : Nat} {v : Value} {s : HS} (h : Rx w x v s) (n : Nat) : Rx (w.drewN n) x v s := h.keep ((Keep.refl [] w).drewN n) (by simp) (by simp)
/-- which numbers may be -/
def hsBad (win most : Int) : Prop := win < 1 ∨ 65536 < win ∨ most < 0
set_option maxHeartbeats 1000000 in
theorem refhs_lit (w : World) (x : Nat) (v : Value) (s : HS) (c : UInt8) (h : Rx w x v s) (hl : s.b.length + 1 ≤ 140737488355328) : Calls Tryz.prog 70 #[.pointer (some ⟨x, 0, none⟩), .int .u8 c.toNat] w fun e w' => ∃ v', e = .returned (.int .i64 (s.lit c).1) ∧ Rx w' x v' (s.lit c).2 ∧ Keep (x :: v.ownBlock.toList) w w' ∧ (∀ b, v'.ownBlock = some b → v.ownBlock = some b ∨ w.heap.size ≤ b) := by
  have c1 := h.1.cell 1 _ rfl
  have c3 := h.1.cell 3 _ rfl
  have f3 := h.1.free 3
  obtain ⟨a, n, cap, rfl⟩ := h.2.1.shape
  obtain rfl : n = s.b.length := by obtain ⟨_, _, e, _⟩ := h.2.1.bs; simp only [Value.slice.injEq] at e; exact e.2.1
  have h' := fun n => h.drewN n
  by_cases hf : s.most ≤ s.b.length
  · have HF : Hid (s.lit c = (9, s)) := by unfold Hid HS.lit; rw [if_pos hf]
    have hi : decide ((s.most : Int) ≤ s.b.length) = true := by simp; omega
    have H := Lib.hid h'
    clear h' h
    go_enter Tryz.func70, Tryz.ntmps70
    go_wp2_with fail
    go_quiet (fail)
    go_wp2_with fail
    go_ret
    exact ⟨_, by rw [HF.out]; rfl, by rw [HF.out]; exact H.out _, (Keep.refl _ _).drewN _, fun b hb => .inl hb⟩
  · have HF : Hid (s.lit c = (0, { s with b := s.b ++ [c] })) := by unfold Hid HS.lit; rw [if_neg hf]
    have hi : decide ((s.most : Int) ≤ s.b.length) = false := by rw [decide_eq_false_iff_not]; omega
    have H := Lib.hid h'
    clear h' h f3
    go_enter Tryz.func70, Tryz.ntmps70
    go_wp2_with fail
    go_quiet (fail)
    have h := H.out nq
    have K1 : Keep [] w (w.drewN nq) := (Keep.refl [] w).drewN nq
    generalize w.drewN nq = w1 at h K1 ⊢
    clear c1 c3 H
    have c3 := h.1.cell 3 _ rfl
    obtain ⟨hB, hO, hbx, hm, hw⟩ := h
    have hO2 := hO.keep ((Keep.refl [] w1).alloc (.cells #[.int .u8 (c.toNat)] 5)) (by simp)
    have hS := Bs.new1 w1 c
    have hB2 := hB.alloc (.cells #[.int .u8 (c.toNat)] 5)
    have kA := K1.alloc (.cells #[.int .u8 (c.toNat)] 5)
    have hxl := hB.lt
    have hs1 := K1.size
    clear hB hO
    go_wp2_with (at_builtin; (refine wpList_appendB (.tmp 21) (.tmp 23) rfl rfl (.slice a s.b.length cap) s.b rfl hO2 (.slice (some ⟨w1.heap.size, 0, none⟩) 1 1) [c] rfl hS (by simpa using hl) ?_); (intro v3 w3 ho3 hk3 hb3 hz3); (have hB3 := hB2.keep hk3 (fun hx => hbx x (by simpa using hx) rfl)); (have f3 := hB3.free 3); (have c3' := hB3.cell 3 _ rfl); (obtain ⟨a3, n3, cp3, rfl⟩ := ho3.shape))
    go_wp2_with fail
    go_ret
    generalize Value.slice a3 n3 cp3 = v3 at *
    have hv3 : ∀ b, v3.ownBlock = some b → b ≠ x := fun b hb => by
      rcases hb3 b hb with h | h
      · exact hbx b h
      · rw [h]; simp; omega
    rw [HF.out]
    refine ⟨v3, rfl, ⟨hB3.set 3 v3, ho3.keep ((Keep.refl [x] w3).setCell (by simp) v3) (by simpa using hv3), hv3, hm, hw⟩, ?_, fun b hb => ?_⟩
    · refine ((kA.nil (S := x :: (Value.slice a s.b.length cap).ownBlock.toList)).trans hk3 (fun y hy => .inl (by simp at hy ⊢; exact .inr hy))).setCell (.inl (by simp)) v3
    · rcases hb3 b hb with h | h
      · exact .inl h
      · right; rw [h]; simp; omega
set_option maxRecDepth 100000 in
set_option maxHeartbeats 4000000 in
theorem refhs_copy (w : World) (x : Nat) (v : Value) (s : HS) (d n : Int) (h : Rx w x v s) (hn : n ≤ 9223372036854775807) (hl : (s.b.length : Int) + (if (s.most : Int) - s.b.length < n then 0 else max 0 n) ≤ 140737488355000) : Calls Tryz.prog 86 #[.pointer (some ⟨x, 0, none⟩), .int .i64 d, .int .i64 n] w fun e w' => ∃ v', e = .returned (.int .i64 (s.copy d n).1) ∧ Rx w' x v' (s.copy d n).2 ∧ Keep (x :: v.ownBlock.toList) w w' ∧ (∀ b, v'.ownBlock = some b → v.ownBlock = some b ∨ w.heap.size ≤ b) := by
  have c0 := h.1.cell 0 _ rfl
  have c1 := h.1.cell 1 _ rfl
  have c2 := h.1.cell 2 _ rfl
  have c3 := h.1.cell 3 _ rfl
  have hm := h.2.2.2.1
  obtain ⟨a, ln, cap, rfl⟩ := h.2.1.shape
  obtain rfl : ln = s.b.length := by obtain ⟨_, _, e, _⟩ := h.2.1.bs; simp only [Value.slice.injEq] at e; exact e.2.1
  have hbl : s.b.length ≤ 140737488355328 := by omega
  have H := Lib.hid h
  clear h
  by_cases e1 : d < 1 ∨ n < 0
  · have HF : Hid (s.copy d n = (2, s)) := by unfold Hid HS.copy; rw [if_pos e1]
    by_cases g1 : d < 1
    · have d1 : decide (d < 1) = true := by simpa using g1
      clear e1
      go_enter Tryz.func86, Tryz.ntmps86
      go_wp2_with fail
      go_ret
      first | exact ⟨Value.slice a s.b.length cap, by rw [HF.out]; rfl, by rw [HF.out]; exact H.out, Keep.refl _ _, fun b hb => .inl hb⟩ | exact ⟨by rw [HF.out]; rfl, Value.slice a s.b.length cap, by rw [HF.out]; exact H.out, Keep.refl _ _, fun b hb => .inl hb⟩
    · have d1 : decide (d < 1) = false := by rw [decide_eq_false_iff_not]; exact g1
      have g2 : n < 0 := by omega
      have d2 : decide (n < 0) = true := by simpa using g2
      clear e1
      go_enter Tryz.func86, Tryz.ntmps86
      go_wp2_with fail
      go_ret
      first | exact ⟨Value.slice a s.b.length cap, by rw [HF.out]; rfl, by rw [HF.out]; exact H.out, Keep.refl _ _, fun b hb => .inl hb⟩ | exact ⟨by rw [HF.out]; rfl, Value.slice a s.b.length cap, by rw [HF.out]; exact H.out, Keep.refl _ _, fun b hb => .inl hb⟩
  obtain ⟨D, rfl⟩ := Int.eq_ofNat_of_zero_le (show 0 ≤ d by omega)
  obtain ⟨N, rfl⟩ := Int.eq_ofNat_of_zero_le (show 0 ≤ n by omega)
  have hD : 1 ≤ D := by omega
  have d1 : decide ((D : Int) < 1) = false := by rw [decide_eq_false_iff_not]; omega
  have d1' : ¬ (D : Int) < 1 := by omega
  have d2 : decide ((N : Int) < 0) = false := by rw [decide_eq_false_iff_not]; omega
  by_cases e2 : (s.win : Int) < D ∨ ((s.b.length : Int) < D ∧ s.nou = false)
  · have HF : Hid (s.copy D N = (8, s)) := by unfold Hid HS.copy; rw [if_neg e1, if_pos e2]
    by_cases g1 : s.win < D
    · have g3 : decide ((s.win : Int) < D) = true := by simp; omega
      clear e1 e2
      go_enter Tryz.func86, Tryz.ntmps86
      go_wp2_with fail
      go_ret
      first | exact ⟨Value.slice a s.b.length cap, by rw [HF.out]; rfl, by rw [HF.out]; exact H.out, Keep.refl _ _, fun b hb => .inl hb⟩ | exact ⟨by rw [HF.out]; rfl, Value.slice a s.b.length cap, by rw [HF.out]; exact H.out, Keep.refl _ _, fun b hb => .inl hb⟩
    · have g3 : decide ((s.win : Int) < D) = false := by rw [decide_eq_false_iff_not]; omega
      have g4 : s.b.length < D ∧ s.nou = false := by
        rcases e2 with h | ⟨h, h2⟩
        · omega
        · exact ⟨by omega, h2⟩
      obtain ⟨g4, g5⟩ := g4
      have g6 : decide ((s.b.length : Int) < D) = true := by simp; omega
      rw [g5] at c2
      clear e1 e2
      go_enter Tryz.func86, Tryz.ntmps86
      go_wp2_with fail
      go_ret
      first | exact ⟨Value.slice a s.b.length cap, by rw [HF.out]; rfl, by rw [HF.out]; exact H.out, Keep.refl _ _, fun b hb => .inl hb⟩ | exact ⟨by rw [HF.out]; rfl, Value.slice a s.b.length cap, by rw [HF.out]; exact H.out, Keep.refl _ _, fun b hb => .inl hb⟩
  have g1 : ¬ s.win < D := by omega
  have g3 : decide ((s.win : Int) < D) = false := by rw [decide_eq_false_iff_not]; omega
  have HT : Hid ((decide ((s.b.length : Int) < D) = false ∧ ¬ s.b.length < D) ∨ (decide ((s.b.length : Int) < D) = true ∧ s.b.length < D ∧ s.nou = true)) := by
    by_cases g : s.b.length < D
    · refine .inr ⟨by simp; omega, g, ?_⟩
      cases hs : s.nou with
      | false => exact absurd (.inr ⟨by omega, hs⟩) e2
      | true => rfl
    · exact .inl ⟨by rw [decide_eq_false_iff_not]; omega, g⟩
  have hlen := H.out.2.1.bs
  by_cases e3 : (s.most : Int) - s.b.length < N
  · have HF : Hid (s.copy D N = (9, s)) := by unfold Hid HS.copy; rw [if_neg e1, if_neg e2, if_pos e3]
    have hsub : IntKind.i64.wrap ((s.most : Int) - s.b.length) = (s.most : Int) - s.b.length := by rw [IntKind.wrap_i64]; omega
    have d3 : decide ((s.most : Int) - s.b.length < N) = true := by simpa using e3
    clear e1 e2 hl
    go_enter Tryz.func86, Tryz.ntmps86
    go_upto_region 3 with fail
    go_cut [37] (fun c wx => c = .bool false ∧ wx = w)
    case first =>
      rcases HT.out with ⟨t1, t2⟩ | ⟨t1, t2, t3⟩
      · go_wp2_with fail
        go_meet
        exact ⟨rfl, rfl⟩
      · rw [t3] at c2
        go_wp2_with fail
        go_meet
        exact ⟨rfl, rfl⟩
    case rest =>
      obtain ⟨rfl, rfl⟩ := hcut
      go_wp2_with fail
      go_quiet (fail)
      go_wp2_with fail
      go_ret
      exact ⟨.slice a s.b.length cap, by rw [HF.out]; rfl, by rw [HF.out]; exact H.out.drewN _, (Keep.refl _ _).drewN _, fun b hb => .inl hb⟩
  · have HF : Hid (s.copy D N = (0, { s with b := cpy s.b D N })) := by unfold Hid HS.copy; rw [if_neg e1, if_neg e2, if_neg e3]; simp
    have hsub : IntKind.i64.wrap ((s.most : Int) - s.b.length) = (s.most : Int) - s.b.length := by rw [IntKind.wrap_i64]; omega
    have d3 : decide ((s.most : Int) - s.b.length < N) = false := by rw [decide_eq_false_iff_not]; exact e3
    rw [if_neg e3] at hl
    have hNl : s.b.length + N ≤ 140737488355000 := by omega
    have hfit : s.b.length + N ≤ s.most := by omega
    clear e1 e2 hl
    go_enter Tryz.func86, Tryz.ntmps86
    go_upto_region 3 with fail
    go_cut [37] (fun c wx => c = .bool false ∧ wx = w)
    case first =>
      rcases HT.out with ⟨t1, t2⟩ | ⟨t1, t2, t3⟩
      · go_wp2_with fail
        go_meet
        exact ⟨rfl, rfl⟩
      · rw [t3] at c2
        go_wp2_with fail
        go_meet
        exact ⟨rfl, rfl⟩
    case rest =>
      obtain ⟨rfl, rfl⟩ := hcut
      go_wp2_with fail
      go_quiet (fail)
      have HM := Lib.hid (cpy_len s.b D)
      have hR := H.out.drewN nq
      have K1 : Keep (x :: (Value.slice a s.b.length cap).ownBlock.toList) wc (wc.drewN nq) := (Keep.refl _ _).drewN nq
      go_wp2_with fail
      generalize wc.drewN nq = w1 at hR K1 ⊢
      go_loopw [7] (fun i wr => ∃ (k : Nat) (a' : Option Addr) (cp' : Nat), k ≤ N ∧ i = .int .i64 k ∧ Rx wr x (.slice a' (s.b.length + k) cp') { s with b := cpy s.b D k } ∧ Keep (x :: (Value.slice a s.b.length cap).ownBlock.toList) wc wr ∧ Hid (∀ b, (Value.slice a' (s.b.length + k) cp').ownBlock = some b → (Value.slice a s.b.length cap).ownBlock = some b ∨ wc.heap.size ≤ b)) (fun i _ => N - (intOf i).toNat)
      case atStart => exact ⟨0, a, cap, by omega, rfl, hR, K1, fun b hb => .inl hb⟩
      case round =>
        clear hR K1 c0 c1 c2 c3
        obtain ⟨k, a', cp', hk, rfl, hR, K, HB⟩ := hrel
        by_cases hlt : k < N
        · have c3 := hR.1.cell 3 _ rfl
          have hlk := HM.out k
          have HRR := Lib.hid hR
          clear hR
          have hwm : IntKind.i64.wrap ((s.b.length : Int) + k) = (s.b.length : Int) + k := by rw [IntKind.wrap_i64]; omega
          go_upto_if 61 with fail
          go_cut [8] (fun cv wx => cv = .int .u8 ((back1 (cpy s.b D k) D).toNat) ∧ ∃ n, wx = wr.drewN n)
          case first =>
            by_cases hd : D ≤ s.b.length + k
            · have hdi : decide ((D : Int) ≤ (s.b.length : Int) + k) = true := by simp; omega
              rcases HRR.out.2.1.cases with ⟨hnil, hl0⟩ | ⟨g, cap2, hv, hc, hm2, hcell, hg⟩
              · have : s.b.length + k = 0 := by
                  have hl1 := congrArg List.length hl0
                  rw [hlk] at hl1; simpa using hl1
                omega
              · simp only [Value.slice.injEq] at hv
                obtain ⟨hv1, hv2, hv3⟩ := hv
                clear hv2 hv3
                subst hv1
                have hi : s.b.length + k - D < (cpy s.b D k).length := by rw [hlk]; omega
                have e0 := hcell _ hi
                have hb1 : ((cpy s.b D k)[s.b.length + k - D]).toNat = (back1 (cpy s.b D k) D).toNat := by
                  have h2 := back1_get (cpy s.b D k) D hD (by rw [hlk]; exact hd)
                  rw [List.getElem?_eq_getElem (by rw [hlk]; omega)] at h2
                  have h3 := Option.some.inj h2
                  rw [← h3]
                  congr 2
                  rw [hlk]
                rw [hb1] at e0
                have hw2 : IntKind.i64.wrap ((s.b.length : Int) + k - D) = ((s.b.length + k - D : Nat) : Int) := by rw [IntKind.wrap_i64]; omega
                have hge : (0 : Int) ≤ ((s.b.length + k - D : Nat) : Int) := by omega
                have hltl : ((s.b.length + k - D : Nat) : Int) < (s.b.length : Int) + k := by omega
                generalize hz : s.b.length + k - D = z at *
                have hdI : (D : Int) ≤ (s.b.length : Int) + k := by omega
                clear hcell hb1 hi hz
                generalize (back1 (cpy s.b D k) D).toNat = c at *
                go_wp2_with fail
                go_quiet (fail)
                go_wp2_with fail
                go_meet
                exact ⟨rfl, _, rfl⟩
            · have hdi : decide ((D : Int) ≤ (s.b.length : Int) + k) = false := by rw [decide_eq_false_iff_not]; omega
              have hb0 : (back1 (cpy s.b D k) D).toNat = 0 := by unfold back1; rw [if_neg (by rw [hlk]; omega)]; rfl
              have HB0 := Lib.hid hb0
              clear hb0
              go_wp2_with fail
              go_meet
              exact ⟨by rw [HB0.out]; rfl, 0, rfl⟩
          case rest =>
            obtain ⟨rfl, n3, rfl⟩ := hcut
            have hR := HRR.out.drewN n3
            have K1 := K.drewN n3
            have HCN : Hid (cpy s.b D (k + 1) = cpy s.b D k ++ [back1 (cpy s.b D k) D]) := rfl
            generalize back1 (cpy s.b D k) D = c at *
            generalize wr.drewN n3 = w4 at hR K1 ⊢
            clear HRR K c3
            have c3 := hR.1.cell 3 _ rfl
            obtain ⟨hB, hO, hbx, hm, hw⟩ := hR
            have hO2 := hO.keep ((Keep.refl [] w4).alloc (.cells #[.int .u8 (c.toNat)] 5)) (by simp)
            have hS := Bs.new1 w4 c
            have hB2 := hB.alloc (.cells #[.int .u8 (c.toNat)] 5)
            have kA := K1.alloc (.cells #[.int .u8 (c.toNat)] 5)
            have hxl := hB.lt
            have hs1 := K1.size
            clear hB hO
            go_wp2_with (at_builtin; (refine wpList_appendB (.tmp 80) (.tmp 82) rfl rfl (.slice a' (s.b.length + k) cp') (cpy s.b D k) rfl hO2 (.slice (some ⟨w4.heap.size, 0, none⟩) 1 1) [c] rfl hS (by rw [hlk]; simp; omega) ?_); (intro v3 w3 ho3 hk3 hb3 hz3); (have hB3 := hB2.keep hk3 (fun hx => hbx x (by simpa using hx) rfl)); (have f3 := hB3.free 3); (have c3' := hB3.cell 3 _ rfl); (obtain ⟨a3, n3, cp3, rfl⟩ := ho3.shape))
            obtain rfl : n3 = s.b.length + (k + 1) := by
              obtain ⟨_, _, e, _⟩ := ho3.bs
              simp only [Value.slice.injEq] at e
              rw [e.2.1, List.length_append, hlk]; rfl
            have hv3 : ∀ b, (Value.slice a3 (s.b.length + (k + 1)) cp3).ownBlock = some b → b ≠ x := fun b hb => by
              rcases hb3 b hb with h | h
              · exact hbx b h
              · rw [h]; simp; omega
            have HB3 : Hid (∀ b, (Value.slice a3 (s.b.length + (k + 1)) cp3).ownBlock = some b → (Value.slice a s.b.length cap).ownBlock = some b ∨ wc.heap.size ≤ b) := fun b hb => by
              rcases hb3 b hb with h | h
              · exact HB.out b h
              · right; rw [h]; simp; omega
            rw [← HCN.out] at ho3
            have hR2 : Rx (w3.setCell ⟨x, 3, none⟩ (.slice a3 (s.b.length + (k + 1)) cp3)) x (.slice a3 (s.b.length + (k + 1)) cp3) { s with b := cpy s.b D (k + 1) } :=
              ⟨hB3.set 3 _, ho3.keep ((Keep.refl [x] w3).setCell (by simp) _) (by simpa using hv3), hv3, hm, hw⟩
            have hK2 : Keep (x :: (Value.slice a s.b.length cap).ownBlock.toList) wc (w3.setCell ⟨x, 3, none⟩ (.slice a3 (s.b.length + (k + 1)) cp3)) :=
              (kA.trans hk3 (fun y hy => by
                have := HB.out y (by simpa using hy)
                rcases this with h | h
                · exact .inl (by simp [h])
                · exact .inr h)).setCell (.inl (by simp)) _
            clear hB3 f3 c3' c3 hB2 hO2 hS kA hk3 hb3 hz3 hbx hv3 ho3 hxl hs1 K1 HB
            go_wp2_with fail
            go_roundw
            case rel => exact ⟨k + 1, a3, cp3, by omega, by go_num, hR2, hK2, HB3⟩
            case measure => simp [intOf]; omega
        · obtain rfl : k = N := by omega
          have HRR := Lib.hid hR
          clear hR
          go_wp2_with fail
          go_ret
          first | exact ⟨_, by rw [HF.out]; rfl, by rw [HF.out]; exact HRR.out, K, HB.out⟩ | exact ⟨by rw [HF.out]; rfl, _, by rw [HF.out]; exact HRR.out, K, HB.out⟩
end Go.Proofs.YtokfcgloogdeiaaGreatDoor
/-! The document's own reader of bits. -/
namespace Go.Proofs.YtokfcgloogdeiaaGreatDoor
set_option linter.unusedVariables false
set_option linter.unusedSimpArgs false
open Go.ChangeShapes Go.WideShapes Go.ChangeAt Go.RowKit

theorem at_c (w : World) (v : Value) (l : List UInt8) (i : Nat) (hi : i ≤ 9223372036854775807) (h : Bs w v l) : Calls Tryz.prog 83 #[v, .int .i64 i] w fun e w' => e = .returned (.int .u32 (bitAt l i)) ∧ w = w' := by
  have hlm : l.length ≤ 9223372036854775807 := by obtain ⟨a, cap, _, h1, h2⟩ := h.shape; unfold maxLen at h2; omega
  by_cases hl : i / 8 < l.length
  · rcases h.cases with ⟨rfl, _⟩ | ⟨hp, b, off, cap, rfl, h1, h2, hb, hc⟩
    · simp at hl
    · have e1 := hc (i / 8) hl
      rw [show (l[i / 8].toNat) = byteAt l (i / 8) by unfold byteAt; rw [List.getD_eq_getElem?_getD, List.getElem?_eq_getElem hl]; rfl] at e1
      have hb2 := byteAt_lt l (i / 8)
      have HB : Hid (bitAt l i = byteAt l (i / 8) / 2 ^ (i % 8) % 2) := rfl
      have e8 := Nat.mod_lt i (show 8 > 0 by decide)
      generalize byteAt l (i / 8) = c at e1 hb2 HB
      unfold maxLen at h2
      clear hc
      go_enter Tryz.func83, Tryz.ntmps83
      go_wp2
      go_ret
      exact ⟨by rw [HB.out]; refine ret_int ?_; rw [show ((c : Int) / 2 ^ (i % 8)) = ((c / 2 ^ (i % 8) : Nat) : Int) by simp, Int.tmod_eq_emod_of_nonneg (Int.natCast_nonneg _)]; simp, rfl⟩
  · have HB : Hid (bitAt l i = 0) := bitAt_ge l i (by omega)
    obtain ⟨a, cap, rfl, h1, h2⟩ := h.shape
    go_enter Tryz.func83, Tryz.ntmps83
    go_wp2
    go_ret
    exact ⟨by rw [HB.out]; rfl, rfl⟩
theorem num_step (l : List UInt8) (p n k : Nat) (h : k < n) : num l (p + k) (n - k) = num l (p + (k + 1)) (n - (k + 1)) * 2 + bitAt l (p + k) := by
  obtain ⟨m, hm⟩ : ∃ m, n - k = m + 1 := ⟨n - k - 1, by omega⟩
  rw [hm, num, show n - (k + 1) = m by omega]; rfl
theorem number_c (w : World) (v : Value) (l : List UInt8) (p n : Nat) (hn : n ≤ 32) (hp : p ≤ 9223372036854775000) (h : Bs w v l) : Calls Tryz.prog 68 #[v, .int .i64 p, .int .i64 n] w fun e w' => e = .returned (.int .u32 (num l p n)) ∧ w = w' := by
  go_enter Tryz.func68, Tryz.ntmps68
  go_wp2
  go_loop [7, 8] (fun x i => ∃ (k y : Nat), k ≤ n ∧ i = .int .i64 (k - 1) ∧ x = .int .u32 y ∧ Hid (y = num l (p + k) (n - k)) ∧ y < 2 ^ (n - k)) (fun _ i => (intOf i + 1).toNat)
  case atStart => exact ⟨n, 0, by omega, rfl, rfl, by simp [Hid, num], by simp⟩
  case round =>
    obtain ⟨k, y, hk, rfl, rfl, HY, hy⟩ := hrel
    by_cases hk0 : 0 < k
    · obtain ⟨k, rfl⟩ : ∃ k', k = k' + 1 := ⟨k - 1, by omega⟩
      have HS := Lib.hid (num_step l p n k (by omega))
      have hb := bitAt_lt l (p + k)
      have hy2 : y < 2147483648 := Nat.lt_of_lt_of_le hy (Nat.pow_le_pow_right (n := 2) (j := 31) (by decide) (by omega))
      have HY2 : Hid (y * 2 + bitAt l (p + k) < 2 ^ (n - k)) := by
        unfold Hid; rw [show n - k = (n - (k + 1)) + 1 by omega, Nat.pow_succ]; omega
      have hc := Lib.hid (at_c w v l (p + k) (by omega) h)
      have hkk : (((k + 1 : Nat) : Int) - 1) = k := by omega
      rw [hkk]
      clear hkk hy
      go_wp2_with fail
      refine hc.out.mono ?_; rintro e w' ⟨rfl, rfl⟩
      go_wp2_with fail
      go_round
      case rel => exact ⟨k, y * 2 + bitAt l (p + k), by omega, rfl, by go_num, by unfold Hid; rw [HS.out, HY.out], HY2.out⟩
      case measure => simp [intOf] <;> omega
    · obtain rfl : k = 0 := by omega
      clear hy
      go_wp2
      go_ret
      exact ⟨by rw [HY.out]; rfl, rfl⟩

/-- block q is the document's reader in the state s (its bytes in the slice v) -/
def Rr (w : World) (q : Nat) (v : Value) (s : RS) : Prop :=
  Blk w q #[v, .int .i64 s.pos, .int .i64 s.err] 68 ∧ Bs w v s.l ∧ s.ok ∧ s.made = true ∧ (s.l ≠ [] → ∀ b, v.ownBlock = some b → b ≠ q)
theorem Rr.keep {w w' : World} {r : Nat} {v : Value} {s : RS} {S : List Nat} (h : Rr w r v s) (k : Keep S w w') (hr : r ∉ S) (hv : s.l ≠ [] → ∀ b, v.ownBlock = some b → b ∉ S) : Rr w' r v s :=
  ⟨h.1.keep k hr, h.2.1.keep' k hv, h.2.2⟩
theorem Rr.drewN {w : World} {r : Nat} {v : Value} {s : RS} (h : Rr w r v s) (n : Nat) : Rr (w.drewN n) r v s := h.keep ((Keep.refl [] w).drewN _) (by simp) (by simp)
theorem Rr.E {w : World} {r : Nat} {v : Value} {s : RS} (h : Rr w r v s) : s.E = s.err := by simp [RS.E, h.2.2.2.1]
theorem Rr.setErr {w : World} {q : Nat} {v : Value} {s : RS} (h : Rr w q v s) (hE : s.E = 0) (e : Nat) (he : e < 100) : Rr (w.setCell ⟨q, 2, none⟩ (.int .i64 e)) q v (s.fail e) := by
  have hf : s.fail e = { s with err := e } := by unfold RS.fail; rw [if_pos hE]
  rw [hf]
  exact ⟨h.1.set 2 _, h.2.1.keep' ((Keep.refl [q] _).setCell (by simp) _) (by simpa using h.2.2.2.2), ⟨h.2.2.1.1, h.2.2.1.2.1, he⟩, h.2.2.2.1, h.2.2.2.2⟩
theorem Rr.setPos {w : World} {q : Nat} {v : Value} {s : RS} (h : Rr w q v s) (p : Nat) (hp : p ≤ 8 * s.l.length) : Rr (w.setCell ⟨q, 1, none⟩ (.int .i64 p)) q v { s with pos := p } :=
  ⟨h.1.set 1 _, h.2.1.keep' ((Keep.refl [q] _).setCell (by simp) _) (by simpa using h.2.2.2.2), ⟨hp, h.2.2.1.2⟩, h.2.2.2.1, h.2.2.2.2⟩
theorem rleft_c (w : World) (q : Nat) (v : Value) (s : RS) (h : Rr w q v s) : Calls Tryz.prog 28 #[.pointer (some ⟨q, 0, none⟩)] w fun e w' => e = .returned (.int .i64 s.left) ∧ ∃ n, w' = w.drewN n := by
  have c0 := h.1.cell 0 _ rfl
  have c1 := h.1.cell 1 _ rfl
  have c2 := h.1.cell 2 _ rfl
  obtain ⟨a, cap, rfl, _⟩ := h.2.1.shape
  have hE := h.E
  have hk := h.2.2.1
  unfold RS.ok at hk
  obtain ⟨k1, k2, k3⟩ := hk
  by_cases he : s.E = 0
  · have hf : ((s.left : Nat) : Int) = 8 * s.l.length - s.pos := by unfold RS.left; rw [if_pos he]; omega
    have he2 : ((s.err : Int) != 0) = false := by simp; omega
    have HF := Lib.hid hf; clear hf he hE
    go_enter Tryz.func28, Tryz.ntmps28
    go_wp2
    go_quiet (fail)
    go_wp2
    go_ret
    exact ⟨by rw [HF.out]; rfl, _, rfl⟩
  · have hf : s.left = 0 := by unfold RS.left; rw [if_neg he]
    have he2 : ((s.err : Int) != 0) = true := by simp; omega
    have HF := Lib.hid hf; clear hf he hE
    go_enter Tryz.func28, Tryz.ntmps28
    go_wp2
    go_ret
    exact ⟨by rw [HF.out]; rfl, 0, rfl⟩
/-- the state behind Bits(n), as the document's reader has it: the same, but that a number of 0 bits of a reader with an error changes nothing -/
theorem rbits_c (w : World) (q : Nat) (v : Value) (s : RS) (n : Int) (h : Rr w q v s) : Calls Tryz.prog 49 #[.pointer (some ⟨q, 0, none⟩), .int .i64 n] w fun e w' => e = .returned (.int .u32 (s.bits n).1) ∧ Rr w' q v (s.bits n).2 ∧ Keep [q] w w' := by
  have c0 := h.1.cell 0 _ rfl
  have c1 := h.1.cell 1 _ rfl
  have c2 := h.1.cell 2 _ rfl
  have f1 := h.1.free 1
  have f2 := h.1.free 2
  have hE := h.E
  by_cases he : s.E = 0
  · have he2 : ((s.err : Int) != 0) = false := by simp; omega
    by_cases hb : n < 0 ∨ 32 < n
    · have hf : s.bits n = (0, s.fail 2) := by unfold RS.bits; rw [if_pos hb]
      have HF := Lib.hid hf; have HE := Lib.hid he; clear hf hE he
      by_cases h0 : n < 0
      · have h1 : decide (n < 0) = true := by simpa using h0
        clear hb
        go_enter Tryz.func49, Tryz.ntmps49
        go_wp2
        go_ret
        exact ⟨by rw [HF.out]; rfl, by rw [HF.out]; exact h.setErr HE.out 2 (by decide), (Keep.refl _ _).setCell (by simp) _⟩
      · have h1 : 32 < n := by omega
        clear hb
        go_enter Tryz.func49, Tryz.ntmps49
        go_wp2
        go_ret
        exact ⟨by rw [HF.out]; rfl, by rw [HF.out]; exact h.setErr HE.out 2 (by decide), (Keep.refl _ _).setCell (by simp) _⟩
    · have h0 : 0 ≤ n := by omega
      have h1 : n ≤ 32 := by omega
      obtain ⟨n, rfl⟩ := Int.eq_ofNat_of_zero_le h0
      have hs := RS.left_le s h.2.2.1
      have hp1 := h.2.2.1.1
      by_cases hl : (s.left : Int) < n
      · have hf : s.bits n = (0, s.fail 3) := by unfold RS.bits; rw [if_neg (by omega), if_neg (by simpa using he), if_pos hl]
        have HF := Lib.hid hf; have HE := Lib.hid he; clear hf hE he hb
        go_enter Tryz.func49, Tryz.ntmps49
        go_wp2_with fail
        refine (rleft_c _ _ _ _ h).mono ?_; rintro e w' ⟨rfl, m, rfl⟩
        go_wp2
        go_ret
        exact ⟨by rw [HF.out]; rfl, by rw [HF.out]; exact (h.drewN m).setErr HE.out 3 (by decide), ((Keep.refl _ _).drewN m).setCell (by simp) _⟩
      · have hf : s.bits n = (num s.l s.pos n, { s with pos := s.pos + n }) := by unfold RS.bits; rw [if_neg (by omega), if_neg (by simpa using he), if_neg hl]; simp
        have HF := Lib.hid hf; have HE := Lib.hid he; clear hf hE he hb
        have hn : s.pos + n ≤ 8 * s.l.length := by omega
        have hlm : s.l.length ≤ 140737488355328 := h.2.2.1.2.1
        go_enter Tryz.func49, Tryz.ntmps49
        go_wp2_with fail
        refine (rleft_c _ _ _ _ h).mono ?_; rintro e w' ⟨rfl, m, rfl⟩
        have H2 := (h.drewN m).setPos (s.pos + n) hn
        have K2 : Keep [q] w ((w.drewN m).setCell ⟨q, 1, none⟩ (.int .i64 (s.pos + n : Nat))) := ((Keep.refl _ _).drewN m).setCell (by simp) _
        go_wp2
        rw [show ((s.pos : Int) + n) = ((s.pos + n : Nat) : Int) by omega]
        generalize (w.drewN m).setCell ⟨q, 1, none⟩ (.int .i64 (s.pos + n : Nat)) = w2 at H2 K2 ⊢
        have d0 := H2.1.cell 0 _ rfl
        have d1 := H2.1.cell 1 _ rfl
        obtain ⟨a, cap, rfl, _⟩ := H2.2.1.shape
        have hwr : IntKind.i64.wrap ((s.pos : Int) + n - n) = s.pos := by rw [IntKind.wrap_i64]; omega
        have hwr2 : IntKind.i64.wrap (s.pos : Int) = s.pos := by rw [IntKind.wrap_i64]; omega
        go_quiet ((go_at_call 68; exact quiet_left (number_c _ _ _ s.pos n (by omega) (by omega) (H2.drewN _).2.1)))
        go_wp2
        go_ret
        exact ⟨by rw [HF.out]; rfl, by rw [HF.out]; exact H2.drewN _, K2.drewN _⟩
  · have he2 : ((s.err : Int) != 0) = true := by simp; omega
    have hf : (s.bits n) = (0, s) := by
      unfold RS.bits
      rw [RS.fail_fail _ _ he, RS.fail_fail _ _ he, if_pos he]
      by_cases hb : n < 0 ∨ 32 < n <;> simp [hb]
    have HF := Lib.hid hf; clear hf hE he
    go_enter Tryz.func49, Tryz.ntmps49
    go_wp2
    go_ret
    exact ⟨by rw [HF.out]; rfl, by rw [HF.out]; exact h, Keep.refl _ _⟩
/-- what Look(n) answers -/
def RS.look (s : RS) (n : Int) : Nat × Nat := if s.E ≠ 0 ∨ n < 0 ∨ 32 < n then (0, 0) else (num s.l s.pos n.toNat, min n.toNat s.left)
theorem rlook_c (w : World) (q : Nat) (v : Value) (s : RS) (n : Int) (h : Rr w q v s) : Calls Tryz.prog 84 #[.pointer (some ⟨q, 0, none⟩), .int .i64 n] w fun e w' => e = .returned (.tuple #[.int .u32 (s.look n).1, .int .i64 (s.look n).2]) ∧ ∃ m, w' = w.drewN m := by
  have c0 := h.1.cell 0 _ rfl
  have c1 := h.1.cell 1 _ rfl
  have c2 := h.1.cell 2 _ rfl
  have hE := h.E
  by_cases he : s.E = 0
  · have he2 : ((s.err : Int) != 0) = false := by simp; omega
    by_cases hb : n < 0 ∨ 32 < n
    · have hf : s.look n = (0, 0) := by unfold RS.look; rw [if_pos (.inr hb)]
      have HF := Lib.hid hf; clear hf hE he
      by_cases h0 : n < 0
      · have h1 : decide (n < 0) = true := by simpa using h0
        clear hb
        go_enter Tryz.func84, Tryz.ntmps84
        go_wp2
        go_ret2
        exact ⟨by rw [HF.out]; rfl, 0, rfl⟩
      · have h1 : 32 < n := by omega
        clear hb
        go_enter Tryz.func84, Tryz.ntmps84
        go_wp2
        go_ret2
        exact ⟨by rw [HF.out]; rfl, 0, rfl⟩
    · have h0 : 0 ≤ n := by omega
      have h1 : n ≤ 32 := by omega
      obtain ⟨n, rfl⟩ := Int.eq_ofNat_of_zero_le h0
      have hp1 := h.2.2.1.1
      have hlm : s.l.length ≤ 140737488355328 := h.2.2.1.2.1
      have hf : s.look n = (num s.l s.pos n, (min n s.left)) := by unfold RS.look; rw [if_neg (by omega)]; simp
      have HF := Lib.hid hf; clear hf hE he hb
      obtain ⟨a, cap, rfl, _⟩ := h.2.1.shape
      go_enter Tryz.func84, Tryz.ntmps84
      go_wp2_with fail
      go_quiet (first | (go_at_call 68; exact quiet_left (number_c _ _ _ s.pos n (by omega) (by omega) (h.drewN _).2.1)) | (go_at_call 28; exact Calls.quiet_of (rleft_c _ _ _ _ (h.drewN _))) | (go_at_call 18; exact quiet_left (within_c _ _ _ _ (by omega))))
      go_wp2
      go_ret2
      exact ⟨by rw [HF.out]; exact ret_ints rfl (by omega), _, rfl⟩
  · have he2 : ((s.err : Int) != 0) = true := by simp; omega
    have hf : (s.look n) = (0, 0) := by unfold RS.look; rw [if_pos (.inl he)]
    have HF := Lib.hid hf; clear hf hE he
    go_enter Tryz.func84, Tryz.ntmps84
    go_wp2
    go_ret2
    exact ⟨by rw [HF.out]; rfl, 0, rfl⟩
end Go.Proofs.YtokfcgloogdeiaaGreatDoor
namespace Go.Proofs.YtokfcgloogdeiaaGreatDoor
set_option linter.unusedVariables false
set_option linter.unusedSimpArgs false

/-- the rows' bytes; n symbols of the row at hand stand ahead, the first one counted -/
def pk : Nat → List Nat → List UInt8
  | _, [] => []
  | n, x :: L => match L with
    | [] => [UInt8.ofNat ((n - 1) * 16 + x - 1)]
    | y :: _ => if y = x ∧ n < 16 then pk (n + 1) L else UInt8.ofNat ((n - 1) * 16 + x - 1) :: pk 1 L
/-- the lengths' bytes -/
def packL (L : List Nat) : List UInt8 := UInt8.ofNat ((pk 1 L).length - 1) :: pk 1 L
theorem pk_one (n x : Nat) : pk n [x] = [UInt8.ofNat ((n - 1) * 16 + x - 1)] := rfl
theorem pk_more (n x y : Nat) (L : List Nat) (h : y = x ∧ n < 16) : pk n (x :: y :: L) = pk (n + 1) (y :: L) := by rw [pk]; simp only [if_pos h]
theorem pk_end (n x y : Nat) (L : List Nat) (h : ¬ (y = x ∧ n < 16)) : pk n (x :: y :: L) = UInt8.ofNat ((n - 1) * 16 + x - 1) :: pk 1 (y :: L) := by rw [pk]; simp only [if_neg h]
theorem pk_len (L : List Nat) : ∀ n, (pk n L).length ≤ L.length := by
  induction L with
  | nil => intro n; simp [pk]
  | cons x L ih =>
    intro n
    cases L with
    | nil => simp [pk]
    | cons y L =>
      by_cases h : y = x ∧ n < 16
      · rw [pk_more n x y L h]; have := ih (n + 1); simp only [List.length_cons] at *; omega
      · rw [pk_end n x y L h]; have := ih 1; simp only [List.length_cons] at *; omega
theorem pk_pos (L : List Nat) (h : L ≠ []) : ∀ n, 0 < (pk n L).length := by
  induction L with
  | nil => exact absurd rfl h
  | cons x L ih =>
    intro n
    cases L with
    | nil => simp [pk]
    | cons y L =>
      by_cases h : y = x ∧ n < 16
      · rw [pk_more n x y L h]; exact ih (by simp) _
      · rw [pk_end n x y L h]; simp
/-- the lengths of a row -/
def rowOf (x : Nat) : List Int := List.replicate (x / 16 + 1) ((x % 16 + 1 : Nat) : Int)
theorem pk_rows (L : List Nat) (h : ∀ x ∈ L, 1 ≤ x ∧ x ≤ 16) : ∀ n, 1 ≤ n → n ≤ 16 → ∀ x M, L = x :: M → ((pk n L).flatMap fun b => rowOf b.toNat) = List.replicate (n - 1) (x : Int) ++ L.map fun (y : Nat) => (y : Int) := by
  induction L with
  | nil => intro n _ _ x M e; cases e
  | cons x L ih =>
    intro n h1 h2 x' M e
    obtain ⟨rfl, rfl⟩ : x = x' ∧ L = M := by simpa using e
    have hx := h x (by simp)
    have hb : (UInt8.ofNat ((n - 1) * 16 + x - 1)).toNat = (n - 1) * 16 + x - 1 := by
      rw [UInt8.toNat_ofNat']; exact Nat.mod_eq_of_lt (by omega)
    have hr : rowOf (UInt8.ofNat ((n - 1) * 16 + x - 1)).toNat = List.replicate (n - 1) (x : Int) ++ [(x : Int)] := by
      rw [hb]
      unfold rowOf
      rw [show ((n - 1) * 16 + x - 1) / 16 + 1 = (n - 1) + 1 by omega, show ((n - 1) * 16 + x - 1) % 16 + 1 = x by omega, List.replicate_succ']
    cases L with
    | nil => rw [pk_one, List.flatMap_cons, hr]; simp
    | cons y L =>
      by_cases hc : y = x ∧ n < 16
      · rw [pk_more n x y L hc, ih (fun z hz => h z (by simp only [List.mem_cons] at hz ⊢; exact .inr hz)) (n + 1) (by omega) (by omega) y L rfl]
        obtain ⟨rfl, _⟩ := hc
        have hs : List.replicate (n + 1 - 1) (y : Int) = List.replicate (n - 1) (y : Int) ++ [(y : Int)] := by
          obtain ⟨m, rfl⟩ : ∃ m, n = m + 1 := ⟨n - 1, by omega⟩
          rw [Nat.add_sub_cancel, Nat.add_sub_cancel, List.replicate_succ']
        rw [hs, List.map_cons (a := y) (l := y :: L)]
        simp
      · rw [pk_end n x y L hc, List.flatMap_cons, hr, ih (fun z hz => h z (by simp only [List.mem_cons] at hz ⊢; exact .inr hz)) 1 (by omega) (by omega) y L rfl]
        simp
/-- reading so many rows: lengths, error, the reader's state -/
def unpR : Nat → RS → List Int × Nat × RS
  | 0, s => ([], 0, s)
  | k + 1, s =>
    if (s.bits 8).2.E ≠ 0 then ([], (s.bits 8).2.E, (s.bits 8).2)
    else if (unpR k (s.bits 8).2).2.1 ≠ 0 then ([], (unpR k (s.bits 8).2).2)
    else (rowOf (s.bits 8).1 ++ (unpR k (s.bits 8).2).1, 0, (unpR k (s.bits 8).2).2.2)
/-- reading lengths -/
def RS.unp (n : Int) (s : RS) : List Int × Nat × RS :=
  if n < 1 ∨ 256 < n then ([], 2, s)
  else if (unpR ((s.bits 8).1 + 1) (s.bits 8).2).2.1 ≠ 0 then ([], (unpR ((s.bits 8).1 + 1) (s.bits 8).2).2)
  else if ((unpR ((s.bits 8).1 + 1) (s.bits 8).2).1.length : Int) ≠ n then ([], 6, (unpR ((s.bits 8).1 + 1) (s.bits 8).2).2.2)
  else ((unpR ((s.bits 8).1 + 1) (s.bits 8).2).1, 0, (unpR ((s.bits 8).1 + 1) (s.bits 8).2).2.2)
theorem bits8_at (l : List UInt8) (i : Nat) (hi : i < l.length) : (⟨l, 8 * i, true, 0⟩ : RS).bits 8 = (byteAt l i, ⟨l, 8 * (i + 1), true, 0⟩) := by
  have hE : (⟨l, 8 * i, true, 0⟩ : RS).E = 0 := rfl
  have hl : (⟨l, 8 * i, true, 0⟩ : RS).left = 8 * l.length - 8 * i := by unfold RS.left; rw [if_pos hE]
  unfold RS.bits
  rw [if_neg (by omega), if_neg (by simp [hE]), if_neg (by rw [hl]; omega)]
  show (num l (8 * i) 8, (⟨l, 8 * i + 8, true, 0⟩ : RS)) = _
  rw [num_byte, Nat.mul_add]
theorem unpR_run (l : List UInt8) : ∀ k i, i + k ≤ l.length → unpR k ⟨l, 8 * i, true, 0⟩ = (((l.drop i).take k).flatMap fun b => rowOf b.toNat, 0, ⟨l, 8 * (i + k), true, 0⟩) := by
  intro k
  induction k with
  | zero => intro i _; simp [unpR]
  | succ k ih =>
    intro i h
    have h8 := bits8_at l i (by omega)
    have hd : (l.drop i).take (k + 1) = l[i] :: (l.drop (i + 1)).take k := by
      rw [List.drop_eq_getElem_cons (by omega), List.take_succ_cons]
    have hE : (⟨l, 8 * (i + 1), true, 0⟩ : RS).E = 0 := rfl
    rw [unpR, h8, ih (i + 1) (by omega), hd]
    simp only [hE, ne_eq, not_true_eq_false, if_false, List.flatMap_cons]
    have hb : byteAt l i = l[i].toNat := (byteAt_get l i (by omega)).symm
    rw [hb, show i + 1 + k = i + (k + 1) by omega]
theorem unp_pack (L : List Nat) (h : ∀ x ∈ L, 1 ≤ x ∧ x ≤ 16) (h0 : L ≠ []) (h256 : L.length ≤ 256) : (⟨packL L, 0, true, 0⟩ : RS).unp L.length = (L.map fun (y : Nat) => (y : Int), 0, ⟨packL L, 8 * (packL L).length, true, 0⟩) := by
  have hp := pk_pos L h0 1
  have hl := pk_len L 1
  have hpl : 0 < L.length := by cases L; exact absurd rfl h0; simp
  have hlen : (packL L).length = (pk 1 L).length + 1 := rfl
  have h8 := bits8_at (packL L) 0 (by omega)
  rw [Nat.mul_zero, Nat.zero_add] at h8
  have hb : byteAt (packL L) 0 = (pk 1 L).length - 1 := by
    show (UInt8.ofNat ((pk 1 L).length - 1)).toNat = _
    rw [UInt8.toNat_ofNat']; exact Nat.mod_eq_of_lt (by omega)
  have hr := unpR_run (packL L) (pk 1 L).length 1 (by omega)
  have hd : ((packL L).drop 1).take (pk 1 L).length = pk 1 L := by
    show (pk 1 L).take (pk 1 L).length = _
    exact List.take_length
  obtain ⟨x, M, rfl⟩ : ∃ x M, L = x :: M := by cases L; exact absurd rfl h0; exact ⟨_, _, rfl⟩
  rw [hd, pk_rows (x :: M) h 1 (by omega) (by omega) x M rfl] at hr
  unfold RS.unp
  rw [if_neg (by omega), h8]
  simp only [hb, show (pk 1 (x :: M)).length - 1 + 1 = (pk 1 (x :: M)).length by omega]
  rw [hr]
  simp only [ne_eq, not_true_eq_false, if_false, Nat.sub_self, List.replicate_zero, List.nil_append, List.length_map]
  rw [hlen, Nat.add_comm 1]
end Go.Proofs.YtokfcgloogdeiaaGreatDoor
namespace Go.Proofs.YtokfcgloogdeiaaGreatDoor
set_option linter.unusedVariables false
set_option linter.unusedSimpArgs false

/-- the bytes of bits, filled up with noughts -/
def ofBits (bs : List Bool) : List UInt8 := (List.range ((bs.length + 7) / 8)).map fun j => UInt8.ofNat (nv bs (8 * j) 8)
theorem ofBits_take (bs : List Bool) (j : Nat) (h : 8 * j ≤ bs.length + 7) : toBits ((List.range j).map fun j => UInt8.ofNat (nv bs (8 * j) 8)) = (pad8 bs).take (8 * j) := by
  induction j with
  | zero => rfl
  | succ j ih =>
    rw [List.range_succ, List.map_append, toBits_append, ih (by omega), pad8_seg bs j (by omega)]
    congr 1
    exact toBits_one _ (nv_lt bs (8 * j) 8)
theorem toBits_ofBits (bs : List Bool) : toBits (ofBits bs) = pad8 bs := by
  unfold ofBits
  rw [ofBits_take bs _ (by omega), List.take_of_length_le (by rw [pad8_length]; omega)]
theorem bits_at (L : List UInt8) (pre post : List Bool) (x n : Nat) (h : toBits L = (pre ++ bitsOf x n) ++ post) (hn : n ≤ 32) (hx : x < 2 ^ n) : (⟨L, pre.length, true, 0⟩ : RS).bits n = (x, ⟨L, (pre ++ bitsOf x n).length, true, 0⟩) := by
  have hl := congrArg List.length h
  simp only [toBits_length, List.length_append, bitsOf_length] at hl
  have hE : (⟨L, pre.length, true, 0⟩ : RS).E = 0 := rfl
  unfold RS.bits
  rw [if_neg (by omega), if_neg (by simpa using hE), if_neg (by unfold RS.left; rw [if_pos hE]; dsimp only; omega)]
  rw [Int.toNat_natCast]
  dsimp only
  rw [num_seg L pre post x n h, Nat.mod_eq_of_lt hx, List.length_append, bitsOf_length]
end Go.Proofs.YtokfcgloogdeiaaGreatDoor
/-! The document's own writer of bits. -/
namespace Go.Proofs.YtokfcgloogdeiaaGreatDoor
set_option linter.unusedVariables false
set_option linter.unusedSimpArgs false
open Go.ChangeShapes Go.WideShapes Go.ChangeAt Go.RowKit

def bb (b : Bool) : UInt8 := if b then 1 else 0
/-- block q is the document's writer of the bits bs -/
def Rw (w : World) (q : Nat) (v : Value) (bs : List Bool) : Prop := Blk w q #[v] 78 ∧ OwnB w v (bs.map bb) ∧ ∀ b, v.ownBlock = some b → b ≠ q
theorem Rw.keep {w w' : World} {q : Nat} {v : Value} {bs : List Bool} {S : List Nat} (H : Rw w q v bs) (k : Keep S w w') (hq : q ∉ S) (hv : ∀ b, v.ownBlock = some b → b ∉ S) : Rw w' q v bs :=
  ⟨H.1.keep k hq, H.2.1.keep k hv, H.2.2⟩
/-- what a call may leave of a writer -/
def RwTo (w w' : World) (q : Nat) (v : Value) (bs : List Bool) : Prop := ∃ v', Rw w' q v' bs ∧ Keep (q :: v.ownBlock.toList) w w' ∧ ∀ b, v'.ownBlock = some b → v.ownBlock = some b ∨ w.heap.size ≤ b
theorem RwTo.refl {w : World} {q : Nat} {v : Value} {bs : List Bool} (h : Rw w q v bs) : RwTo w w q v bs := ⟨v, h, Keep.refl _ _, fun b hb => .inl hb⟩
theorem RwTo.trans {w w1 w2 : World} {q : Nat} {v v1 : Value} {bs2 : List Bool} (hk : Keep (q :: v.ownBlock.toList) w w1) (hv : ∀ b, v1.ownBlock = some b → v.ownBlock = some b ∨ w.heap.size ≤ b) (h2 : RwTo w1 w2 q v1 bs2) : RwTo w w2 q v bs2 := by
  obtain ⟨v2, hw2, hk2, hv2⟩ := h2
  refine ⟨v2, hw2, hk.trans hk2 ?_, ?_⟩
  · intro b hb
    simp at hb
    rcases hb with rfl | hb
    · left; simp
    · rcases hv b hb with h | h
      · left; simp [h]
      · right; exact h
  · intro b hb
    rcases hv2 b hb with h | h
    · exact hv b h
    · right; have := hk.size; omega
theorem rput_bit (x : Nat) : (UInt8.ofNat (x % 2)).toNat = x % 2 ∧ UInt8.ofNat (x % 2) = bb (x % 2 == 1) := by
  rcases Nat.mod_two_eq_zero_or_one x with h | h <;> rw [h] <;> exact ⟨rfl, rfl⟩
set_option maxHeartbeats 1000000 in
theorem rput_c (w : World) (q : Nat) (v : Value) (bs : List Bool) (y : Nat) (n : Int) (hy : y < 4294967296) (H : Rw w q v bs) (hl : bs.length ≤ 140737488355000) :
    Calls Tryz.prog 29 #[.pointer (some ⟨q, 0, none⟩), .int .u32 y, .int .i64 n] w fun e w' => e = .returned (.tuple #[]) ∧ RwTo w w' q v (bs ++ bitsOf y (cln n)) := by
  go_enter Tryz.func29, Tryz.ntmps29
  go_wp2
  go_loopw [1, 6] (fun a i wr => ∃ k z : Nat, k ≤ cln n ∧ i = .int .i64 k ∧ a = .int .u32 z ∧ z < 4294967296 ∧ Hid (bs ++ bitsOf y (cln n) = (bs ++ bitsOf y k) ++ bitsOf z (cln n - k)) ∧ RwTo w wr q v (bs ++ bitsOf y k)) (fun _ i _ => 32 - (intOf i).toNat)
  case atStart => exact ⟨0, y, by omega, rfl, rfl, hy, by simp [Hid, bitsOf], by simpa [bitsOf] using RwTo.refl H⟩
  case round =>
    obtain ⟨k, z, hk, rfl, rfl, hz, HB, HR⟩ := hrel
    have hkn : k ≤ 32 ∧ ((k : Int) < n ∧ k < 32 ↔ k < cln n) := by unfold cln at hk ⊢; omega
    obtain ⟨hk32, hiff⟩ := hkn
    by_cases hlt : (k : Int) < n ∧ k < 32
    · have hkc := hiff.1 hlt
      obtain ⟨h1, h2⟩ := hlt
      have h2' : (k : Int) < 32 := by omega
      obtain ⟨v1, hw1, hk1, hv1⟩ := HR
      have c0 := hw1.1.cell 0 _ rfl
      obtain ⟨a1, n1, cp1, rfl⟩ := hw1.2.1.shape
      have KA : Keep [] wr (wr.alloc (.cells #[.int .u8 (z % 2)] 5)) := (Keep.refl [] wr).alloc _
      have hO := hw1.2.1.keep KA (by simp)
      have hB := hw1.1.keep KA (by simp)
      have hS : Bs (wr.alloc (.cells #[.int .u8 (z % 2)] 5)) (.slice (some ⟨wr.heap.size, 0, none⟩) 1 1) [bb (z % 2 == 1)] := by
        have := Bs.new1 wr (UInt8.ofNat (z % 2))
        rw [(rput_bit z).1, (rput_bit z).2] at this
        simpa using this
      have hlen : ((bs ++ bitsOf y k).map bb).length + [bb (z % 2 == 1)].length ≤ 140737488355328 := by simp [bitsOf_length]; omega
      have hv1r := hw1.2.2
      have hrlt := hw1.1.lt
      have HB2 : Hid (bs ++ bitsOf y (cln n) = (bs ++ bitsOf y (k + 1)) ++ bitsOf (z / 2) (cln n - (k + 1)) ∧ (bs ++ bitsOf y k) ++ [z % 2 == 1] = bs ++ bitsOf y (k + 1)) := by
        have h3 : cln n - k = (cln n - (k + 1)) + 1 := by omega
        have h4 := HB.out
        rw [h3, bitsOf] at h4
        have h5 : (bs ++ bitsOf y k) ++ [z % 2 == 1] = bs ++ bitsOf y (k + 1) := by
          have h6 : bitsOf y (cln n) = bitsOf y (k + 1) ++ bitsOf (y / 2 ^ (k + 1)) (cln n - (k + 1)) := by rw [← bitsOf_add]; congr 1; omega
          rw [h6, List.append_assoc] at h4
          have h7 := List.append_cancel_left h4
          have h8 : (bitsOf y (k + 1)) = bitsOf y k ++ [z % 2 == 1] := by
            have := List.append_inj (s₁ := bitsOf y (k + 1)) (s₂ := bitsOf y k ++ [z % 2 == 1]) (by simpa using h7) (by simp [bitsOf_length])
            exact this.1
          rw [h8]; simp
        refine ⟨?_, h5⟩
        rw [h4, ← h5]; simp
      have Hv1 := Lib.hid hv1; have Hv1r := Lib.hid hv1r; have Hiff := Lib.hid hiff
      clear hv1 hv1r hiff HB
      go_wp2_with (at_builtin; (refine wpList_appendB (.tmp 22) (.tmp 26) rfl rfl (.slice a1 n1 cp1) _ rfl hO (.slice (some ⟨wr.heap.size, 0, none⟩) 1 1) [bb (z % 2 == 1)] rfl hS hlen ?_); (intro v3 w3 ho3 hk3 hb3 hz3); (obtain ⟨a3, n3, cp3, rfl⟩ := ho3.shape); (have HR3 := hB.keep hk3 (fun hm => Hv1r.out q (by simpa using hm) rfl)); (have d0 := HR3.cell 0 _ rfl); (have g0 := HR3.free 0))
      go_roundw
      case rel =>
        refine ⟨k + 1, z / 2, by omega, by go_num, by go_num, by omega, HB2.out.1, ?_⟩
        refine RwTo.trans hk1 Hv1.out ?_
        have hr3 : ∀ b, (Value.slice a3 n3 cp3).ownBlock = some b → b ≠ q := by
          intro b hb e
          rcases hb3 b hb with h | h
          · exact Hv1r.out b h e
          · simp at h; omega
        refine ⟨.slice a3 n3 cp3, ⟨by simpa using HR3.set 0 (.slice a3 n3 cp3), ?_, hr3⟩, ?_, ?_⟩
        · have e : (bs ++ bitsOf y k).map bb ++ [bb (z % 2 == 1)] = (bs ++ bitsOf y (k + 1)).map bb := by rw [← HB2.out.2]; simp
          rw [← e]
          exact ho3.keep ((Keep.refl [q] _).setCell (by simp) _) (by simpa using hr3)
        · exact ((KA.nil.trans hk3 (fun b hb => .inl (List.mem_cons_of_mem _ hb))).setCell (by simp) _)
        · intro b hb
          rcases hb3 b hb with h | h
          · exact .inl h
          · right; simp at h; omega
      case measure => simp [intOf]; omega
    · have hkc : k = cln n := by omega
      have Hkc := Lib.hid hkc; have Hiff := Lib.hid hiff
      clear hkc hiff
      by_cases h1 : (k : Int) < n
      · have h2 : ¬ (k : Int) < 32 := by omega
        clear hlt
        go_wp2
        go_end0
        exact ⟨rfl, by rw [← Hkc.out]; exact HR⟩
      · clear hlt
        go_wp2
        go_end0
        exact ⟨rfl, by rw [← Hkc.out]; exact HR⟩
set_option maxHeartbeats 1000000 in
theorem ralign8_c (w : World) (q : Nat) (v : Value) (bs : List Bool) (H : Rw w q v bs) (hl : bs.length ≤ 140737488354000) :
    Calls Tryz.prog 30 #[.pointer (some ⟨q, 0, none⟩)] w fun e w' => e = .returned (.tuple #[]) ∧ RwTo w w' q v (pad8 bs) := by
  go_enter Tryz.func30, Tryz.ntmps30
  go_wp2
  go_loopg [] ((8 - bs.length % 8) % 8) (fun g wr => ∃ m, g + m = (8 - bs.length % 8) % 8 ∧ RwTo w wr q v (bs ++ List.replicate m false))
  case atStart => exact ⟨0, by omega, by simpa using RwTo.refl H⟩
  case round =>
    obtain ⟨m, hm, v1, hw1, hk1, hv1⟩ := hrel
    have c0 := hw1.1.cell 0 _ rfl
    obtain ⟨a1, cp1, rfl, hc1, hc2⟩ := hw1.2.1.bs.shape
    have hlen : ((bs ++ List.replicate m false).map bb).length = bs.length + m := by simp
    rw [hlen] at c0 hc1 hw1 hv1
    unfold maxLen at hc2
    have Hv1 := Lib.hid hv1; clear hv1
    by_cases hg : gk = 0
    · have h8 : ((bs.length : Int) + m) % 8 = 0 := by omega
      have hne : (((bs.length : Int) + m) % 8 != 0) = false := by rw [h8]; rfl
      have hp : Hid (pad8 bs = bs ++ List.replicate m false) := by unfold Hid pad8; rw [show m = (8 - bs.length % 8) % 8 by omega]
      clear h8
      go_wp2
      go_end0
      exact ⟨rfl, by rw [hp.out]; exact ⟨_, hw1, hk1, Hv1.out⟩⟩
    · have hne : (((bs.length : Int) + m) % 8 != 0) = true := by simp; omega
      have hp := Lib.hid (rput_c wr q _ _ 0 1 (by decide) hw1 (by simp; omega))
      go_wp2_with fail
      refine hp.out.mono ?_; rintro e w2 ⟨rfl, hR⟩
      go_wp2_with fail
      go_roundg (gk - 1)
      case rel =>
        refine ⟨m + 1, by omega, RwTo.trans hk1 Hv1.out ?_⟩
        have e : bs ++ List.replicate (m + 1) false = (bs ++ List.replicate m false) ++ bitsOf 0 (cln 1) := by
          rw [show cln 1 = 1 from rfl, List.append_assoc, show bitsOf 0 1 = List.replicate 1 false from rfl, List.replicate_append_replicate]
        rw [e]; exact hR
      case measure => omega
set_option maxHeartbeats 1000000 in
theorem rputbytes_c (w : World) (q : Nat) (v : Value) (bs : List Bool) (v2 : Value) (l2 : List UInt8) (H : Rw w q v bs) (hb : Bs w v2 l2) (hdis : l2 ≠ [] → ∀ b, v2.ownBlock = some b → b ≠ q ∧ v.ownBlock ≠ some b) (hl : bs.length + 8 * l2.length ≤ 140737488353000) :
    Calls Tryz.prog 31 #[.pointer (some ⟨q, 0, none⟩), v2] w fun e w' => e = .returned (.tuple #[]) ∧ RwTo w w' q v (pad8 bs ++ toBits l2) := by
  have hpl := pad8_length bs
  go_enter Tryz.func31, Tryz.ntmps31
  go_wp2_with fail
  refine (ralign8_c w q v bs H (by omega)).mono ?_; rintro e w1 ⟨rfl, HR⟩
  obtain ⟨a2, cap2, rfl, hc2, hm2⟩ := hb.shape
  unfold maxLen at hm2
  have Hdis := Lib.hid hdis; have Hpl := Lib.hid hpl; clear hdis hpl
  go_wp2_with fail
  go_loopw [4] (fun i wr => ∃ k : Nat, k ≤ l2.length ∧ i = .int .i64 k ∧ RwTo w wr q v (pad8 bs ++ toBits (l2.take k))) (fun i _ => l2.length - (intOf i).toNat)
  case atStart => exact ⟨0, by omega, rfl, by simpa [toBits] using HR⟩
  case round =>
    obtain ⟨k, hk, rfl, v1, hw1, hk1, hv1⟩ := hrel
    have Hv1 := Lib.hid hv1; clear hv1
    by_cases hlt : k < l2.length
    · rcases hb.cases with ⟨rfl, _⟩ | ⟨_, b, off, cap, h, _, _, hbl, hcell⟩
      · simp at hlt
      · simp only [Value.slice.injEq] at h
        obtain ⟨rfl, _, rfl⟩ := h
        have hd := Hdis.out (by intro e; rw [e] at hlt; simp at hlt) b rfl
        have e1 : wr.cell? ⟨b, off + k, none⟩ = some (.int .u8 (l2[k].toNat)) := hk1.cell (hcell k hlt) (by simp; exact ⟨hd.1, fun h => hd.2 h⟩)
        have hb1 : l2[k].toNat < 256 := l2[k].toNat_lt
        have hlen : ((pad8 bs) ++ toBits (l2.take k)).length ≤ 140737488355000 := by
          rw [List.length_append, toBits_length, Hpl.out, List.length_take]; omega
        have HT : Hid (pad8 bs ++ toBits (l2.take (k + 1)) = (pad8 bs ++ toBits (l2.take k)) ++ bitsOf (l2[k].toNat) (cln 8)) := by
          unfold Hid; rw [List.take_succ_eq_append_getElem hlt, toBits_append]; simp [toBits]; rfl
        have hp := Lib.hid (rput_c wr q v1 _ (l2[k].toNat) 8 (by omega) hw1 hlen)
        generalize l2[k].toNat = x at e1 hb1 HT hp
        clear hcell hd
        go_wp2_with fail
        refine hp.out.mono ?_; rintro e w2 ⟨rfl, hR⟩
        go_wp2_with fail
        go_roundw
        case rel => exact ⟨k + 1, by omega, by go_num, by rw [HT.out]; exact RwTo.trans hk1 Hv1.out hR⟩
        case measure => simp [intOf]; omega
    · have ht : Hid (l2.take k = l2) := List.take_of_length_le (by omega)
      go_wp2
      go_end0
      exact ⟨rfl, v1, by rw [ht.out] at hw1; exact hw1, hk1, Hv1.out⟩
theorem bb_nat (bs : List Bool) (i : Nat) (h : i < bs.length) : ((bs.map bb)[i]'(by simpa using h)).toNat = nb bs i := by
  unfold nb
  rw [List.getD_eq_getElem?_getD, List.getElem?_eq_getElem h]
  simp only [List.getElem_map, Option.getD_some]
  cases bs[i] <;> rfl
set_option maxHeartbeats 2000000 in
theorem rwbytes_c (w : World) (q : Nat) (v : Value) (bs : List Bool) (H : Rw w q v bs) (hl : bs.length ≤ 140737488353000) :
    Calls Tryz.prog 37 #[.pointer (some ⟨q, 0, none⟩)] w fun e w' => ∃ v' l', e = .returned v' ∧ OwnB w' v' l' ∧ toBits l' = pad8 bs ∧ Keep [] w w' ∧ ∀ b, v'.ownBlock = some b → w.heap.size ≤ b := by
  have hpl := Lib.hid (pad8_length bs)
  obtain ⟨a, cap, rfl, hc, hm⟩ := H.2.1.bs.shape
  have hll : (bs.map bb).length = bs.length := by simp
  rw [hll] at H hc
  unfold maxLen at hm
  have Hll := Lib.hid hll; clear hll
  go_enter Tryz.func37, Tryz.ntmps37
  go_wp2
  go_loopw [3, 4] (fun o i wr => ∃ (j J : Nat) (l' : List UInt8), J ≤ bs.length + 7 ∧ Hid (J = 8 * j) ∧ i = .int .i64 J ∧ OwnB wr o l' ∧ Hid (toBits l' = (pad8 bs).take J) ∧ l'.length = j ∧ Keep [] w wr ∧ (∀ b, o.ownBlock = some b → w.heap.size ≤ b)) (fun _ i _ => bs.length + 8 - (intOf i).toNat)
  case atStart => exact ⟨0, 0, [], by omega, rfl, rfl, OwnB.nil _, by simp [Hid, toBits], rfl, Keep.refl _ _, by simp [Value.ownBlock]⟩
  case round =>
    obtain ⟨j, J, l', hj, HJ, rfl, ho, HT, hlj, K1, hv⟩ := hrel
    have hw1 := H.keep K1 (by simp) (by simp)
    have c0 := hw1.1.cell 0 _ rfl
    have Hv := Lib.hid hv; clear hv
    have Hlj := Lib.hid hlj; clear hlj
    by_cases hlt : J < bs.length
    · go_wp2
      go_loop [5, 6] (fun c i => ∃ (k x : Nat), k ≤ 8 ∧ i = .int .i64 (k - 1) ∧ c = .int .u8 x ∧ Hid (x = nv bs (J + k) (8 - k)) ∧ x < 2 ^ (8 - k)) (fun _ i => (intOf i + 1).toNat)
      case atStart => exact ⟨8, 0, by omega, rfl, rfl, rfl, by decide⟩
      case round =>
        obtain ⟨k, x, hk, rfl, rfl, HX, hx⟩ := hrel
        by_cases hk0 : 0 < k
        · obtain ⟨k, rfl⟩ : ∃ k', k = k' + 1 := ⟨k - 1, by omega⟩
          have hkk : (((k + 1 : Nat) : Int) - 1) = k := by omega
          rw [hkk]
          have hx2 : x < 128 := Nat.lt_of_lt_of_le hx (Nat.pow_le_pow_right (n := 2) (j := 7) (by decide) (by omega))
          have hstep : nv bs (J + k) (8 - k) = x * 2 + nb bs (J + k) := by
            rw [HX.out, show 8 - k = (8 - (k + 1)) + 1 by omega, nv]; rfl
          have hn2 : x * 2 + nb bs (J + k) < 2 ^ (8 - k) := by rw [← hstep]; exact nv_lt _ _ _
          have Hstep := Lib.hid hstep; have Hn2 := Lib.hid hn2; have hnb := nb_lt bs (J + k)
          clear hstep hn2 hkk hx
          by_cases hin : J + k < bs.length
          · rcases H.2.1.cases with ⟨h1, _⟩ | ⟨g, cap', h1, _, _, hcell, hg⟩
            · simp only [Value.slice.injEq] at h1; omega
            · simp only [Value.slice.injEq] at h1
              obtain ⟨rfl, hxx, rfl⟩ := h1
              clear hxx
              have e1 := K1.cell (hcell (J + k) (by rw [Hll.out]; exact hin)) (by simp)
              rw [bb_nat bs _ hin] at e1
              generalize nb bs (J + k) = y at e1 Hstep Hn2 hnb
              clear hcell
              go_wp2
              go_round
              case rel => exact ⟨k, x * 2 + y, by omega, by go_num, by go_num, Hstep.out.symm, Hn2.out⟩
              case measure => simp [intOf] <;> omega
          · have hz : nb bs (J + k) = 0 := by
              unfold nb; rw [List.getD_eq_getElem?_getD, List.getElem?_eq_none (by omega)]; rfl
            rw [hz] at Hstep Hn2 hnb
            clear hz
            go_wp2
            go_round
            case rel => exact ⟨k, x * 2 + 0, by omega, by go_num, by go_num, Hstep.out.symm, Hn2.out⟩
            case measure => simp [intOf] <;> omega
        · obtain rfl : k = 0 := by omega
          have hx8 : x < 256 := hx
          have hseg := Lib.hid (show (pad8 bs).take (8 * (j + 1)) = (pad8 bs).take J ++ bitsOf (nv bs J 8) 8 by rw [HJ.out]; exact pad8_seg bs j (by rw [← HJ.out]; exact hlt))
          have hT : Hid (toBits (l' ++ [UInt8.ofNat x]) = (pad8 bs).take (8 * (j + 1))) := by
            unfold Hid; rw [toBits_append, hseg.out, HT.out, toBits_one x hx8, HX.out]; rfl
          have KA : Keep [] wr (wr.alloc (.cells #[.int .u8 x] 5)) := (Keep.refl [] wr).alloc _
          have hO := ho.keep KA (by simp)
          have hS : Bs (wr.alloc (.cells #[.int .u8 x] 5)) (.slice (some ⟨wr.heap.size, 0, none⟩) 1 1) [UInt8.ofNat x] := by
            have := Bs.new1 wr (UInt8.ofNat x)
            rwa [show (UInt8.ofNat x).toNat = x by simp [UInt8.toNat_ofNat']; omega] at this
          have hlen : l'.length + [UInt8.ofNat x].length ≤ 140737488355328 := by have := HJ.out; rw [Hlj.out]; simp; omega
          clear hx
          go_wp2_with (at_builtin; (refine wpList_appendB (.tmp 42) (.tmp 44) rfl rfl u3 l' rfl hO (.slice (some ⟨wr.heap.size, 0, none⟩) 1 1) [UInt8.ofNat x] rfl hS hlen ?_); (intro v3 w3 ho3 hk3 hb3 hz3))
          go_roundw
          case rel => exact ⟨j + 1, J + 8, _, by omega, by unfold Hid; rw [HJ.out]; omega, by go_num, ho3, by unfold Hid; rw [hT.out, HJ.out]; rfl, by rw [List.length_append, Hlj.out]; rfl, (K1.trans KA (by simp)).trans hk3 (fun b hb => .inr (Hv.out b (by simpa using hb))), fun b hb => by
            rcases hb3 b hb with h | h
            · exact Hv.out b h
            · have := K1.size; simp at h; omega⟩
          case measure => simp [intOf]; omega
    · have ht : Hid ((pad8 bs).take (J) = pad8 bs) := List.take_of_length_le (by have := HJ.out; rw [hpl.out]; omega)
      go_wp2
      go_ret
      exact ⟨_, l', rfl, ho, by rw [HT.out, ht.out], K1, Hv.out⟩
end Go.Proofs.YtokfcgloogdeiaaGreatDoor
namespace Go.Proofs.YtokfcgloogdeiaaGreatDoor
set_option linter.unusedVariables false
set_option linter.unusedSimpArgs false
open Go.ChangeShapes Go.WideShapes Go.ChangeAt Go.RowKit

theorem ralign_c (w : World) (q : Nat) (v : Value) (s : RS) (h : Rr w q v s) : Calls Tryz.prog 69 #[.pointer (some ⟨q, 0, none⟩)] w fun e w' => e = .returned (.tuple #[]) ∧ Rr w' q v s.align ∧ Keep [q] w w' := by
  have c1 := h.1.cell 1 _ rfl
  have c2 := h.1.cell 2 _ rfl
  have f1 := h.1.free 1
  have hE := h.E
  have hp1 := h.2.2.1.1
  have hlm : s.l.length ≤ 140737488355328 := h.2.2.1.2.1
  by_cases he : s.E = 0
  · have he2 : ((s.err : Int) == 0) = true := by simp; omega
    have hf : s.align = { s with pos := (s.pos + 7) / 8 * 8 } := by
      unfold RS.align RS.left; rw [if_pos he]
      congr 1; omega
    have HF := Lib.hid hf; clear hf hE he
    go_enter Tryz.func69, Tryz.ntmps69
    go_wp2
    go_end0
    refine ⟨rfl, ?_, (Keep.refl _ _).setCell (by simp) _⟩
    rw [HF.out]
    have := h.setPos ((s.pos + 7) / 8 * 8) (by omega)
    simpa using this
  · have he2 : ((s.err : Int) == 0) = false := by simp; omega
    have hf : s.align = s := by
      unfold RS.align RS.left; rw [if_neg he]; rfl
    have HF := Lib.hid hf; clear hf hE he
    go_enter Tryz.func69, Tryz.ntmps69
    go_wp2
    go_end0
    exact ⟨rfl, by rw [HF.out]; exact h, Keep.refl _ _⟩
theorem Bs.empty_any (w : World) (a : Addr) (cap : Nat) (hm : cap ≤ maxLen) : Bs w (.slice (some a) 0 cap) [] :=
  ⟨some a, cap, rfl, by simp, hm, (fun h => nomatch h), fun _ _ i hi => by simp at hi⟩
theorem Bs.take_drop {w : World} {v : Value} {l : List UInt8} (b off cap p n : Nat) (hv : v = .slice (some ⟨b, off, none⟩) l.length cap) (h1 : l.length ≤ cap) (h2 : cap ≤ maxLen) (hc : ∀ i (hi : i < l.length), w.cell? ⟨b, off + i, none⟩ = some (.int .u8 (l[i].toNat)))
    (h : p + n ≤ l.length) : Bs w (.slice (some ⟨b, off + p, none⟩) n (cap - p)) ((l.drop p).take n) := by
  have e : ((l.drop p).take n).length = n := by simp; omega
  refine ⟨some ⟨b, off + p, none⟩, cap - p, by rw [e], by omega, by omega, (fun h => nomatch h), fun x hx i hi => ?_⟩
  obtain rfl : (⟨b, off + p, none⟩ : Addr) = x := by simpa using hx
  rw [e] at hi
  rw [show (⟨b, off + p, none⟩ : Addr).add i = ⟨b, off + (p + i), none⟩ by unfold Addr.add; split <;> simp_all; omega, hc (p + i) (by omega)]
  simp
end Go.Proofs.YtokfcgloogdeiaaGreatDoor
namespace Go.Proofs.YtokfcgloogdeiaaGreatDoor
set_option linter.unusedVariables false
set_option linter.unusedSimpArgs false
open Go.ChangeShapes Go.WideShapes Go.ChangeAt Go.RowKit

/-- an object that is spoilt -/
def Ob.gone : Ob where
  P w bs := bs = []
  keep := fun h _ _ => h
  lt := fun h b hb => by subst h; simp at hb
theorem St.lose {W w : World} {Ps : List Ob} (h : St W w Ps) (i : Nat) {P : Ob} (hi : Ps[i]? = some P) : St W w (Ps.set i Ob.gone) := by
  obtain ⟨bs, h1, h2, h3⟩ := h.focus i hi
  exact h3 w Ob.gone [] rfl (Keep.refl _ _) (fun b hb => by simp at hb)
/-- the first objects, without those in the middle -/
theorem St.cut {W w : World} (A M B : List Ob) (h : St W w (A ++ M ++ B)) : St W w (A ++ B) := by
  refine h.sub (A ++ B) (fun j => if j < A.length then j else j + M.length) (fun j => if j < A.length then j else j - M.length) (fun j hj => ?_)
  rw [List.length_append] at hj
  by_cases h1 : j < A.length
  · rw [if_pos h1, if_pos h1, List.append_assoc, List.getElem?_append_left h1, List.getElem?_append_left h1]
    exact ⟨rfl, rfl⟩
  · rw [if_neg h1, if_neg (by omega), List.getElem?_append_right (by rw [List.length_append]; omega), List.getElem?_append_right (by omega), List.length_append]
    exact ⟨by congr 1; omega, by omega⟩
/-- what came up since a later world came up since an earlier one -/
theorem St.since {W W1 w : World} {Ps : List Ob} (h : St W1 w Ps) (k : Keep [] W W1) : St W w Ps := by
  obtain ⟨h1, own, h2⟩ := h
  refine ⟨k.trans h1 (by simp), own, fun i P hi => ?_⟩
  obtain ⟨bs, h3, h4⟩ := h2 i P hi
  exact ⟨bs, h3, fun b hb => ⟨(h4 b hb).1, Nat.le_trans k.size (h4 b hb).2⟩⟩
end Go.Proofs.YtokfcgloogdeiaaGreatDoor
