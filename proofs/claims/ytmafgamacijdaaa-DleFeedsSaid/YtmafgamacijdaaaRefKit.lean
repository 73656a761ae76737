/- Contracts of the helpers Cut, Copy and Same of package duffelref01. No condition beyond each theorem's own premises. -/
import Derived.Test.YtmafgamacijdaaaAppend
/-! The document's small helpers: rows of bytes held against one another, copied, cut. -/
namespace Go.Proofs.Ytmafgamacijdaaa
set_option linter.unusedVariables false
set_option linter.unusedSimpArgs false
open Go.ChangeShapes Go.WideShapes Go.ChangeAt Go.RowKit

theorem Bs.cases {w : World} {v : Value} {l : List UInt8} (h : Bs w v l) : (l = [] ∧ ∃ a cap, v = .slice a 0 cap ∧ cap ≤ maxLen ∧ (a = none → cap = 0)) ∨
    (0 < l.length ∧ ∃ b off cap, v = .slice (some ⟨b, off, none⟩) l.length cap ∧ l.length ≤ cap ∧ cap ≤ maxLen ∧ b < w.heap.size ∧ ∀ i (hi : i < l.length), w.cell? ⟨b, off + i, none⟩ = some (.int .u8 (l[i].toNat))) := by
  obtain ⟨a, cap, rfl, h1, h2, h3, h4⟩ := h
  by_cases hl : l.length = 0
  · left; exact ⟨List.eq_nil_of_length_eq_zero hl, a, cap, by rw [hl], h2, h3⟩
  · right
    cases a with
    | none => have := h3 rfl; omega
    | some x =>
      obtain ⟨b, off, spot⟩ := x
      have hc := h4 _ rfl 0 (by omega)
      have hspot : spot = none := by simpa [Addr.add] using World.cell?_spot hc
      subst hspot
      refine ⟨by omega, b, off, cap, rfl, h1, h2, World.block_lt_of_cell? w _ hc, fun i hi => ?_⟩
      rw [← h4 _ rfl i hi]
      unfold Addr.add; split <;> simp_all
theorem Bs.shape {w : World} {v : Value} {l : List UInt8} (h : Bs w v l) : ∃ a cap, v = .slice a l.length cap ∧ l.length ≤ cap ∧ cap ≤ maxLen := by
  obtain ⟨a, cap, hv, h1, h2, _⟩ := h; exact ⟨a, cap, hv, h1, h2⟩

theorem Bs.lt {w : World} {v : Value} {l : List UInt8} (h : Bs w v l) (hl : l ≠ []) : ∀ b, v.ownBlock = some b → b < w.heap.size := by
  intro b hb
  rcases h.cases with ⟨h, _⟩ | ⟨_, b2, off, cap, rfl, _, _, hlt, _⟩
  · exact absurd h hl
  · simp only [Value.ownBlock, Option.some.injEq] at hb; omega
theorem cut_c (w : World) (v : Value) (l : List UInt8) (n : Nat) (hn : n ≤ 9223372036854775807) (h : Bs w v l) : Calls Try.prog 8 #[v, .int .i64 n] w fun e w' => ∃ v', e = .returned v' ∧ Bs w v' (l.take n) ∧ v'.ownBlock = v.ownBlock ∧ w = w' := by
  have h0 := h
  obtain ⟨a, cap, rfl, h1, h2, h3, h4⟩ := h
  unfold maxLen at h2
  by_cases hl : n < l.length
  · go_enter Try.func8, Try.ntmps8
    go_wp2
    go_ret
    have e : (l.take n).length = n := by rw [List.length_take]; omega
    refine ⟨_, rfl, ⟨a, cap, by rw [e]; rfl, by omega, by unfold maxLen; omega, h3, fun x hx i hi => ?_⟩, (by cases a <;> rfl), rfl⟩
    rw [e] at hi
    rw [h4 x hx i (by omega)]; simp
  · have ht : Hid (l.take n = l) := List.take_of_length_le (by omega)
    clear h4
    go_enter Try.func8, Try.ntmps8
    go_wp2
    go_ret
    exact ⟨_, rfl, by rw [ht.out]; exact h0, rfl, rfl⟩
theorem copy_c (w : World) (v : Value) (l : List UInt8) (hl : l.length ≤ 140737488355328) (h : Bs w v l) : Calls Try.prog 19 #[v] w fun e w' => ∃ v', e = .returned v' ∧ OwnB w' v' l ∧ Keep [] w w' ∧ ∀ b, v'.ownBlock = some b → w.heap.size ≤ b := by
  have hn := OwnB.nil w
  go_enter Try.func19, Try.ntmps19
  go_wp2_with (at_builtin; (refine wpList_appendB (.tmp 4) (.tmp 5) rfl rfl (.slice none 0 0) [] rfl hn v l rfl h (by simpa using hl) ?_); (intro v3 w3 ho3 hk3 hb3 hz3))
  go_ret
  exact ⟨v3, rfl, ho3, by simpa [Value.ownBlock] using hk3, fun b hb => by rcases hb3 b hb with h | h; simp [Value.ownBlock] at h; omega⟩

theorem same_ne (w : World) (v v' : Value) (l l' : List UInt8) (h : Bs w v l) (h' : Bs w v' l') (hl : l.length ≠ l'.length) : Calls Try.prog 13 #[v, v'] w fun e w' => e = .returned (.bool (decide (l = l'))) ∧ ∃ n, w' = w.drewN n := by
  obtain ⟨a, cap, rfl, h1, h2⟩ := h.shape
  obtain ⟨a', cap', rfl, h1', h2'⟩ := h'.shape
  have hf : decide (l = l') = false := by simp; intro e; rw [e] at hl; exact hl rfl
  have hne : ((l.length : Int) != l'.length) = true := by simp; omega
  have HF := Lib.hid hf; clear hf hl
  unfold maxLen at h2 h2'
  go_enter Try.func13, Try.ntmps13
  go_wp2
  go_ret
  exact ⟨by rw [HF.out]; rfl, 0, rfl⟩
theorem take_succ_eq {l l' : List UInt8} {k : Nat} (h : k < l.length) (h' : k < l'.length) : (l.take (k + 1) = l'.take (k + 1)) ↔ (l.take k = l'.take k ∧ l[k] = l'[k]) := by
  rw [List.take_succ_eq_append_getElem h, List.take_succ_eq_append_getElem h']
  constructor
  · intro e
    have := List.append_inj e (by simp; omega)
    exact ⟨this.1, by simpa using this.2⟩
  · rintro ⟨e1, e2⟩; rw [e1, e2]
theorem same_c (w : World) (v v' : Value) (l l' : List UInt8) (h : Bs w v l) (h' : Bs w v' l') : Calls Try.prog 13 #[v, v'] w fun e w' => e = .returned (.bool (decide (l = l'))) ∧ ∃ n, w' = w.drewN n := by
  by_cases hl : l.length = l'.length
  · rcases h.cases with ⟨rfl, a, cap, rfl, hm, _⟩ | ⟨hp, b, off, cap, rfl, h1, h2, hb, hc⟩
    · obtain rfl : l' = [] := List.eq_nil_of_length_eq_zero hl.symm
      obtain ⟨a', cap', rfl, _⟩ := h'.shape
      go_enter Try.func13, Try.ntmps13
      go_wp2
      refine wp_loop_rounds 1 ?_
      rw [rounds_succ]
      go_wp2
      go_ret
      exact ⟨by simp, 0, rfl⟩
    · rcases h'.cases with ⟨rfl, _⟩ | ⟨hp', b', off', cap', rfl, h1', h2', hb', hc'⟩
      · simp at hl; rw [hl] at hp; simp at hp
      · have hll := Lib.hid hl
        rw [← hl]
        unfold maxLen at h2 h2'
        rw [← hl] at h1'
        clear hl hp'
        go_enter Try.func13, Try.ntmps13
        go_wp2
        go_loopw [5] (fun i wr => ∃ k : Nat, k ≤ l.length ∧ i = .int .i64 k ∧ Hid (l.take k = l'.take k) ∧ ∃ n, wr = w.drewN n) (fun i _ => l.length - (intOf i).toNat)
        case atStart => exact ⟨0, by omega, rfl, rfl, 0, rfl⟩
        case round =>
          obtain ⟨k, hk, rfl, HE, n, rfl⟩ := hrel
          by_cases hlt : k < l.length
          · have e1 := hc k hlt
            have hlt' : k < l'.length := by rw [← hll.out]; exact hlt
            have e2 := hc' k hlt'
            have HT := Lib.hid (take_succ_eq hlt hlt')
            by_cases he : l[k] = l'[k]
            · have hb1 : ((l[k].toNat : Int) != l'[k].toNat) = false := by rw [he]; simp
              have HE2 : Hid (l.take (k + 1) = l'.take (k + 1)) := HT.out.2 ⟨HE.out, he⟩
              generalize l[k].toNat = x1 at e1 hb1
              generalize l'[k].toNat = x2 at e2 hb1
              clear hc hc' he
              go_wp2
              go_quiet (fail)
              go_wp2
              go_roundw
              case rel => exact ⟨k + 1, by omega, by go_num, HE2, _, rfl⟩
              case measure => simp [intOf]; omega
            · have hb1 : ((l[k].toNat : Int) != l'[k].toNat) = true := by
                have : l[k].toNat ≠ l'[k].toNat := fun e => he (UInt8.toNat_inj.1 e)
                simp; omega
              have HN : Hid (decide (l = l') = false) := by
                unfold Hid; simp only [decide_eq_false_iff_not]
                intro e; exact he (by simp [e])
              generalize l[k].toNat = x1 at e1 hb1
              generalize l'[k].toNat = x2 at e2 hb1
              clear hc hc' he
              go_wp2
              go_quiet (fail)
              go_wp2
              go_ret
              exact ⟨by rw [HN.out]; rfl, _, World.drewN_drewN _ _ _⟩
          · have HN : Hid (decide (l = l') = true) := by
              unfold Hid; simp only [decide_eq_true_eq]
              have h3 := HE.out
              have h4 := hll.out
              rwa [List.take_of_length_le (by omega), List.take_of_length_le (by omega)] at h3
            clear hc hc'
            go_wp2
            go_ret
            exact ⟨by rw [HN.out]; rfl, _, rfl⟩
  · exact same_ne w v v' l l' h h' hl
theorem Bs.spot {w : World} {v : Value} {l : List UInt8} (h : Bs w v l) (i : Nat) (hi : i < l.length) : ∃ b off cap, v = .slice (some ⟨b, off, none⟩) l.length cap ∧ w.cell? ⟨b, off + i, none⟩ = some (.int .u8 (l[i].toNat)) := by
  rcases h.cases with ⟨rfl, _⟩ | ⟨hp, b, off, cap, rfl, h1, h2, hb, hc⟩
  · simp at hi
  · exact ⟨b, off, cap, rfl, hc i hi⟩
end Go.Proofs.Ytmafgamacijdaaa
