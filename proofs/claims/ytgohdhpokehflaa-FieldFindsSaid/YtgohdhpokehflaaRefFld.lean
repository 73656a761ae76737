/- Contracts of the document's own cursor and numbers (duffelref02). -/
import Derived.Test.YtgohdhpokehflaaCur2
import Derived.Test.YtgohdhpokehflaaRow
import Derived.Test.YtgohdhpokehflaaCutB
namespace Go.Proofs.Ytgohdhpokehflaa
set_option linter.unusedVariables false
set_option linter.unusedSimpArgs false
open Go.ChangeShapes Go.WideShapes Go.ChangeAt Go.RowKit

/-- the document's number of bytes -/
theorem num_c (w : World) (v : Value) (l : List UInt8) (hl : l.length ≤ 4) (h : Bs w v l) : Calls Try.prog 12 #[v] w fun e w' => e = .returned (.int .u32 (le l)) ∧ ∃ n, w' = w.drewN n := by
  rcases h.cases with ⟨rfl, a, cap, rfl, hm, _⟩ | ⟨hp, b, off, cap, rfl, h1, h2, hb, hc⟩
  · go_enter Try.func12, Try.ntmps12
    go_wp2
    refine wp_loop_rounds 1 ?_
    rw [rounds_succ]
    go_wp2
    go_ret
    exact ⟨rfl, 0, rfl⟩
  · unfold maxLen at h2
    go_enter Try.func12, Try.ntmps12
    go_wp2
    go_loopw [3, 4] (fun x i wr => ∃ k : Nat, k ≤ l.length ∧ i = .int .i64 ((k : Int) - 1) ∧ x = .int .u32 (le (l.drop k)) ∧ ∃ n, wr = w.drewN n) (fun _ i _ => (intOf i + 1).toNat)
    case atStart => exact ⟨l.length, by omega, rfl, by simp [le], 0, rfl⟩
    case round =>
      obtain ⟨k, hk, rfl, rfl, n, rfl⟩ := hrel
      by_cases hlt : 0 < k
      · obtain ⟨j, rfl⟩ : ∃ j, k = j + 1 := ⟨k - 1, by omega⟩
        have hj : j < l.length := by omega
        have e1 := hc j hj
        have hs : le (l.drop j) = l[j].toNat + 256 * le (l.drop (j + 1)) := by rw [List.drop_eq_getElem_cons hj]; rfl
        have hb4 := le_lt32 (l.drop j) (by rw [List.length_drop]; omega)
        have e3 : ((j + 1 : Nat) : Int) - 1 = j := by omega
        rw [e3]
        have HS := Lib.hid hs; 
        generalize le (l.drop (j + 1)) = y at HS ⊢
        generalize l[j].toNat = x at e1 HS
        clear hc hs e3
        go_wp2
        go_roundw
        case rel => exact ⟨j, by omega, rfl, by have h := HS.out; rw [h]; congr 1; omega, _, rfl⟩
        case measure => simp [intOf]
      · obtain rfl : k = 0 := by omega
        clear hc
        go_wp2
        go_ret
        exact ⟨rfl, _, rfl⟩
/-- the document's bytes of a number -/
theorem refput_c (w : World) (x : Nat) (n : Nat) (hx : x < 4294967296) (hn : n ≤ 140737488355000) : Calls Try.prog 26 #[.int .u32 x, .int .i64 n] w fun e w' => ∃ v', e = .returned v' ∧ OwnB w' v' (lb n x) ∧ Keep [] w w' ∧ ∀ b, v'.ownBlock = some b → w.heap.size ≤ b := by
  go_enter Try.func26, Try.ntmps26
  go_wp2
  go_loopw [0, 5, 6] (fun y o i wr => ∃ k z : Nat, k ≤ n ∧ i = .int .i64 k ∧ y = .int .u32 z ∧ z < 4294967296 ∧ Hid (z = x / 256 ^ k) ∧ OwnB wr o (lb k x) ∧ Keep [] w wr ∧ ∀ b, o.ownBlock = some b → w.heap.size ≤ b) (fun _ _ i _ => n - (intOf i).toNat)
  case atStart => exact ⟨0, x, by omega, rfl, rfl, hx, by simp [Hid], OwnB.nil _, Keep.refl _ _, fun b hb => by simp [Value.ownBlock] at hb⟩
  case round =>
    rename_i vo _
    obtain ⟨k, z, hk, rfl, rfl, hz, HZ, ho, hkk, hv⟩ := hrel
    by_cases hlt : k < n
    · have hlen : (lb k x).length + [UInt8.ofNat z].length ≤ 140737488355328 := by simp [lb_length]; omega
      have KA : Keep [] wr (wr.alloc (.cells #[.int .u8 ((z : Int) % 256)] 5)) := (Keep.refl [] wr).alloc _
      have HB : Bs (wr.alloc (.cells #[.int .u8 ((z : Int) % 256)] 5)) (.slice (some ⟨wr.heap.size, 0, none⟩) 1 1) [UInt8.ofNat z] :=
        Bs.lit wr _ _ 1 (by simp [ints8]) rfl (by simp [maxLen])
      have hO := ho.keep KA (by simp)
      have HS := Lib.hid (lb_snoc k x)
      have HZ2 : Hid (z / 256 = x / 256 ^ (k + 1)) := by unfold Hid; rw [HZ.out, Nat.div_div_eq_div_mul, Nat.pow_succ]
      obtain ⟨a1, n1, cp1, rfl⟩ := ho.shape
      go_wp2_with (at_builtin; (refine wpList_appendB (.tmp 12) (.tmp 16) rfl rfl (.slice a1 n1 cp1) (lb k x) rfl hO (.slice (some ⟨wr.heap.size, 0, none⟩) 1 1) [UInt8.ofNat z] rfl HB hlen ?_); (intro v3 w3 ho3 hk3 hb3 hz3))
      have hv3 : ∀ b, v3.ownBlock = some b → w.heap.size ≤ b := by
        intro b hb
        rcases hb3 b hb with h | h
        · exact hv b h
        · have := hkk.size; simp at h; omega
      go_roundw
      case rel =>
        exact ⟨k + 1, z / 256, by omega, by go_num, by go_num, by omega, HZ2, by rw [HS.out, ← HZ.out]; exact ho3, (hkk.trans KA (by simp)).trans hk3 (fun b hb => .inr (hv b (by simpa using hb))), hv3⟩
      case measure => simp [intOf]; omega
    · obtain rfl : k = n := by omega
      go_wp2
      go_ret
      exact ⟨_, rfl, ho, hkk, hv⟩

/-- block q is the document's cursor in state s; its bytes lie in the slice vb -/
def Rc (w : World) (q : Nat) (vb : Value) (s : CS) : Prop :=
  Blk w q #[vb, .int .i64 s.pos, .int .i64 s.err] 30 ∧ Bs w vb s.l ∧ s.made = true ∧ s.ok ∧ (s.l ≠ [] → ∀ b, vb.ownBlock = some b → b ≠ q)
theorem Rc.keep {w w' : World} {q : Nat} {vb : Value} {s : CS} {S : List Nat} (h : Rc w q vb s) (k : Keep S w w') (hq : q ∉ S) (hv : s.l ≠ [] → ∀ b, vb.ownBlock = some b → b ∉ S) : Rc w' q vb s :=
  ⟨h.1.keep k hq, h.2.1.keep' k hv, h.2.2⟩
theorem Rc.drewN {w : World} {q : Nat} {vb : Value} {s : CS} (h : Rc w q vb s) (n : Nat) : Rc (w.drewN n) q vb s := h.keep ((Keep.refl [] w).drewN _) (by simp) (by simp)
theorem Rc.E {w : World} {q : Nat} {vb : Value} {s : CS} (h : Rc w q vb s) : s.E = s.err := by unfold CS.E; rw [h.2.2.1]; rfl
theorem refLeft_c (w : World) (q : Nat) (vb : Value) (s : CS) (h : Rc w q vb s) : Calls Try.prog 18 #[.pointer (some ⟨q, 0, none⟩)] w fun e w' => e = .returned (.int .i64 s.left) ∧ ∃ n, w' = w.drewN n := by
  have c0 := h.1.cell 0 _ rfl
  have c1 := h.1.cell 1 _ rfl
  have c2 := h.1.cell 2 _ rfl
  have hE := h.E
  obtain ⟨a, cap, rfl, _⟩ := h.2.1
  have hk := h.2.2.2.1
  unfold CS.ok at hk
  obtain ⟨k1, k2, k3⟩ := hk
  by_cases he : s.err = 0
  · have hf : ((s.left : Nat) : Int) = s.l.length - s.pos := by unfold CS.left; rw [if_pos (hE.trans he)]; omega
    have he2 : ((s.err : Int) != 0) = false := by simp [he]
    have HF := Lib.hid hf; clear hf he hE
    go_enter Try.func18, Try.ntmps18
    go_wp2
    go_quiet (fail)
    go_wp2
    go_ret
    exact ⟨by rw [HF.out]; rfl, _, rfl⟩
  · have hf : s.left = 0 := by unfold CS.left; rw [if_neg (by rw [hE]; exact he)]
    have he2 : ((s.err : Int) != 0) = true := by simp; omega
    have HF := Lib.hid hf; clear hf he hE
    go_enter Try.func18, Try.ntmps18
    go_wp2
    go_ret
    exact ⟨by rw [HF.out]; rfl, 0, rfl⟩
theorem refEnd_c (w : World) (q : Nat) (vb : Value) (s : CS) (h : Rc w q vb s) : Calls Try.prog 22 #[.pointer (some ⟨q, 0, none⟩)] w fun e w' => e = .returned (.int .i64 s.fin) ∧ ∃ n, w' = w.drewN n := by
  have c0 := h.1.cell 0 _ rfl
  have c1 := h.1.cell 1 _ rfl
  have c2 := h.1.cell 2 _ rfl
  have hE := h.E
  obtain ⟨a, cap, rfl, _⟩ := h.2.1
  have hk := h.2.2.2.1
  unfold CS.ok at hk
  obtain ⟨k1, k2, k3⟩ := hk
  by_cases he : s.err = 0
  · have hl : s.left = s.l.length - s.pos := by unfold CS.left; rw [if_pos (hE.trans he)]
    have he2 : ((s.err : Int) == 0) = true := by simp [he]
    by_cases hp : s.pos < s.l.length
    · have hf : s.fin = 5 := by unfold CS.fin; rw [if_pos (by omega)]
      have hp2 : (s.pos : Int) < s.l.length := by omega
      have HF := Lib.hid hf; clear hf he hE hl
      go_enter Try.func22, Try.ntmps22
      go_wp2
      go_quiet (fail)
      go_wp2
      go_ret
      exact ⟨by rw [HF.out]; rfl, _, rfl⟩
    · have hf : s.fin = s.err := by unfold CS.fin; rw [if_neg (by omega), hE]
      have hp2 : ¬ (s.pos : Int) < s.l.length := by omega
      have HF := Lib.hid hf; clear hf he hE hl
      go_enter Try.func22, Try.ntmps22
      go_wp2
      go_quiet (fail)
      go_wp2
      go_ret
      exact ⟨by rw [HF.out]; rfl, _, rfl⟩
  · have hl : s.left = 0 := by unfold CS.left; rw [if_neg (by rw [hE]; exact he)]
    have hf : s.fin = s.err := by unfold CS.fin; rw [if_neg (by omega), hE]
    have he2 : ((s.err : Int) == 0) = false := by simp; omega
    have HF := Lib.hid hf; clear hf he hE hl
    go_enter Try.func22, Try.ntmps22
    go_wp2
    go_quiet (fail)
    go_wp2
    go_ret
    exact ⟨by rw [HF.out]; rfl, _, rfl⟩
theorem refTake_bad (w : World) (q : Nat) (vb : Value) (s : CS) (n : Int) (h : Rc w q vb s) (hb : s.err ≠ 0 ∨ n < 0 ∨ (s.l.length - s.pos : Int) < n) : Calls Try.prog 13 #[.pointer (some ⟨q, 0, none⟩), .int .i64 n] w fun e w' => e = .returned (.slice none 0 0) ∧ (s.take n).1 = [] ∧ Rc w' q vb (s.take n).2 ∧ Keep [q] w w' := by
  have c0 := h.1.cell 0 _ rfl
  have c1 := h.1.cell 1 _ rfl
  have c2 := h.1.cell 2 _ rfl
  have f2 := h.1.free 2
  have hE := h.E
  obtain ⟨a, cap, rfl, _⟩ := h.2.1
  have hk := h.2.2.2.1
  unfold CS.ok at hk
  obtain ⟨k1, k2, k3⟩ := hk
  by_cases he : s.err = 0
  · have hE0 : s.E = 0 := hE.trans he
    have hl : s.left = s.l.length - s.pos := by unfold CS.left; rw [if_pos hE0]
    have he2 : ((s.err : Int) != 0) = false := by simp [he]
    have hset : ∀ (ww : World), Keep [] w ww → ∀ e : Nat, e < 100 → e ≠ 0 → Rc (ww.setCell ⟨q, 2, none⟩ (.int .i64 e)) q (.slice a s.l.length cap) (s.fail e) := by
      intro ww hw e h1 h2
      have hs : s.fail e = { s with err := e } := by unfold CS.fail; rw [if_pos hE0]
      rw [hs]
      have hR := h.keep hw (by simp) (by simp)
      exact ⟨hR.1.set 2 _, hR.2.1.keep' ((Keep.refl [q] _).setCell (by simp) _) (fun hl b hb => by simpa using hR.2.2.2.2 hl b hb), h.2.2.1, ⟨k1, k2, h1⟩, h.2.2.2.2⟩
    have HS := Lib.hid hset; clear hset
    by_cases h0 : n < 0
    · have hf : s.take n = ([], s.fail 2) := by unfold CS.take; rw [if_neg (by simpa using hE0), if_pos h0]
      have HF := Lib.hid hf; clear hf he hE hE0 hl hb
      go_enter Try.func13, Try.ntmps13
      go_wp2
      go_ret
      exact ⟨rfl, by rw [HF.out], by rw [HF.out]; exact HS.out _ (Keep.refl _ _) 2 (by decide) (by decide), (Keep.refl _ _).setCell (by simp) _⟩
    · have h1 : (s.l.length : Int) - s.pos < n := by rcases hb with hb | hb | hb; exact absurd he hb; exact absurd hb h0; exact hb
      have hf : s.take n = ([], s.fail 3) := by unfold CS.take; rw [if_neg (by simpa using hE0), if_neg h0, if_pos (by omega)]
      have HF := Lib.hid hf; clear hf he hE hE0 hl hb
      go_enter Try.func13, Try.ntmps13
      go_wp2
      go_quiet (fail)
      go_wp2
      go_ret
      exact ⟨rfl, by rw [HF.out], by rw [HF.out]; exact HS.out _ ((Keep.refl _ _).drewN _) 3 (by decide) (by decide), ((Keep.refl _ _).drewN _).setCell (by simp) _⟩
  · have hf : s.take n = ([], s) := by unfold CS.take; rw [if_pos (by rw [hE]; exact he)]
    have he2 : ((s.err : Int) != 0) = true := by simp; omega
    have HF := Lib.hid hf; clear hf he hE
    go_enter Try.func13, Try.ntmps13
    go_wp2
    go_ret
    exact ⟨rfl, by rw [HF.out], by rw [HF.out]; exact h, Keep.refl _ _⟩
theorem refTake_good (w : World) (q : Nat) (vb : Value) (s : CS) (n : Nat) (h : Rc w q vb s) (he : s.err = 0) (hn : s.pos + n ≤ s.l.length) : Calls Try.prog 13 #[.pointer (some ⟨q, 0, none⟩), .int .i64 n] w fun e w' => ∃ v', e = .returned v' ∧ OwnB w' v' (s.take n).1 ∧ (∀ b, v'.ownBlock = some b → w.heap.size ≤ b) ∧ Rc w' q vb (s.take n).2 ∧ Keep [q] w w' := by
  have c0 := h.1.cell 0 _ rfl
  have c1 := h.1.cell 1 _ rfl
  have c2 := h.1.cell 2 _ rfl
  have f1 := h.1.free 1
  have hlt := h.1.lt
  have hE0 : s.E = 0 := h.E.trans he
  have hk := h.2.2.2.1
  unfold CS.ok at hk
  obtain ⟨k1, k2, k3⟩ := hk
  have hl : s.left = s.l.length - s.pos := by unfold CS.left; rw [if_pos hE0]
  have he2 : ((s.err : Int) != 0) = false := by simp [he]
  have hf : s.take n = ((s.l.drop s.pos).take n, { s with pos := s.pos + n }) := by unfold CS.take; rw [if_neg (by simpa using hE0), if_neg (by omega), if_neg (by omega)]; simp
  obtain ⟨p2, hp2⟩ : ∃ p2, p2 = s.pos + n := ⟨_, rfl⟩
  rw [← hp2] at hf hn
  have HF := Lib.hid hf; clear hf he hE0 hl
  have h4 : ¬ (n : Int) < 0 := by omega
  have h3 : ¬ (s.l.length : Int) - s.pos < n := by omega
  have e1 : (p2 : Int) = (s.pos : Int) + n := by omega
  have hset : ∀ (ww : World), Keep [] w ww → Rc (ww.setCell ⟨q, 1, none⟩ (.int .i64 (p2 : Int))) q vb { s with pos := p2 } := by
    intro ww hw
    have hR := h.keep hw (by simp) (by simp)
    exact ⟨hR.1.set 1 _, hR.2.1.keep' ((Keep.refl [q] _).setCell (by simp) _) (fun hl b hb => by simpa using hR.2.2.2.2 hl b hb), h.2.2.1, ⟨hn, k2, k3⟩, h.2.2.2.2⟩
  have HS := Lib.hid hset; clear hset
  obtain ⟨a, cap, rfl, hac, hmx⟩ := h.2.1.shape
  go_enter Try.func13, Try.ntmps13
  go_wp2
  go_quiet (fail)
  go_wp2_with fail
  rw [← e1]
  have hR := HS.out _ ((Keep.refl [] w).drewN nq)
  have hw2 : Keep [q] w ((w.drewN nq).setCell ⟨q, 1, none⟩ (.int .i64 (p2 : Int))) := ((Keep.refl [q] w).drewN nq).setCell (by simp) _
  generalize ((w.drewN nq).setCell ⟨q, 1, none⟩ (.int .i64 (p2 : Int))) = w2 at hR hw2 ⊢
  clear c0 c1 c2 f1 HS
  generalize hvv : Value.slice a s.l.length cap = vv at h hR ⊢
  have HV := Lib.hid hvv; clear hvv
  have c0 := hR.1.cell 0 _ rfl
  have c1 := hR.1.cell 1 _ rfl
  obtain ⟨v', hsl, hb', hown⟩ := hR.2.1.cut s.pos p2 ((p2 : Int) - n) (p2 : Int) (by omega) rfl (by omega) hn
  have e2 : p2 - s.pos = n := by omega
  rw [e2] at hb'
  have hlt2 := hR.1.lt
  have h5 : n ≤ p2 := by omega
  have h6 : s.pos ≤ p2 := by omega
  have hwr : IntKind.i64.wrap ((p2 : Int) - n) = (p2 : Int) - n := by rw [IntKind.wrap_i64]; omega
  clear e1 e2 hp2
  go_still_tail 15, (by kernel_rfl)
  change wpList _ _ _ _ _ w2.drew
  have hR2 : Rc w2.drew q vv _ := hR.drewN 1
  have hw3 : Keep [q] w w2.drew := hw2.drew
  have hb2 : Bs w2.drew v' ((s.l.drop s.pos).take n) := hb'.keep ((Keep.refl [] _).drew) (by simp)
  generalize w2.drew = w3 at hR2 hw3 hb2 ⊢
  clear hR hw2 hb' hsl c0 c1
  go_wp2_with fail
  refine (copy_c w3 v' _ (by rw [List.length_take, List.length_drop]; omega) hb2).mono ?_; rintro e w4 ⟨v4, rfl, ho, hk4, hv4⟩
  go_wp2_with fail
  go_ret
  exact ⟨v4, rfl, by rw [HF.out]; exact ho, (fun b hb => Nat.le_trans hw3.size (hv4 b hb)), by rw [HF.out, HV.out]; exact hR2.keep hk4 (by simp) (by simp), hw3.trans hk4 (by simp)⟩
theorem refTake_c (w : World) (q : Nat) (vb : Value) (s : CS) (n : Int) (h : Rc w q vb s) : Calls Try.prog 13 #[.pointer (some ⟨q, 0, none⟩), .int .i64 n] w fun e w' => ∃ v', e = .returned v' ∧ OwnB w' v' (s.take n).1 ∧ (∀ b, v'.ownBlock = some b → w.heap.size ≤ b) ∧ Rc w' q vb (s.take n).2 ∧ Keep [q] w w' := by
  by_cases hb : s.err ≠ 0 ∨ n < 0 ∨ (s.l.length - s.pos : Int) < n
  · exact (refTake_bad w q vb s n h hb).mono fun e w' ⟨he, h1, h2, h3⟩ => ⟨_, he, by rw [h1]; exact OwnB.nil _, (fun b hb => by simp [Value.ownBlock] at hb), h2, h3⟩
  · obtain ⟨k, rfl⟩ : ∃ k : Nat, n = k := ⟨n.toNat, by omega⟩
    exact refTake_good w q vb s k h (by omega) (by have := h.2.2.2.1.1; omega)
end Go.Proofs.Ytgohdhpokehflaa
