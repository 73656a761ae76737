/- Texts put together: SfUn -/
import Derived.Test.YthmojejiaeninaaGreatPart15
import Derived.Test.YthmojejiaeninaaGreatPart5
import Derived.Test.YthmojejiaeninaaGreatPart7
namespace Go.Proofs.YthmojejiaeninaaGreat
set_option linter.unusedVariables false
set_option linter.unusedSimpArgs false
open Go.ChangeShapes Go.WideShapes Go.ChangeAt Go.RowKit

theorem fill_is {w : World} {g c : Nat} {z : Int} (h : Blk w g (fillL c c z).toArray 3) (hc : c ≤ 100000) (hz : (Lit.int .i64 z).wf = true) : Is .i64 w (.slice (some ⟨g, 0, none⟩) c c) (List.replicate c z) := by
  refine ⟨some ⟨g, 0, none⟩, c, by rw [List.length_replicate], by rw [List.length_replicate]; exact Nat.le_refl _, by unfold maxLen; omega, (fun h => nomatch h), fun x hx i hi => ?_, fun y hy => by rw [(List.mem_replicate.1 hy).2]; exact hz⟩
  obtain rfl : (⟨g, 0, none⟩ : Addr) = x := by simpa using hx
  rw [List.length_replicate] at hi
  rw [addr0, List.getElem_replicate]
  exact h.cell i _ (by rw [List.getElem?_toArray]; exact fillL_get c c z i hi)
theorem bits8_lt (s : RS) : (s.bits 8).1 < 256 := by
  unfold RS.bits
  split
  · simp
  · split
    · simp
    · split
      · simp
      · exact num_lt s.l s.pos 8
set_option maxRecDepth 100000 in
theorem unpack_arg (w : World) (p : Option Addr) (n : Int) (h : n < 1 ∨ 256 < n) : Calls Tryz.prog 116 #[.pointer p, .int .i64 n] w fun e w' => e = .returned (.tuple #[.slice none 0 0, .int .i64 2]) ∧ Keep [] w w' := by
  by_cases h1 : n < 1
  · clear h
    go_enter Tryz.func116, Tryz.ntmps116
    go_wp2_with fail
    go_ret2
    exact ⟨rfl, Keep.refl [] w⟩
  · have h2 : 256 < n := by omega
    clear h
    go_enter Tryz.func116, Tryz.ntmps116
    go_wp2_with fail
    go_ret2
    exact ⟨rfl, Keep.refl [] w⟩
/-- what Unpack's loop holds between its rounds -/
structure UnS (w : World) (r : Nat) (v : Value) (s : RS) (l : Value) (k : Nat) (wr : World) : Prop where
  rd : Rd wr r v (rdk k s)
  own : OwnI wr l (lsk k s)
  keep : Keep [r] w wr
  bb : ∀ x, l.ownBlock = some x → w.heap.size ≤ x
set_option maxRecDepth 100000 in
set_option maxHeartbeats 4000000 in
theorem unpack_ok (w : World) (r : Nat) (v : Value) (s : RS) (n : Int) (hr : Rd w r v s) (h1 : 1 ≤ n) (h2 : n ≤ 256) : Calls Tryz.prog 116 #[.pointer (some ⟨r, 0, none⟩), .int .i64 n] w fun e w' => ∃ v', e = .returned (.tuple #[v', .int .i64 (s.unp n).2.1]) ∧ Is .i64 w' v' (s.unp n).1 ∧ Keep [r] w w' ∧ (∀ b, v'.ownBlock = some b → w.heap.size ≤ b) ∧ ((s.unp n).2.1 = 0 → Rd w' r v (s.unp n).2.2) := by
  have HU := Lib.hid (unp_ok s n h1 h2)
  have h81 := bits8_lt s
  have hrl := hr.1.lt
  have hvl := Lib.hid hr.2.1.lt
  have HB := Lib.hid (fun w' (h : Rd w' r v s) => bits_c w' r v s 8 h)
  have HR := Lib.hid hr
  clear hr
  have hn1 : ¬ n < 1 := by omega
  have hn2 : ¬ 256 < n := by omega
  go_enter Tryz.func116, Tryz.ntmps116
  go_wp2_with fail
  refine (HB.out w HR.out).mono ?_; rintro e w1 ⟨rfl, hr1, hk1⟩
  have hS0 : Hid (UnS w r v (s.bits 8).2 (.slice none 0 0) 0 w1) := ⟨hr1, OwnI.nil w1, hk1, by simp [Value.ownBlock]⟩
  clear hr1 hk1 HB HR
  generalize (s.bits 8).1 = x0 at *
  generalize (s.bits 8).2 = s1 at *
  have hw1 : IntKind.i64.wrap (x0 : Int) = x0 := by rw [IntKind.wrap_i64]; omega
  have hw2 : IntKind.i64.wrap ((x0 : Int) + 1) = ((x0 + 1 : Nat) : Int) := by rw [IntKind.wrap_i64]; omega
  obtain ⟨N, hN⟩ : ∃ N, x0 + 1 = N := ⟨_, rfl⟩
  rw [hN] at HU hw2
  have hN2 : N ≤ 256 := by omega
  go_wp2_with fail
  clear hw1 hw2 h81 hN
  go_loopw [6, 19] (fun l i wr => ∃ (k : Nat) (a : Option Addr) (c : Nat), k ≤ N ∧ i = .int .i64 k ∧ l = .slice a (lsk k s1).length c ∧ Hid (UnS w r v s1 (.slice a (lsk k s1).length c) k wr)) (fun _ i _ => N - (intOf i).toNat)
  case atStart => exact ⟨0, none, 0, by omega, rfl, rfl, hS0⟩
  case round =>
    clear hS0
    obtain ⟨k, a, c, hk, rfl, rfl, HS⟩ := hrel
    by_cases hlt : k < N
    · have HB := Lib.hid (bits_c wr r v (rdk k s1) 8 HS.out.rd)
      have hx := bits8_lt (rdk k s1)
      have hll := lsk_len k s1 (fun j _ => bits8_lt _)
      have hnx : Hid (lsk (k + 1) s1 = lsk k s1 ++ rowOf ((rdk k s1).bits 8).1) := rfl
      have hrx : Hid (rdk (k + 1) s1 = ((rdk k s1).bits 8).2) := rfl
      go_wp2_with fail
      refine HB.out.mono ?_; rintro e w2 ⟨rfl, hr2, hk2⟩
      rw [← hrx.out] at hr2
      clear HB hrx
      generalize ((rdk k s1).bits 8).1 = x at *
      have e1 : IntKind.i64.wrap (x : Int) = x := by rw [IntKind.wrap_i64]; omega
      have hrep := repeat_c (w2.alloc (.cells #[.int .i64 ((x : Int) % 16 + 1)] 3)) w2.heap.size (x / 16 + 1) ((x : Int) % 16 + 1) (Blk.new w2 _ _) (by omega) (by omega)
      rw [show ((x / 16 + 1 : Nat) : Int) = (x : Int) / 16 + 1 by omega] at hrep
      have HRP := Lib.hid hrep
      have K2 : Keep [r] w w2 := HS.out.keep.trans hk2 (fun b hb => .inl hb)
      have hO2 := HS.out.own.keep hk2 (fun b hb hm => by have := HS.out.bb b hb; simp at hm; omega)
      have hbb := Lib.hid HS.out.bb
      clear hrep HS hk2
      have ha2 : (Keep [] w2 (w2.alloc (.cells #[.int .i64 ((x : Int) % 16 + 1)] 3))) := (Keep.refl [] w2).alloc _
      go_wp2_with fail
      refine HRP.out.mono ?_; rintro e w3 ⟨g, rfl, hb3, hk3, hg3⟩
      have hk23 := ha2.trans hk3 (by simp)
      have hO3 := hO2.keep hk23 (by simp)
      have hr3 := hr2.keep hk23 (by simp) (by simp)
      have hI3 := fill_is hb3 (by omega) (by simp [Lit.wf, IntKind.min, IntKind.max, IntKind.bits, IntKind.signed]; omega)
      have K3 := K2.trans hk23 (by simp)
      have hrw : Hid (List.replicate (x / 16 + 1) ((x : Int) % 16 + 1) = rowOf x) := by
        unfold Hid rowOf
        rw [show (((x % 16 + 1 : Nat)) : Int) = (x : Int) % 16 + 1 by omega]
      have hlen2 : (lsk k s1).length + (List.replicate (x / 16 + 1) ((x : Int) % 16 + 1)).length ≤ 17592186044416 := by rw [List.length_replicate]; omega
      obtain ⟨rp, hrp⟩ : ∃ rp, List.replicate (x / 16 + 1) ((x : Int) % 16 + 1) = rp := ⟨_, rfl⟩
      rw [hrp] at hI3 hrw hlen2
      obtain ⟨c2, hc2⟩ : ∃ c2, x / 16 + 1 = c2 := ⟨_, rfl⟩
      rw [hc2] at hI3 ⊢
      clear hc2
      clear HRP hb3 hk3 ha2 hO2 hr2 hrp hk23 K2
      go_wp2_with (at_builtin; (refine wpList_appendI (.tmp 24) (.tmp 32) rfl rfl (.slice a (lsk k s1).length c) (lsk k s1) rfl hO3 _ rp rfl hI3 hlen2 ?_); (intro v4 w4 ho4 hk4 hb4 hz4))
      obtain ⟨a4, c4, rfl, hl4⟩ := ho4.is.sh
      rw [hrw.out, ← hnx.out] at ho4
      have e4 : (lsk k s1 ++ rp).length = (lsk (k + 1) s1).length := by rw [hrw.out, ← hnx.out]
      rw [e4] at hb4
      refine ⟨⟨k + 1, a4, c4, by omega, by simp, by rw [e4], ?_⟩, by simp [intOf]; omega⟩
      refine ⟨hr3.keep hk4 (fun hm => ?_) ?_, ho4, K3.trans hk4 (fun b hb => .inr (hbb.out b (by simpa using hb))), fun b hb => ?_⟩
      · have := hbb.out r (by simpa using hm); omega
      · intro b hb hm
        have h1 := hvl.out b hb
        have h2 := hbb.out b (by simpa using hm)
        omega
      · rcases hb4 b hb with h | h
        · exact hbb.out b h
        · rw [h]; exact K3.size
    · obtain rfl : k = N := by omega
      have HE := Lib.hid (err_c wr r v (rdk k s1) HS.out.rd)
      go_wp2_with fail
      refine HE.out.mono ?_; rintro e w2 ⟨rfl, rfl⟩
      clear HE
      by_cases hE : (rdk k s1).E = 0
      · by_cases hlen : ((lsk k s1).length : Int) = n
        · have hu := Lib.hid (HU.out.2.2 hE hlen)
          rw [hE]
          clear HU hE
          subst hlen
          go_wp2_with fail
          go_ret2
          rw [hu.out]
          exact ⟨_, rfl, HS.out.own.is, HS.out.keep, HS.out.bb, fun _ => HS.out.rd⟩
        · have hu := Lib.hid (HU.out.2.1 hE hlen)
          rw [hE]
          have hne : (((lsk k s1).length : Int) == n) = false := by simpa using hlen
          clear HU hE hlen
          go_wp2_with fail
          go_ret2
          rw [hu.out]
          exact ⟨_, rfl, (OwnI.nil wr).is, HS.out.keep, by simp [Value.ownBlock], fun _ => HS.out.rd⟩
      · have hu := Lib.hid (HU.out.1 hE)
        have hne : (((rdk k s1).E : Int) == 0) = false := by rw [beq_eq_false_iff_ne]; omega
        have hE2 := Lib.hid hE
        clear HU hE
        generalize (rdk k s1).E = ee at hne hu hE2 ⊢
        go_wp2_with fail
        go_ret2
        rw [hu.out.1, hu.out.2]
        exact ⟨_, rfl, (OwnI.nil wr).is, HS.out.keep, by simp [Value.ownBlock], fun h => absurd h hE2.out⟩
set_option maxRecDepth 100000 in
set_option maxHeartbeats 2000000 in
theorem sf_unpack_nil (w : World) (n : Int) (h1 : 1 ≤ n) (h2 : n ≤ 256) : Calls Tryz.prog 116 #[.pointer none, .int .i64 n] w fun e w' => e = .returned (.tuple #[.slice none 0 0, .int .i64 1]) ∧ Keep [] w w' := by
  have hn1 : ¬ n < 1 := by omega
  have hn2 : ¬ 256 < n := by omega
  go_enter Tryz.func116, Tryz.ntmps116
  go_wp2_with fail
  refine (bits_nil w 8).mono ?_; rintro e w1 ⟨rfl, rfl⟩
  go_wp2_with fail
  go_loopw [6, 19] (fun l i wr => ∃ (k : Nat) (a : Option Addr) (c : Nat), k ≤ 1 ∧ i = .int .i64 k ∧ l = .slice a k c ∧ OwnI wr (.slice a k c) (List.replicate k 1) ∧ Keep [] w wr ∧ Hid (∀ b, (Value.slice a k c).ownBlock = some b → w.heap.size ≤ b)) (fun _ i _ => 1 - (intOf i).toNat)
  case atStart => exact ⟨0, none, 0, by omega, rfl, rfl, OwnI.nil w, Keep.refl _ _, by simp [Hid, Value.ownBlock]⟩
  case round =>
    obtain ⟨k, a, c, hk, rfl, rfl, hO, hK, HB⟩ := hrel
    by_cases hlt : k < 1
    · obtain rfl : k = 0 := by omega
      go_wp2_with fail
      refine (bits_nil wr 8).mono ?_; rintro e w1 ⟨rfl, rfl⟩
      have hrep := repeat_c (wr.alloc (.cells #[.int .i64 1] 3)) wr.heap.size 1 1 (Blk.new wr _ _) (by omega) (by omega)
      go_wp2_with fail
      have ha2 : (Keep [] wr (wr.alloc (.cells #[.int .i64 1] 3))) := (Keep.refl [] wr).alloc _
      refine hrep.mono ?_; rintro e w3 ⟨g, rfl, hb3, hk3, hg3⟩
      have hk23 := ha2.trans hk3 (by simp)
      have hO3 := hO.keep hk23 (by simp)
      have hI3 := fill_is hb3 (by omega) (by decide)
      have K3 := hK.trans hk23 (by simp)
      clear hrep ha2 hk3 hb3 hO hk23
      go_wp2_with (at_builtin; (refine wpList_appendI (.tmp 24) (.tmp 32) rfl rfl (.slice a 0 c) (List.replicate 0 1) rfl hO3 _ (List.replicate 1 1) rfl hI3 (by simp) ?_); (intro v4 w4 ho4 hk4 hb4 hz4))
      obtain ⟨a4, c4, rfl, hl4⟩ := ho4.is.sh
      refine ⟨⟨1, a4, c4, by omega, by simp, rfl, ho4, K3.trans hk4 (fun b hb => .inr (HB.out b (by simpa using hb))), fun b hb => ?_⟩, by simp [intOf]⟩
      rcases hb4 b hb with h | h
      · exact HB.out b h
      · rw [h]; exact K3.size
    · obtain rfl : k = 1 := by omega
      go_wp2_with fail
      refine (err_nil wr).mono ?_; rintro e w1 ⟨rfl, rfl⟩
      go_wp2_with fail
      go_ret2
      exact ⟨rfl, hK⟩
theorem sf_unpack (w : World) (r : Nat) (v : Value) (s : RS) (n : Int) (hr : Rd w r v s) : Calls Tryz.prog 116 #[.pointer (some ⟨r, 0, none⟩), .int .i64 n] w fun e w' => ∃ v', e = .returned (.tuple #[v', .int .i64 (s.unp n).2.1]) ∧ Is .i64 w' v' (s.unp n).1 ∧ Keep [r] w w' ∧ (∀ b, v'.ownBlock = some b → w.heap.size ≤ b) ∧ ((s.unp n).2.1 = 0 → Rd w' r v (s.unp n).2.2) := by
  by_cases h : n < 1 ∨ 256 < n
  · have e : s.unp n = ([], 2, s) := by unfold RS.unp; rw [if_pos h]
    rw [e]
    refine (unpack_arg w _ n h).mono ?_
    rintro e w' ⟨rfl, hk⟩
    exact ⟨_, rfl, (OwnI.nil w').is, hk.mono (by simp), by simp [Value.ownBlock], fun h => by simp at h⟩
  · exact unpack_ok w r v s n hr (by omega) (by omega)
end Go.Proofs.YthmojejiaeninaaGreat
