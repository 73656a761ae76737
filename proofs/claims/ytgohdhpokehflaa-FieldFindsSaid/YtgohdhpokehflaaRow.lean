/- Contracts of the methods of field.Row. -/
import Derived.Test.YtgohdhpokehflaaClone
import Derived.Test.YtgohdhpokehflaaRefKit
import Derived.Test.YtgohdhpokehflaaLe
namespace Go.Proofs.Ytgohdhpokehflaa
set_option linter.unusedVariables false
set_option linter.unusedSimpArgs false
open Go.ChangeShapes Go.WideShapes Go.ChangeAt Go.RowKit

/-- the state of a row: what was put, its error -/
structure WS where
  l : List UInt8
  err : Nat
def WS.fail (s : WS) (e : Nat) : WS := if s.err = 0 then { s with err := e } else s
def WS.put (s : WS) (b : List UInt8) : WS := if s.err = 0 then { s with l := s.l ++ b } else s
def WS.out (s : WS) : List UInt8 := if s.err = 0 then s.l else []
def WS.u16 (s : WS) (x : Int) : WS := if x < 0 ∨ 65535 < x then s.fail 18 else s.put (lb 2 x.toNat)

/-- block r is a row in state s; its bytes lie in the slice v -/
def Ro (w : World) (r : Nat) (v : Value) (s : WS) : Prop :=
  Blk w r #[v, .int .i64 s.err] 61 ∧ OwnB w v s.l ∧ s.err < 100 ∧ (∀ b, v.ownBlock = some b → b ≠ r)
theorem Ro.keep {w w' : World} {r : Nat} {v : Value} {s : WS} {S : List Nat} (h : Ro w r v s) (k : Keep S w w') (hr : r ∉ S) (hv : ∀ b, v.ownBlock = some b → b ∉ S) : Ro w' r v s :=
  ⟨h.1.keep k hr, h.2.1.keep k hv, h.2.2⟩
theorem Ro.drewN {w : World} {r : Nat} {v : Value} {s : WS} (h : Ro w r v s) (n : Nat) : Ro (w.drewN n) r v s := h.keep ((Keep.refl [] w).drewN _) (by simp) (by simp)

theorem roErr_c (w : World) (r : Nat) (v : Value) (s : WS) (h : Ro w r v s) : Calls Try.prog 31 #[.pointer (some ⟨r, 0, none⟩)] w fun e w' => e = .returned (.int .i64 s.err) ∧ w = w' := by
  have c1 := h.1.cell 1 _ rfl
  go_enter Try.func31, Try.ntmps31
  go_wp2
  go_ret
  exact ⟨rfl, rfl⟩
theorem roErr_nil (w : World) : Calls Try.prog 31 #[.pointer none] w fun e w' => e = .returned (.int .i64 1) ∧ w = w' := by
  go_enter Try.func31, Try.ntmps31
  go_wp2
  go_ret
  exact ⟨rfl, rfl⟩
theorem roFail_c (w : World) (r : Nat) (v : Value) (s : WS) (e : Nat) (he : e < 100) (h : Ro w r v s) : Calls Try.prog 37 #[.pointer (some ⟨r, 0, none⟩), .int .i64 e] w fun en w' => en = .returned (.pointer (some ⟨r, 0, none⟩)) ∧ Ro w' r v (s.fail e) ∧ Keep [r] w w' := by
  have c3 := h.1.cell 1 _ rfl
  have f3 := h.1.free 1
  by_cases h0 : s.err = 0
  · have hf : s.fail e = { s with err := e } := by unfold WS.fail; rw [if_pos h0]
    have he2 : ((s.err : Int) == 0) = true := by simp [h0]
    have HF := Lib.hid hf; clear hf h0
    go_enter Try.func37, Try.ntmps37
    go_wp2_with (refine (roErr_c _ _ _ _ h).mono ?_; rintro e w' ⟨rfl, rfl⟩)
    go_ret
    refine ⟨rfl, ?_, (Keep.refl _ _).setCell (by simp) _⟩
    rw [HF.out]
    exact ⟨h.1.set 1 _, h.2.1.keep ((Keep.refl [r] _).setCell (by simp) _) (by simpa using h.2.2.2), he, h.2.2.2⟩
  · have hf : s.fail e = s := by unfold WS.fail; rw [if_neg h0]
    have he2 : ((s.err : Int) == 0) = false := by simp; omega
    have HF := Lib.hid hf; clear hf h0
    go_enter Try.func37, Try.ntmps37
    go_wp2_with (refine (roErr_c _ _ _ _ h).mono ?_; rintro e w' ⟨rfl, rfl⟩)
    go_ret
    exact ⟨rfl, by rw [HF.out]; exact h, Keep.refl _ _⟩
theorem roFail_nil (w : World) (e : Nat) : Calls Try.prog 37 #[.pointer none, .int .i64 e] w fun en w' => en = .returned (.pointer none) ∧ w = w' := by
  go_enter Try.func37, Try.ntmps37
  go_wp2_with (refine (roErr_nil _).mono ?_; rintro e w' ⟨rfl, rfl⟩)
  go_ret
  exact ⟨rfl, rfl⟩
theorem roPut_c (w : World) (r : Nat) (v : Value) (s : WS) (v2 : Value) (l2 : List UInt8) (h : Ro w r v s) (hb : Bs w v2 l2) (hl : s.l.length + l2.length ≤ 140737488355328) :
    Calls Try.prog 29 #[.pointer (some ⟨r, 0, none⟩), v2] w fun e w' => ∃ v', e = .returned (.pointer (some ⟨r, 0, none⟩)) ∧ Ro w' r v' (s.put l2) ∧
      Keep (r :: v.ownBlock.toList) w w' ∧ (∀ b, v'.ownBlock = some b → v.ownBlock = some b ∨ w.heap.size ≤ b) := by
  have hO := h.2.1
  have hB := h.1
  have hr := h.2.2.2
  have c0 := h.1.cell 0 _ rfl
  by_cases h0 : s.err = 0
  · have hf : s.put l2 = { s with l := s.l ++ l2 } := by unfold WS.put; rw [if_pos h0]
    have he2 : ((s.err : Int) == 0) = true := by simp [h0]
    have HF := Lib.hid hf; clear hf h0
    obtain ⟨a1, n1, cp1, rfl⟩ := hO.shape
    go_enter Try.func29, Try.ntmps29
    go_wp2_with fail
    refine (roErr_c _ _ _ _ h).mono ?_; rintro e w' ⟨rfl, rfl⟩
    go_wp2_with (at_builtin; (refine wpList_appendB (.tmp 12) (.tmp 13) rfl rfl (.slice a1 n1 cp1) s.l rfl hO v2 l2 rfl hb hl ?_); (intro v3 w3 ho3 hk3 hb3 hz3); (obtain ⟨a3, n3, cp3, rfl⟩ := ho3.shape); (have HR3 := hB.keep hk3 (fun hm => hr r (by simpa using hm) rfl)); (have d0 := HR3.cell 0 _ rfl); (have g0 := HR3.free 0))
    go_ret
    have hr3 : ∀ b, (Value.slice a3 n3 cp3).ownBlock = some b → b ≠ r := by
      intro b hb' e
      rcases hb3 b hb' with h | h
      · exact hr b h e
      · have := hB.lt; omega
    refine ⟨.slice a3 n3 cp3, rfl, ?_, ?_, ?_⟩
    · rw [HF.out]
      exact ⟨by simpa using HR3.set 0 (.slice a3 n3 cp3), ho3.keep ((Keep.refl [r] _).setCell (by simp) _) (by simpa using hr3), h.2.2.1, hr3⟩
    · exact (hk3.mono (fun x hx => List.mem_cons_of_mem _ hx)).setCell (by simp) _
    · intro b hb'
      rcases hb3 b hb' with h | h
      · exact .inl h
      · exact .inr (by omega)
  · have hf : s.put l2 = s := by unfold WS.put; rw [if_neg h0]
    have he2 : ((s.err : Int) == 0) = false := by simp; omega
    have HF := Lib.hid hf; clear hf h0
    go_enter Try.func29, Try.ntmps29
    go_wp2_with (refine (roErr_c _ _ _ _ h).mono ?_; rintro e w' ⟨rfl, rfl⟩)
    go_ret
    exact ⟨v, rfl, by rw [HF.out]; exact h, Keep.refl _ _, fun b hb => .inl hb⟩
theorem roPut_nil (w : World) (v2 : Value) : Calls Try.prog 29 #[.pointer none, v2] w fun e w' => e = .returned (.pointer none) ∧ w = w' := by
  go_enter Try.func29, Try.ntmps29
  go_wp2_with (refine (roErr_nil _).mono ?_; rintro e w' ⟨rfl, rfl⟩)
  go_ret
  exact ⟨rfl, rfl⟩
theorem roBytes_c (w : World) (r : Nat) (v : Value) (s : WS) (h : Ro w r v s) (hl : s.l.length ≤ 140737488355328) : Calls Try.prog 30 #[.pointer (some ⟨r, 0, none⟩)] w fun e w' => ∃ v', e = .returned v' ∧ OwnB w' v' s.out ∧ Keep [] w w' ∧ ∀ b, v'.ownBlock = some b → w.heap.size ≤ b := by
  have c0 := h.1.cell 0 _ rfl
  by_cases h0 : s.err = 0
  · have hf : s.out = s.l := by unfold WS.out; rw [if_pos h0]
    have he2 : ((s.err : Int) != 0) = false := by simp [h0]
    have HF := Lib.hid hf; clear hf h0
    have hc := Lib.hid (clone_c w v s.l hl h.2.1.bs)
    obtain ⟨a1, n1, cp1, rfl⟩ := h.2.1.shape
    go_enter Try.func30, Try.ntmps30
    go_wp2_with fail
    refine (roErr_c _ _ _ _ h).mono ?_; rintro e w' ⟨rfl, rfl⟩
    go_wp2_with fail
    refine hc.out.mono ?_; rintro e w2 ⟨v2, rfl, ho, hk2, hv2⟩
    go_wp2_with fail
    go_ret
    exact ⟨v2, rfl, by rw [HF.out]; exact ho, hk2, hv2⟩
  · have hf : s.out = [] := by unfold WS.out; rw [if_neg h0]
    have he2 : ((s.err : Int) != 0) = true := by simp; omega
    have HF := Lib.hid hf; clear hf h0
    go_enter Try.func30, Try.ntmps30
    go_wp2_with (refine (roErr_c _ _ _ _ h).mono ?_; rintro e w' ⟨rfl, rfl⟩)
    go_ret
    exact ⟨.slice none 0 0, rfl, by rw [HF.out]; exact OwnB.nil _, Keep.refl _ _, fun b hb => by simp [Value.ownBlock] at hb⟩
theorem roBytes_nil (w : World) : Calls Try.prog 30 #[.pointer none] w fun e w' => e = .returned (.slice none 0 0) ∧ w = w' := by
  go_enter Try.func30, Try.ntmps30
  go_wp2_with (refine (roErr_nil _).mono ?_; rintro e w' ⟨rfl, rfl⟩)
  go_ret
  exact ⟨rfl, rfl⟩
theorem roNew_c (w : World) : Calls Try.prog 24 #[] w fun e w' => ∃ r, e = .returned (.pointer (some ⟨r, 0, none⟩)) ∧ Ro w' r (.slice none 0 0) ⟨[], 0⟩ ∧ Keep [] w w' ∧ w.heap.size ≤ r := by
  go_enter Try.func24, Try.ntmps24
  go_wp2
  go_ret
  exact ⟨w.heap.size, rfl, ⟨Blk.new _ _ _, OwnB.nil _, by decide, fun b hb => by simp [Value.ownBlock] at hb⟩, (Keep.refl _ _).alloc _, Nat.le_refl _⟩
theorem ofNat_mod (a b : Nat) (h : a % 256 = b % 256) : UInt8.ofNat a = UInt8.ofNat b := by
  apply UInt8.toNat_inj.1
  simpa using h
theorem roU16_c (w : World) (r : Nat) (v : Value) (s : WS) (x : Int) (h : Ro w r v s) (hl : s.l.length + 2 ≤ 140737488355328) :
    Calls Try.prog 25 #[.pointer (some ⟨r, 0, none⟩), .int .i64 x] w fun e w' => ∃ v', e = .returned (.pointer (some ⟨r, 0, none⟩)) ∧ Ro w' r v' (s.u16 x) ∧
      Keep (r :: v.ownBlock.toList) w w' ∧ (∀ b, v'.ownBlock = some b → v.ownBlock = some b ∨ w.heap.size ≤ b) := by
  by_cases hx : x < 0 ∨ 65535 < x
  · have hf : s.u16 x = s.fail 18 := by unfold WS.u16; rw [if_pos hx]
    have HF := Lib.hid hf; clear hf
    have HR := Lib.hid (roFail_c w r v s 18 (by decide) h)
    rcases hx with hx | hx
    all_goals
      go_enter Try.func25, Try.ntmps25
      go_wp2_with fail
      refine HR.out.mono ?_; rintro e w' ⟨rfl, hr, hk⟩
      go_wp2_with fail
      go_ret
      exact ⟨v, rfl, by rw [HF.out]; exact hr, hk.mono (by simp), fun b hb => .inl hb⟩
  · obtain ⟨n, rfl⟩ : ∃ n : Nat, x = n := ⟨x.toNat, by omega⟩
    have hf : s.u16 n = s.put (lb 2 n) := by unfold WS.u16; rw [if_neg hx]; simp
    have HF := Lib.hid hf; clear hf
    have hn : n ≤ 65535 := by omega
    go_enter Try.func25, Try.ntmps25
    have KA : Keep [] w (w.alloc (.cells #[.int .u8 ((n : Int) % 256), .int .u8 ((n : Int) / 256)] 5)) := (Keep.refl [] w).alloc _
    have HB : Bs (w.alloc (.cells #[.int .u8 ((n : Int) % 256), .int .u8 ((n : Int) / 256)] 5)) (.slice (some ⟨w.heap.size, 0, none⟩) 2 2) (lb 2 n) :=
      Bs.lit w _ _ 2 (by simp [ints8, lb]; omega) (lb_length _ _) (by simp [maxLen])
    go_wp2_with fail
    refine (roPut_c _ r v s _ _ (h.keep KA (by simp) (by simp)) HB (by rw [lb_length]; omega)).mono ?_; rintro e w' ⟨v', rfl, hr, hk, hv⟩
    go_wp2_with fail
    go_ret
    exact ⟨v', rfl, by rw [HF.out]; exact hr, (KA.nil.trans hk (fun x hx => .inl hx)), fun b hb => (hv b hb).imp id (fun h => by simp at h; omega)⟩
theorem roU16_nil (w : World) (x : Int) : Calls Try.prog 25 #[.pointer none, .int .i64 x] w fun e w' => e = .returned (.pointer none) ∧ Keep [] w w' := by
  by_cases hx : x < 0 ∨ 65535 < x
  · rcases hx with hx | hx
    all_goals
      go_enter Try.func25, Try.ntmps25
      go_wp2_with fail
      refine (roFail_nil w 18).mono ?_; rintro e w' ⟨rfl, rfl⟩
      go_wp2_with fail
      go_ret
      exact ⟨rfl, Keep.refl _ _⟩
  · obtain ⟨n, rfl⟩ : ∃ n : Nat, x = n := ⟨x.toNat, by omega⟩
    have hn : n ≤ 65535 := by omega
    have KA : Keep [] w (w.alloc (.cells #[.int .u8 ((n : Int) % 256), .int .u8 ((n : Int) / 256)] 5)) := (Keep.refl [] w).alloc _
    go_enter Try.func25, Try.ntmps25
    go_wp2_with fail
    refine (roPut_nil _ _).mono ?_; rintro e w' ⟨rfl, rfl⟩
    go_wp2_with fail
    go_ret
    exact ⟨rfl, KA⟩
theorem roU32_c (w : World) (r : Nat) (v : Value) (s : WS) (n : Nat) (hn : n < 4294967296) (h : Ro w r v s) (hl : s.l.length + 4 ≤ 140737488355328) :
    Calls Try.prog 28 #[.pointer (some ⟨r, 0, none⟩), .int .u32 n] w fun e w' => ∃ v', e = .returned (.pointer (some ⟨r, 0, none⟩)) ∧ Ro w' r v' (s.put (lb 4 n)) ∧
      Keep (r :: v.ownBlock.toList) w w' ∧ (∀ b, v'.ownBlock = some b → v.ownBlock = some b ∨ w.heap.size ≤ b) := by
  have KA : Keep [] w (w.alloc (.cells #[.int .u8 ((n : Int) % 256), .int .u8 ((n : Int) / 256 % 256), .int .u8 ((n : Int) / 65536 % 256), .int .u8 ((n : Int) / 16777216)] 5)) := (Keep.refl [] w).alloc _
  have HB : Bs (w.alloc (.cells #[.int .u8 ((n : Int) % 256), .int .u8 ((n : Int) / 256 % 256), .int .u8 ((n : Int) / 65536 % 256), .int .u8 ((n : Int) / 16777216)] 5)) (.slice (some ⟨w.heap.size, 0, none⟩) 4 4) (lb 4 n) :=
    Bs.lit w _ _ 4 (by simp [ints8, lb]; omega) (lb_length _ _) (by simp [maxLen])
  go_enter Try.func28, Try.ntmps28
  go_wp2_with fail
  refine (roPut_c _ r v s _ _ (h.keep KA (by simp) (by simp)) HB (by rw [lb_length]; omega)).mono ?_; rintro e w' ⟨v', rfl, hr, hk, hv⟩
  go_wp2_with fail
  go_ret
  exact ⟨v', rfl, hr, (KA.nil.trans hk (fun x hx => .inl hx)), fun b hb => (hv b hb).imp id (fun h => by simp at h; omega)⟩
theorem roU32_nil (w : World) (n : Nat) (hn : n < 4294967296) : Calls Try.prog 28 #[.pointer none, .int .u32 n] w fun e w' => e = .returned (.pointer none) ∧ Keep [] w w' := by
  have KA : Keep [] w (w.alloc (.cells #[.int .u8 ((n : Int) % 256), .int .u8 ((n : Int) / 256 % 256), .int .u8 ((n : Int) / 65536 % 256), .int .u8 ((n : Int) / 16777216)] 5)) := (Keep.refl [] w).alloc _
  go_enter Try.func28, Try.ntmps28
  go_wp2_with fail
  refine (roPut_nil _ _).mono ?_; rintro e w' ⟨rfl, rfl⟩
  go_wp2_with fail
  go_ret
  exact ⟨rfl, KA⟩
end Go.Proofs.Ytgohdhpokehflaa
