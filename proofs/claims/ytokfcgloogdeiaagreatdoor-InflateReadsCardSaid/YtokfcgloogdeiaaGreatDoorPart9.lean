/- Texts put together: Hst1 -/
import Derived.Test.YtokfcgloogdeiaaGreatDoorPart4
import Derived.Test.YtokfcgloogdeiaaGreatDoorPart3
import Derived.Test.YtokfcgloogdeiaaGreatDoorPart6
import Derived.Test.YtokfcgloogdeiaaGreatDoorPart7
import Derived.Test.YtokfcgloogdeiaaGreatDoorPart8
import Derived.Laws.Tables
namespace Go.Proofs.YtokfcgloogdeiaaGreatDoor
set_option linter.unusedVariables false
set_option linter.unusedSimpArgs false
open Go.ChangeShapes Go.WideShapes Go.ChangeAt Go.RowKit

/-- block q is an output in state s; its bytes lie in the slice v -/
def Hv (w : World) (q : Nat) (v : Value) (s : HS) : Prop :=
  Blk w q #[v, .int .i64 s.win, .int .i64 s.most, .bool s.nou] 95 ∧ OwnB w v s.b ∧ (∀ b, v.ownBlock = some b → b ≠ q) ∧ s.b.length ≤ s.most ∧ s.most ≤ 9223372036854775807 ∧ s.win ≤ 65536 ∧ 1 ≤ s.win
theorem Hv.keep {w w' : World} {q : Nat} {v : Value} {s : HS} {S : List Nat} (h : Hv w q v s) (k : Keep S w w') (hr : q ∉ S) (hv : ∀ b, v.ownBlock = some b → b ∉ S) : Hv w' q v s :=
  ⟨h.1.keep k hr, h.2.1.keep k hv, h.2.2⟩
theorem Hv.drewN {w : World} {q : Nat} {v : Value} {s : HS} (h : Hv w q v s) (n : Nat) : Hv (w.drewN n) q v s := h.keep ((Keep.refl [] w).drewN _) (by simp) (by simp)
theorem Hv.tell {w w1 : World} {q : Nat} {v v1 : Value} {s : HS} {l1 : List UInt8} (h : Hv w q v s) (k : Keep v.ownBlock.toList w w1) (ho : OwnB w1 v1 l1) (hb : ∀ b, v1.ownBlock = some b → v.ownBlock = some b ∨ w.heap.size ≤ b) (hl : l1.length ≤ s.most) :
    Hv (w1.setCell ⟨q, 0, none⟩ v1) q v1 { s with b := l1 } ∧ Keep (q :: v.ownBlock.toList) w (w1.setCell ⟨q, 0, none⟩ v1) ∧ (∀ b, v1.ownBlock = some b → v.ownBlock = some b ∨ w.heap.size ≤ b) := by
  have hq : q ∉ v.ownBlock.toList := fun hm => h.2.2.1 q (by simpa using hm) rfl
  have h1 := h.1.keep k hq
  have hr : ∀ b, v1.ownBlock = some b → b ≠ q := by
    intro b hb' e
    rcases hb b hb' with h' | h'
    · exact h.2.2.1 b h' e
    · have := h.1.lt; omega
  refine ⟨⟨by simpa using h1.set 0 v1, ho.keep ((Keep.refl [q] _).setCell (by simp) _) (by simpa using hr), hr, hl, h.2.2.2.2⟩, ?_, hb⟩
  exact (k.mono (fun x hx => List.mem_cons_of_mem _ hx)).setCell (by simp) _
/-- an output that New did not make -/
def hoz : Array Value := #[.slice none 0 0, .int .i64 0, .int .i64 0, .bool false]
theorem hoInfo : (Tryz.prog.info? 95).map (fun i => (i.zero, i.size)) = some (some (.agg hoz), 4) := by kernel_rfl
theorem hoBuilt : Tryz.prog.built 95 [] = some hoz := by kernel_rfl
def HoPlain (w : World) (q : Nat) : Prop := Blk w q hoz 95
theorem HoPlain.keep {w w' : World} {q : Nat} {S : List Nat} (h : HoPlain w q) (k : Keep S w w') (hq : q ∉ S) : HoPlain w' q := Blk.keep h k hq
theorem hoz_plain (w : World) (q : Nat) (h : Blk w q hoz 95) : HoPlain w q := h

theorem made_none (w : World) : Calls Tryz.prog 48 #[.pointer none] w fun e w' => e = .returned (.bool false) ∧ w = w' := by
  go_enter Tryz.func48, Tryz.ntmps48
  go_wp2
  go_ret
  exact ⟨rfl, rfl⟩
theorem made_plain (w : World) (q : Nat) (h : HoPlain w q) : Calls Tryz.prog 48 #[.pointer (some ⟨q, 0, none⟩)] w fun e w' => e = .returned (.bool false) ∧ w = w' := by
  have c1 : w.cell? ⟨q, 1, none⟩ = some (.int .i64 0) := Blk.cell h 1 _ rfl
  go_enter Tryz.func48, Tryz.ntmps48
  go_wp2
  go_ret
  exact ⟨rfl, rfl⟩
theorem made_c (w : World) (q : Nat) (v : Value) (s : HS) (h : Hv w q v s) : Calls Tryz.prog 48 #[.pointer (some ⟨q, 0, none⟩)] w fun e w' => e = .returned (.bool true) ∧ w = w' := by
  have c1 := h.1.cell 1 _ rfl
  have hw : decide (0 < s.win) = true := by simp; have := h.2.2.2.2.2.2; omega
  have hw2 : decide ((0 : Int) < (s.win : Int)) = true := by simp; have := h.2.2.2.2.2.2; omega
  go_enter Tryz.func48, Tryz.ntmps48
  go_wp2
  go_ret
  exact ⟨rfl, rfl⟩
theorem sameQ {v : Value} {w : World} {e : Ending} {w' : World} (h : e = .returned v ∧ w = w') : e = .returned v ∧ ∃ n, w' = w.drewN n := ⟨h.1, 0, h.2.symm⟩
theorem hs_full_none (w : World) : Calls Tryz.prog 24 #[.pointer none] w fun e w' => e = .returned (.bool false) ∧ ∃ n, w' = w.drewN n := by
  go_enter Tryz.func24, Tryz.ntmps24
  go_wp2_with fail
  go_quiet ((go_at_call 48; exact Calls.quiet_of ((made_none _).mono fun _ _ => sameQ)))
  go_wp2
  go_ret
  exact ⟨rfl, _, rfl⟩
theorem hs_full_plain (w : World) (q : Nat) (h : HoPlain w q) : Calls Tryz.prog 24 #[.pointer (some ⟨q, 0, none⟩)] w fun e w' => e = .returned (.bool false) ∧ ∃ n, w' = w.drewN n := by
  have H : ∀ n, HoPlain (w.drewN n) q := fun n => h.keep ((Keep.refl [] w).drewN n) (by simp)
  have HH := Lib.hid H; clear H
  go_enter Tryz.func24, Tryz.ntmps24
  go_wp2_with fail
  go_quiet ((go_at_call 48; exact Calls.quiet_of ((made_plain _ _ (HH.out _)).mono fun _ _ => sameQ)))
  go_wp2
  go_ret
  exact ⟨rfl, _, rfl⟩
theorem full_c (w : World) (q : Nat) (v : Value) (s : HS) (h : Hv w q v s) : Calls Tryz.prog 24 #[.pointer (some ⟨q, 0, none⟩)] w fun e w' => e = .returned (.bool (decide (s.b.length = s.most))) ∧ ∃ n, w' = w.drewN n := by
  have c0 := h.1.cell 0 _ rfl
  have c2 := h.1.cell 2 _ rfl
  have hlen : s.b.length ≤ s.most := h.2.2.2.1
  obtain ⟨a, cap, rfl, _⟩ := h.2.1.bs
  have HM := Lib.hid (fun n => made_c (w.drewN n) q _ s (h.drewN n))
  obtain ⟨b, hb⟩ : ∃ b : Bool, decide (s.b.length = s.most) = b := ⟨_, rfl⟩
  have hb2 : ((s.b.length : Int) == (s.most : Int)) = b := by
    rw [← hb]; cases e : decide (s.b.length = s.most) <;> simp at e ⊢ <;> omega
  have HB := Lib.hid hb; clear hb
  go_enter Tryz.func24, Tryz.ntmps24
  go_wp2_with fail
  go_quiet ((go_at_call 48; exact Calls.quiet_of ((HM.out _).mono fun _ _ => sameQ)))
  go_wp2
  go_ret
  exact ⟨by rw [HB.out]; rfl, _, rfl⟩
theorem hs_bytes_none (w : World) : Calls Tryz.prog 26 #[.pointer none] w fun e w' => ∃ v, e = .returned v ∧ Bs w' v [] ∧ Keep [] w w' := by
  go_enter Tryz.func26, Tryz.ntmps26
  go_wp2_with (refine (made_none _).mono ?_; rintro e w' ⟨rfl, rfl⟩)
  go_ret
  exact ⟨_, rfl, Bs.nil _, Keep.refl _ _⟩
theorem hs_bytes_plain (w : World) (q : Nat) (h : HoPlain w q) : Calls Tryz.prog 26 #[.pointer (some ⟨q, 0, none⟩)] w fun e w' => ∃ v, e = .returned v ∧ Bs w' v [] ∧ Keep [] w w' := by
  go_enter Tryz.func26, Tryz.ntmps26
  go_wp2_with (refine (made_plain _ _ h).mono ?_; rintro e w' ⟨rfl, rfl⟩)
  go_ret
  exact ⟨_, rfl, Bs.nil _, Keep.refl _ _⟩
theorem bytes_c (w : World) (q : Nat) (v : Value) (s : HS) (h : Hv w q v s) (hl : s.b.length ≤ 140737488355328) : Calls Tryz.prog 26 #[.pointer (some ⟨q, 0, none⟩)] w fun e w' => ∃ v', e = .returned v' ∧ OwnB w' v' s.b ∧ Keep [] w w' ∧ ∀ b, v'.ownBlock = some b → w.heap.size ≤ b := by
  have c0 := h.1.cell 0 _ rfl
  have HM := Lib.hid (made_c w q _ s h)
  have hc := Lib.hid (clone_c w v s.b hl h.2.1.bs)
  obtain ⟨a, cap, rfl, _⟩ := h.2.1.bs
  go_enter Tryz.func26, Tryz.ntmps26
  go_wp2_with fail
  refine HM.out.mono ?_; rintro e w' ⟨rfl, rfl⟩
  go_wp2_with fail
  refine hc.out.mono ?_; rintro e w2 ⟨v2, rfl, ho, hk2, hv2⟩
  go_wp2_with fail
  go_ret
  exact ⟨v2, rfl, ho, hk2, hv2⟩
theorem hs_lit_none (w : World) (c : UInt8) : Calls Tryz.prog 59 #[.pointer none, .int .u8 c.toNat] w fun e w' => e = .returned (.int .i64 1) ∧ w = w' := by
  go_enter Tryz.func59, Tryz.ntmps59
  go_wp2_with (refine (made_none _).mono ?_; rintro e w' ⟨rfl, rfl⟩)
  go_ret
  exact ⟨rfl, rfl⟩
theorem hs_lit_plain (w : World) (q : Nat) (c : UInt8) (h : HoPlain w q) : Calls Tryz.prog 59 #[.pointer (some ⟨q, 0, none⟩), .int .u8 c.toNat] w fun e w' => e = .returned (.int .i64 1) ∧ ∃ n, w' = w.drewN n := by
  go_enter Tryz.func59, Tryz.ntmps59
  go_wp2_with (refine (made_plain _ _ h).mono ?_; rintro e w' ⟨rfl, rfl⟩)
  go_ret
  exact ⟨rfl, 0, rfl⟩
theorem litw_c (w : World) (q : Nat) (v : Value) (s : HS) (c : UInt8) (h : Hv w q v s) (hl : s.b.length + 1 ≤ 140737488350000) : Calls Tryz.prog 59 #[.pointer (some ⟨q, 0, none⟩), .int .u8 c.toNat] w fun e w' => e = .returned (.int .i64 (s.lit c).1) ∧
    ∃ v', Hv w' q v' (s.lit c).2 ∧ Keep (q :: v.ownBlock.toList) w w' ∧ (∀ b, v'.ownBlock = some b → v.ownBlock = some b ∨ w.heap.size ≤ b) := by
  have HM := Lib.hid (made_c w q _ s h)
  have HF := Lib.hid (full_c w q _ s h)
  have hlen := h.2.2.2.1
  by_cases hf : s.most ≤ s.b.length
  · have hd : decide (s.b.length = s.most) = true := by simp; omega
    rw [hd] at HF
    have hr : s.lit c = (9, s) := by unfold HS.lit; rw [if_pos hf]
    have HR := Lib.hid hr; clear hr hd hf
    go_enter Tryz.func59, Tryz.ntmps59
    go_wp2_with fail
    refine HM.out.mono ?_; rintro e w' ⟨rfl, rfl⟩
    go_wp2_with fail
    refine HF.out.mono ?_; rintro e w' ⟨rfl, n, rfl⟩
    go_wp2_with fail
    go_ret
    rw [HR.out]
    exact ⟨rfl, v, h.drewN _, (Keep.refl _ _).drewN _, fun b hb => .inl hb⟩
  · have hd : decide (s.b.length = s.most) = false := by simp; omega
    rw [hd] at HF
    have hr : s.lit c = (0, { s with b := s.b ++ [c] }) := by unfold HS.lit; rw [if_neg hf]
    have hl2 : (s.b ++ [c]).length ≤ s.most := by rw [List.length_append]; simp; omega
    have HR := Lib.hid hr; have HL2 := Lib.hid hl2; clear hr hd hf hl2
    go_enter Tryz.func59, Tryz.ntmps59
    go_wp2_with fail
    refine HM.out.mono ?_; rintro e w' ⟨rfl, rfl⟩
    go_wp2_with fail
    refine HF.out.mono ?_; rintro e w' ⟨rfl, n, rfl⟩
    have h2 := h.drewN n
    have KN : Keep [] w (w.drewN n) := (Keep.refl _ _).drewN _
    generalize w.drewN n = wn at h2 KN ⊢
    have HN := Lib.hid (Bs.new1 wn c)
    have KA := (Keep.refl [] wn).alloc (.cells #[.int .u8 (c.toNat)] 5)
    have hO := h2.2.1.keep KA (by simp)
    have hB := h2.1.keep KA (by simp)
    have hr0 := h2.2.2.1
    have c0 := h2.1.cell 0 _ rfl
    have c0' := hB.cell 0 _ rfl
    have hll : s.b.length + [c].length ≤ 140737488355328 := by simp; omega
    obtain ⟨a1, n1, cp1, rfl⟩ := h2.2.1.shape
    go_wp2_with (at_builtin; (refine wpList_appendB (.tmp 14) (.tmp 16) rfl rfl (.slice a1 n1 cp1) s.b rfl hO _ [c] rfl HN.out hll ?_); (intro v3 w3 ho3 hk3 hb3 hz3); (obtain ⟨a3, n3, cp3, rfl⟩ := ho3.shape); (have HR3 := hB.keep hk3 (fun hm => hr0 q (by simpa using hm) rfl)); (have d0 := HR3.cell 0 _ rfl); (have g0 := HR3.free 0))
    go_ret
    rw [HR.out]
    refine ⟨rfl, .slice a3 n3 cp3, ?_⟩
    have KK : Keep (Value.slice a1 n1 cp1).ownBlock.toList wn w3 := (KA.nil).trans hk3 (fun x hx => .inl hx)
    obtain ⟨t1, t2, t3⟩ := h2.tell KK ho3 (by
      intro b hb; rcases hb3 b hb with h' | h'
      · exact .inl h'
      · right; simp at h'; omega) HL2.out
    exact ⟨t1, (KN.nil).trans t2 (fun x hx => .inl hx), fun b hb => (t3 b hb).imp id fun h' => Nat.le_trans KN.size h'⟩
end Go.Proofs.YtokfcgloogdeiaaGreatDoor
