/- Contracts of the machine's calls, as the laws use them. -/
import Derived.Test.YtmafgamacijdaaaDle2
import Derived.Test.YtmafgamacijdaaaKept
import Derived.Test.YtmafgamacijdaaaArr
namespace Go.Proofs.Ytmafgamacijdaaa
set_option linter.unusedVariables false
set_option linter.unusedSimpArgs false
set_option maxRecDepth 100000
open Go.ChangeShapes Go.WideShapes Go.ChangeAt Go.RowKit

/-- a machine that New did not make -/
def dlz : Array Value := #[.pointer none, .int .i64 0, .int .i64 0, .int .i64 0, .int .i64 0]
theorem dlInfo : (Try.prog.info? 54).map (fun i => (i.zero, i.size)) = some (some (.agg dlz), 5) := by kernel_rfl
def DmPlain (w : World) (q : Nat) : Prop := Blk w q dlz 54
theorem DmPlain.keep {w w' : World} {q : Nat} {S : List Nat} (h : DmPlain w q) (k : Keep S w w') (hq : q ∉ S) : DmPlain w' q := Blk.keep h k hq
theorem dlz_plain (w : World) (q : Nat) (h : Blk w q dlz 54) : DmPlain w q := h
theorem dmade_none (w : World) : Calls Try.prog 26 #[.pointer none] w fun e w' => e = .returned (.bool false) ∧ ∃ n, w' = w.drewN n := by
  go_enter Try.func26, Try.ntmps26
  go_wp2
  go_ret
  exact ⟨rfl, 0, rfl⟩
theorem dmade_plain (w : World) (q : Nat) (h : DmPlain w q) : Calls Try.prog 26 #[.pointer (some ⟨q, 0, none⟩)] w fun e w' => e = .returned (.bool false) ∧ ∃ n, w' = w.drewN n := by
  have c0 : w.cell? ⟨q, 0, none⟩ = some (.pointer none) := Blk.cell h 0 _ rfl
  go_enter Try.func26, Try.ntmps26
  go_wp2
  go_ret
  exact ⟨rfl, 0, rfl⟩
theorem dmade_c (w : World) (q : Nat) (bs : List Nat) (m : MS) (h : Dm w q bs m) : Calls Try.prog 26 #[.pointer (some ⟨q, 0, none⟩)] w fun e w' => e = .returned (.bool true) ∧ ∃ n, w' = w.drewN n := by
  obtain ⟨qo, bo, rfl, hq, B, O, ok, nou, inv⟩ := h
  have c0 := B.cell 0 _ rfl
  clear inv ok nou O B
  go_enter Try.func26, Try.ntmps26
  go_wp2
  go_ret
  exact ⟨rfl, 0, rfl⟩
theorem Dm.drewN {w : World} {q : Nat} {bs : List Nat} {m : MS} (h : Dm w q bs m) (n : Nat) : Dm (w.drewN n) q bs m := h.keep ((Keep.refl [] w).drewN n) (by simp)
theorem DmPlain.drewN {w : World} {q : Nat} (h : DmPlain w q) (n : Nat) : DmPlain (w.drewN n) q := h.keep ((Keep.refl [] w).drewN n) (by simp)
theorem dl_rest_none (w : World) : Calls Try.prog 17 #[.pointer none] w fun e w' => e = .returned (.bool false) ∧ ∃ n, w' = w.drewN n := by
  go_enter Try.func17, Try.ntmps17
  go_wp2_with fail
  refine (dmade_none _).mono ?_; rintro e w1 ⟨rfl, n, rfl⟩
  go_wp2_with fail
  go_ret
  exact ⟨rfl, n, rfl⟩
theorem dl_rest_plain (w : World) (q : Nat) (h : DmPlain w q) : Calls Try.prog 17 #[.pointer (some ⟨q, 0, none⟩)] w fun e w' => e = .returned (.bool false) ∧ ∃ n, w' = w.drewN n := by
  have HH := Lib.hid (dmade_plain _ _ h); clear h
  go_enter Try.func17, Try.ntmps17
  go_wp2_with fail
  refine HH.out.mono ?_; rintro e w1 ⟨rfl, n, rfl⟩
  go_wp2_with fail
  go_ret
  exact ⟨rfl, n, rfl⟩
theorem dl_rest (w : World) (q : Nat) (bs : List Nat) (m : MS) (h : Dm w q bs m) : Calls Try.prog 17 #[.pointer (some ⟨q, 0, none⟩)] w fun e w' => e = .returned (.bool (decide (m.st = 0))) ∧ ∃ n, w' = w.drewN n := by
  have HH := Lib.hid (dmade_c _ _ _ _ h)
  have HD := Lib.hid (fun n => h.drewN n)
  obtain ⟨b, hb⟩ : ∃ b, decide (m.st = 0) = b := ⟨_, rfl⟩
  have hb2 : ((m.st : Int) == 0) = b := by rw [← hb]; cases e : decide (m.st = 0) <;> simp at e ⊢ <;> omega
  rw [hb]
  clear hb h
  go_enter Try.func17, Try.ntmps17
  go_wp2_with fail
  refine HH.out.mono ?_; rintro e w1 ⟨rfl, n, rfl⟩
  obtain ⟨qo, bo, rfl, hq, B, O, ok, nou, inv⟩ := HD.out n
  have c2 := B.cell 2 _ rfl
  simp only [List.getElem_toArray, List.getElem_cons_zero, List.getElem_cons_succ] at c2
  clear inv ok nou O B
  obtain ⟨w2, hw2⟩ : ∃ w2, w.drewN n = w2 := ⟨_, rfl⟩
  have HW := Lib.hid hw2
  rw [hw2] at c2 ⊢
  clear hw2
  go_wp2_with fail
  go_ret
  exact ⟨rfl, n, HW.out.symm⟩
theorem dl_full_none (w : World) : Calls Try.prog 15 #[.pointer none] w fun e w' => e = .returned (.bool false) ∧ ∃ n, w' = w.drewN n := by
  go_enter Try.func15, Try.ntmps15
  go_wp2_with fail
  refine (dl_rest_none _).mono ?_; rintro e w1 ⟨rfl, n, rfl⟩
  go_wp2_with fail
  go_ret
  exact ⟨rfl, n, rfl⟩
theorem dl_full_plain (w : World) (q : Nat) (h : DmPlain w q) : Calls Try.prog 15 #[.pointer (some ⟨q, 0, none⟩)] w fun e w' => e = .returned (.bool false) ∧ ∃ n, w' = w.drewN n := by
  have HH := Lib.hid (dl_rest_plain _ _ h); clear h
  go_enter Try.func15, Try.ntmps15
  go_wp2_with fail
  refine HH.out.mono ?_; rintro e w1 ⟨rfl, n, rfl⟩
  go_wp2_with fail
  go_ret
  exact ⟨rfl, n, rfl⟩
theorem dl_full (w : World) (q : Nat) (bs : List Nat) (m : MS) (h : Dm w q bs m) : Calls Try.prog 15 #[.pointer (some ⟨q, 0, none⟩)] w fun e w' => e = .returned (.bool m.full) ∧ ∃ n, w' = w.drewN n := by
  have HH := Lib.hid (dl_rest _ _ _ _ h)
  obtain ⟨qo, bo, rfl, hq, B, O, ok, nou, inv⟩ := h
  have HF := Lib.hid (fun n => hs_full _ _ _ _ (O.keep ((Keep.refl [] w).drewN n) (by simp)))
  have HB := Lib.hid (fun n => (B.keep ((Keep.refl [] w).drewN n) (by simp)).cell 0 _ rfl)
  simp only [List.getElem_toArray, List.getElem_cons_zero, List.getElem_cons_succ] at HB
  have hd : m.full = (decide (m.st = 0) && decide ((HS.wn m.f m.o).b.length = (HS.wn m.f m.o).most)) := rfl
  obtain ⟨b, hb⟩ : ∃ b, decide (m.st = 0) = b := ⟨_, rfl⟩
  obtain ⟨b2, hb2⟩ : ∃ b2, decide ((HS.wn m.f m.o).b.length = (HS.wn m.f m.o).most) = b2 := ⟨_, rfl⟩
  rw [hd, hb, hb2]
  rw [hb] at HH
  rw [hb2] at HF
  clear hd hb hb2 inv ok nou O B
  cases b
  · go_enter Try.func15, Try.ntmps15
    go_wp2_with fail
    refine HH.out.mono ?_; rintro e w1 ⟨rfl, n, rfl⟩
    go_wp2_with fail
    go_ret
    exact ⟨by simp, n, rfl⟩
  · go_enter Try.func15, Try.ntmps15
    go_wp2_with fail
    refine HH.out.mono ?_; rintro e w1 ⟨rfl, n, rfl⟩
    have c0 := HB.out n
    have HFN := Lib.hid (HF.out n)
    obtain ⟨w2, hw2⟩ : ∃ w2, w.drewN n = w2 := ⟨_, rfl⟩
    have HW := Lib.hid hw2
    rw [hw2] at c0 HFN ⊢
    clear hw2
    go_wp2_with fail
    refine HFN.out.mono ?_; rintro e w3 ⟨rfl, n3, rfl⟩
    go_wp2_with fail
    go_ret
    exact ⟨by simp, n + n3, by rw [← HW.out, World.drewN_drewN]⟩
theorem dl_bytes_none (w : World) : Calls Try.prog 14 #[.pointer none] w fun e w' => ∃ v, e = .returned v ∧ Bs w' v [] ∧ Keep [] w w' := by
  go_enter Try.func14, Try.ntmps14
  go_wp2_with fail
  refine (dmade_none _).mono ?_; rintro e w1 ⟨rfl, n, rfl⟩
  go_wp2_with fail
  go_ret
  exact ⟨_, rfl, Bs.nil _, (Keep.refl _ _).drewN n⟩
theorem dl_bytes_plain (w : World) (q : Nat) (h : DmPlain w q) : Calls Try.prog 14 #[.pointer (some ⟨q, 0, none⟩)] w fun e w' => ∃ v, e = .returned v ∧ Bs w' v [] ∧ Keep [] w w' := by
  have HH := Lib.hid (dmade_plain _ _ h); clear h
  go_enter Try.func14, Try.ntmps14
  go_wp2_with fail
  refine HH.out.mono ?_; rintro e w1 ⟨rfl, n, rfl⟩
  go_wp2_with fail
  go_ret
  exact ⟨_, rfl, Bs.nil _, (Keep.refl _ _).drewN n⟩
theorem dl_bytes (w : World) (q : Nat) (bs : List Nat) (m : MS) (h : Dm w q bs m) (hl : m.o.b.length ≤ 140737488340000) : Calls Try.prog 14 #[.pointer (some ⟨q, 0, none⟩)] w fun e w' => ∃ v, e = .returned v ∧ Bs w' v m.o.b ∧ Keep [] w w' ∧ ∀ b, v.ownBlock = some b → w.heap.size ≤ b := by
  have HH := Lib.hid (dmade_c _ _ _ _ h)
  have HD := Lib.hid (fun n => h.drewN n)
  clear h
  go_enter Try.func14, Try.ntmps14
  go_wp2_with fail
  refine HH.out.mono ?_; rintro e w1 ⟨rfl, n, rfl⟩
  obtain ⟨qo, bo, rfl, hq, B, O, ok, nou, inv⟩ := HD.out n
  have K : Keep [] w (w.drewN n) := (Keep.refl _ _).drewN n
  have hsz : (w.drewN n).heap.size = w.heap.size := by simp
  have c0 := B.cell 0 _ rfl
  simp only [List.getElem_toArray, List.getElem_cons_zero, List.getElem_cons_succ] at c0
  clear inv ok nou B
  go_wp2_with fail
  refine (hs_bytes _ _ _ _ O (by show m.o.b.length ≤ _; omega)).mono ?_; rintro e w2 ⟨v, rfl, hv, k2, b2⟩
  go_wp2_with fail
  go_ret
  exact ⟨v, rfl, hv.bs, K.trans k2 (by simp), fun b hb => by have := b2 b hb; omega⟩
theorem dl_feed_none (w : World) (c : UInt8) : Calls Try.prog 11 #[.pointer none, .int .u8 c.toNat] w fun e w' => e = .returned (.int .i64 1) ∧ ∃ n, w' = w.drewN n := by
  go_enter Try.func11, Try.ntmps11
  go_wp2_with fail
  refine (dmade_none _).mono ?_; rintro e w1 ⟨rfl, n, rfl⟩
  go_wp2_with fail
  go_ret
  exact ⟨rfl, n, rfl⟩
theorem dl_feed_plain (w : World) (q : Nat) (c : UInt8) (h : DmPlain w q) : Calls Try.prog 11 #[.pointer (some ⟨q, 0, none⟩), .int .u8 c.toNat] w fun e w' => e = .returned (.int .i64 1) ∧ ∃ n, w' = w.drewN n := by
  have HH := Lib.hid (dmade_plain _ _ h); clear h
  go_enter Try.func11, Try.ntmps11
  go_wp2_with fail
  refine HH.out.mono ?_; rintro e w1 ⟨rfl, n, rfl⟩
  go_wp2_with fail
  go_ret
  exact ⟨rfl, n, rfl⟩
end Go.Proofs.Ytmafgamacijdaaa
