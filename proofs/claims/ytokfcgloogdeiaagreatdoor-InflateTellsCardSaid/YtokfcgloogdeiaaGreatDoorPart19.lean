/- Texts put together: SfRep -/
import Derived.Test.YtokfcgloogdeiaaGreatDoorPart12
import Derived.Laws.CopyRow
import Derived.Laws.CopyOwn
import Derived.Deep.RegionLaw
import Derived.BigRegion
namespace Go.Proofs.YtokfcgloogdeiaaGreatDoor
set_option linter.unusedVariables false
set_option linter.unusedSimpArgs false
open Go.ChangeShapes Go.WideShapes Go.ChangeAt Go.RowKit

theorem size64' : (Tryz.prog.info? 3).map (·.size) = some 1 := by
  obtain ⟨i, hi, hz0, hz1, hz2⟩ := info_parts info64
  rw [hi]; simp [hz1]
theorem and32 : ∀ c : Nat, c ≤ 256 → Go.bits .and .u64 (c : Int) 4294967295 = (c : Int) := by decide +kernel
theorem mul64_one (w : World) (c : Nat) (hc : c ≤ 256) : Calls Tryz.prog 120 #[.int .u64 1, .int .u64 c] w fun e w' => e = .returned (.tuple #[.int .u64 0, .int .u64 c]) ∧ w = w' := by
  have ha := and32 c hc
  have hb1 : Go.bits .and .u64 1 4294967295 = 1 := by decide
  have hb0 : Go.bits .and .u64 0 4294967295 = 0 := by decide
  have hw0 : IntKind.u64.wrap 0 = 0 := by decide
  have hd : (c : Int) / 4294967296 = 0 := by omega
  have hw : IntKind.u64.wrap (c : Int) = c := by rw [IntKind.wrap_u64]; omega
  have hci : (c : Int) ≤ 256 := by omega
  go_enter Tryz.func120, Tryz.ntmps120
  go_wp2
  go_ret2
  simp [hb1, hb0, ha, hw, hd, hw0]
theorem mul_one (w : World) (c : Nat) (hc : c ≤ 256) : Calls Tryz.prog 113 #[.int .u64 1, .int .u64 c] w fun e w' => e = .returned (.tuple #[.int .u64 0, .int .u64 c]) ∧ w = w' := by
  have HM := Lib.hid (mul64_one w c hc)
  go_enter Tryz.func113, Tryz.ntmps113
  go_wp2_with fail
  refine HM.out.mono ?_; rintro e w1 ⟨rfl, rfl⟩
  go_wp2_with fail
  go_ret2
  exact ⟨rfl, rfl⟩
/-- c cells, the first n of them z -/
def fillL (c n : Nat) (z : Int) : List Value := List.replicate n (.int .i64 z) ++ List.replicate (c - n) (.int .i64 0)
theorem fillL_len (c n : Nat) (z : Int) (h : n ≤ c) : (fillL c n z).length = c := by simp [fillL]; omega
theorem fillL_get (c n : Nat) (z : Int) (j : Nat) (h : j < n) : (fillL c n z)[j]? = some (.int .i64 z) := by
  unfold fillL
  rw [List.getElem?_append_left (by simpa using h), List.getElem?_replicate, if_pos h]
theorem fill_copy (c n k : Nat) (z : Int) (h : n + k ≤ c) : (fillL c n z).take n ++ List.replicate k (.int .i64 z) ++ (fillL c n z).drop (n + k) = fillL c (n + k) z := by
  unfold fillL
  rw [List.take_left' (by simp), List.drop_append, List.drop_of_length_le (by simp), List.nil_append, List.length_replicate, show n + k - n = k by omega, List.drop_replicate, ← List.replicate_append_replicate, show c - n - k = c - (n + k) by omega]
/-- copy of k cells z into the row, as a step of a region that draws -/
theorem run_copyI (w : World) (ty : TypeId) (g c n o dLen dCap : Nat) (z : Int) (ad : Addr) (m mc : Nat) (hn : n ≤ c) (ho : o = n) (hd : o + dLen = c) (hb : Blk w g (fillL c n z).toArray 3) (hsrc : ∀ j, j < m → w.cell? (ad.add j) = some (.int .i64 z)) :
    (Builtin.copy_ #[38, 38] ty #[.slice (some ⟨g, o, none⟩) dLen dCap, .slice (some ad) m mc]).run Tryz.prog w = .ok (goInt ((Nat.min m dLen : Nat) : Int)) (w.setRow g (fillL c (n + Nat.min m dLen) z).toArray) := by
  subst ho
  have hmn : Nat.min m dLen ≤ dLen := Nat.min_le_right _ _
  have hmm : Nat.min m dLen ≤ m := Nat.min_le_left _ _
  have hl := fillL_len c o z hn
  have hrun := run_copy_row (P := Tryz.prog) w 38 38 ty 3 g o dLen dCap ad m mc (fillL c o z).toArray _ (List.replicate (Nat.min m dLen) (.int .i64 z)) Tryz.underlying38 size64' hb (by simp)
    (fun j v hv => by
      rw [List.getElem?_replicate] at hv
      split at hv
      · rw [hsrc j (by omega), ← hv]
      · cases hv) (by simp only [List.length_replicate, List.size_toArray]; omega) (fun v hv => by rw [(List.mem_replicate.1 hv).2]; rfl)
  rw [hrun]
  simp only [List.length_replicate]
  rw [fill_copy c o (Nat.min m dLen) z (by omega)]
theorem step_copyI {w : World} {ops : Array Oper} {o : Oper} {a : Act} {K : Act → World → Prop} {Q : Exit → Act → World → Prop} {E : Prop} (d s : Operand) (hgd : o.guard = none)
    (ho : o.op = .call { callee := .builtin .copy, args := #[d, s], argTypes := #[38, 38] })
    (g c n off dLen dCap : Nat) (z : Int) (ad : Addr) (m mc : Nat) (hn : n ≤ c) (hoff : off = n) (hdl : off + dLen = c) (hb : Blk w g (fillL c n z).toArray 3) (hd : a.eval d = .slice (some ⟨g, off, none⟩) dLen dCap) (hs : a.eval s = .slice (some ad) m mc) (hsrc : ∀ j, j < m → w.cell? (ad.add j) = some (.int .i64 z))
    (h : K (a.put o.dst (goInt ((Nat.min m dLen : Nat) : Int))) (w.setRow g (fillL c (n + Nat.min m dLen) z).toArray)) :
    if Region.wanted o (yielded ops a.tmps) = true then Oper.wp Tryz.prog o a w K Q else E := by
  have hw : Region.wanted o (yielded ops a.tmps) = true := by simp [Region.wanted, hgd]
  rw [if_pos hw]
  have hrun := run_copyI w o.type g c n off dLen dCap z ad m mc hn hoff hdl hb hsrc
  unfold Oper.wp
  simp [execOp, ho, resolve, invoke, builtin, hd, hs, hrun, Result.andThen]
  exact h
theorem wpList_copyI {w : World} {ops : Array Oper} {rest : List Oper} {o : Oper} {a : Act} {Q : Exit → Act → World → Prop} (d s : Operand) (hgd : o.guard = none)
    (ho : o.op = .call { callee := .builtin .copy, args := #[d, s], argTypes := #[38, 38] })
    (g c n off dLen dCap : Nat) (z : Int) (ad : Addr) (m mc : Nat) (hn : n ≤ c) (hoff : off = n) (hdl : off + dLen = c) (hb : Blk w g (fillL c n z).toArray 3) (hd : a.eval d = .slice (some ⟨g, off, none⟩) dLen dCap) (hs : a.eval s = .slice (some ad) m mc) (hsrc : ∀ j, j < m → w.cell? (ad.add j) = some (.int .i64 z))
    (h : wpList Tryz.prog ops Q rest (a.put o.dst (goInt ((Nat.min m dLen : Nat) : Int))) (w.setRow g (fillL c (n + Nat.min m dLen) z).toArray)) : wpList Tryz.prog ops Q (o :: rest) a w := by
  have hrun := run_copyI w o.type g c n off dLen dCap z ad m mc hn hoff hdl hb hsrc
  refine wpList_plain hgd fun K hK => ?_
  unfold Oper.wp
  simp [execOp, ho, resolve, invoke, builtin, hd, hs, hrun, Result.andThen]
  exact hK _ _ h
theorem addr0 (g m : Nat) : ((⟨g, 0, none⟩ : Addr).add m) = ⟨g, m, none⟩ := by cases m <;> simp [Addr.add]
theorem run_fromI (g c n : Nat) (x : Int) (hx : x = n) (h : n < c) (hc : c ≤ 256) (W : World) : (Instr.slice 38 (.slice (some ⟨g, 0, none⟩) c c) (some (.int .i64 x)) none none).run Tryz.prog W = .ok (.slice (some ⟨g, n, none⟩) (c - n) (c - n)) W := by
  subst hx
  rw [run_slice_l W _ _ _ _ under64.1 .i64 _ (by omega) (by omega), under64.2, size64]
  have : ¬ c = n := by omega
  simp [Result.andThen, sliced, this]
  rw [addr0]
theorem run_uptoI (g c n : Nat) (x : Int) (hx : x = n) (h : n ≤ c) (hc : c ≤ 256) (W : World) : (Instr.slice 38 (.slice (some ⟨g, 0, none⟩) c c) none (some (.int .i64 x)) none).run Tryz.prog W = .ok (.slice (some ⟨g, 0, none⟩) n c) W := by
  subst hx
  rw [run_slice_h W _ _ _ _ under64.1 .i64 _ (by omega) (by omega), under64.2, size64]
  by_cases e : c = 0
  · simp [Result.andThen, sliced, e]
  · have : ¬ c = 0 := e
    simp [Result.andThen, sliced, this, addr0]
end Go.Proofs.YtokfcgloogdeiaaGreatDoor
/- The library's Repeat. -/
namespace Go.Proofs.YtokfcgloogdeiaaGreatDoor
set_option linter.unusedVariables false
set_option linter.unusedSimpArgs false
open Go.ChangeShapes Go.WideShapes Go.ChangeAt Go.RowKit
set_option maxRecDepth 100000 in
set_option maxHeartbeats 2000000 in
theorem repeat_c (w : World) (xb c : Nat) (z : Int) (hx : Blk w xb #[.int .i64 z] 3) (h1 : 1 ≤ c) (h16 : c ≤ 256) :
    Calls Tryz.prog 106 #[.slice (some ⟨xb, 0, none⟩) 1 1, .int .i64 c] w fun e w' => ∃ g, e = .returned (.slice (some ⟨g, 0, none⟩) c c) ∧ Blk w' g (fillL c c z).toArray 3 ∧ Keep [] w w' ∧ w.heap.size ≤ g := by
  have HM := Lib.hid (mul_one w c h16)
  have hw1 : IntKind.u64.wrap (c : Int) = c := by rw [IntKind.wrap_u64]; omega
  have hw2 : IntKind.i64.wrap (c : Int) = c := by rw [IntKind.wrap_i64]; omega
  have hmk := run_make_intsC w c c (Nat.le_refl _) (by omega)
  have hz0 : madeCells #[.int .i64 0] c = (fillL c 0 z).toArray := by
    have := toList_madeCells_one (.int .i64 0) c
    rw [← Array.toList_inj, this]; simp [fillL]
  rw [hz0] at hmk
  have hbn := Blk.new w (fillL c 0 z).toArray 3
  have KA : Keep [] w (w.alloc (.cells (fillL c 0 z).toArray 3)) := (Keep.refl [] w).alloc _
  have hxa := hx.alloc (.cells (fillL c 0 z).toArray 3)
  have hsrc0 : ∀ j, j < 1 → (w.alloc (.cells (fillL c 0 z).toArray 3)).cell? ((⟨xb, 0, none⟩ : Addr).add j) = some (.int .i64 z) := fun j hj => by
    obtain rfl : j = 0 := by omega
    rw [addr0]; exact hxa.cell 0 _ rfl
  have hmin : Nat.min 1 c = 1 := Nat.min_eq_left h1
  go_enter Tryz.func106, Tryz.ntmps106
  go_wp2_with fail
  refine HM.out.mono ?_; rintro e w1 ⟨rfl, rfl⟩
  clear HM
  go_wp2_with (refine wpList_copyI _ _ rfl rfl w.heap.size c 0 0 c c z ⟨xb, 0, none⟩ 1 1 (Nat.zero_le _) rfl (Nat.zero_add _) hbn rfl rfl hsrc0 ?_)
  have hb1 := hbn.setRow (fillL c 1 z).toArray
  have K1 : Keep [] w ((w.alloc (.cells (fillL c 0 z).toArray 3)).setRow w.heap.size (fillL c 1 z).toArray) := KA.trans (Keep.setRow _) (fun x hx => .inr (by simp at hx; omega))
  try simp only [Nat.zero_add]
  generalize (w.alloc (.cells (fillL c 0 z).toArray 3)).setRow w.heap.size (fillL c 1 z).toArray = w2 at hb1 K1 ⊢
  obtain ⟨g, hg⟩ : ∃ g, w.heap.size = g := ⟨_, rfl⟩
  rw [hg] at hb1 ⊢
  have HG : Hid (w.heap.size ≤ g) := by unfold Hid; omega
  clear hg hbn KA hxa hsrc0 hmk hz0 hx hmin
  go_wp2_with fail
  go_loopw [8] (fun i wr => ∃ n : Nat, 1 ≤ n ∧ n ≤ c ∧ i = .int .i64 n ∧ Blk wr g (fillL c n z).toArray 3 ∧ Keep [] w wr) (fun i _ => c - (intOf i).toNat)
  case atStart => exact ⟨1, by omega, h1, rfl, hb1, K1⟩
  case round =>
    clear hb1 K1
    obtain ⟨n, n1, n2, rfl, hb, K⟩ := hrel
    by_cases hlt : n < c
    · have r1 := run_fromI g c n n rfl hlt h16
      have r2 := run_uptoI g c n n rfl (by omega) h16
      have hsrc : ∀ j, j < n → wr.cell? ((⟨g, 0, none⟩ : Addr).add j) = some (.int .i64 z) := fun j hj => by
        rw [addr0]; exact hb.cell j _ (by rw [List.getElem?_toArray]; exact fillL_get c n z j hj)
      obtain ⟨k, hk⟩ : ∃ k, Nat.min n (c - n) = k := ⟨_, rfl⟩
      have hk1 : 1 ≤ k := by have : 0 < Nat.min n (c - n) := Nat.lt_min.2 ⟨by omega, by omega⟩; rw [hk] at this; omega
      have hk2 : n + k ≤ c := by have h9 : Nat.min n (c - n) ≤ c - n := Nat.min_le_right _ _; rw [hk] at h9; omega
      obtain ⟨w3, hrun, hb3, K3⟩ : ∃ w3, (Builtin.copy_ #[38, 38] 3 #[.slice (some ⟨g, n, none⟩) (c - n) (c - n), .slice (some ⟨g, 0, none⟩) n c]).run Tryz.prog wr.drew = .ok (.int .i64 (k : Int)) w3 ∧ Blk w3 g (fillL c (n + k) z).toArray 3 ∧ Keep [] w w3 := by
        refine ⟨_, ?_, (hb.keep ((Keep.refl [] _).drew) (by simp)).setRow (fillL c (n + k) z).toArray, (K.drew).trans (Keep.setRow _) (fun x hx => .inr (by simp at hx; subst hx; exact HG.out))⟩
        have hrun := run_copyI wr.drew 3 g c n n (c - n) (c - n) z ⟨g, 0, none⟩ n c (by omega) rfl (by omega) (hb.keep ((Keep.refl [] _).drew) (by simp)) hsrc
        rw [hk] at hrun
        exact hrun
      clear hsrc hb K hk
      have hki : IntKind.i64.wrap ((n : Int) + (k : Int)) = ((n + k : Nat) : Int) := by rw [IntKind.wrap_i64]; omega
      go_wp2_with fail
      go_region_with fail
      all_goals
        dsimp [Act.put]
        simp only [List.setIfInBounds_toArray, List.set_cons_succ, List.set_cons_zero, Exit.inBlock, Exit.then]
        go_roundw
        case rel =>
          repeat apply Exists.intro
          exact ⟨⟨n + k, by omega, hk2, by go_num, hb3, K3⟩, rfl⟩
        case measure => simp [intOf]; omega
    · obtain rfl : n = c := by omega
      go_wp2_with fail
      go_ret
      exact ⟨g, rfl, hb, K, HG.out⟩
end Go.Proofs.YtokfcgloogdeiaaGreatDoor
