/- The library's Repeat. -/
import Derived.Test.YtblogjpoijfpbaaSfRep
import Derived.BigRegion
namespace Go.Proofs.Ytblogjpoijfpbaa
set_option linter.unusedVariables false
set_option linter.unusedSimpArgs false
open Go.ChangeShapes Go.WideShapes Go.ChangeAt Go.RowKit
set_option maxRecDepth 100000 in
set_option maxHeartbeats 2000000 in
theorem repeat_c (w : World) (xb c : Nat) (z : Int) (hx : Blk w xb #[.int .i64 z] 3) (h1 : 1 ≤ c) (h16 : c ≤ 16) :
    Calls Try.prog 46 #[.slice (some ⟨xb, 0, none⟩) 1 1, .int .i64 c] w fun e w' => ∃ g, e = .returned (.slice (some ⟨g, 0, none⟩) c c) ∧ Blk w' g (fillL c c z).toArray 3 ∧ Keep [] w w' ∧ w.heap.size ≤ g := by
  have HM := Lib.hid (mul_one w c h16)
  have hw1 : IntKind.u64.wrap (c : Int) = c := by rw [IntKind.wrap_u64]; omega
  have hw2 : IntKind.i64.wrap (c : Int) = c := by rw [IntKind.wrap_i64]; omega
  have hmk := run_make_intsC w c c (Nat.le_refl _) (by omega)
  have hz0 : madeCells #[.int .i64 0] c = (fillL c 0 z).toArray := by
    have := toList_madeCells_one (.int .i64 0) c
    rw [← Array.toList_inj, this]; simp [fillL]
  rw [hz0] at hmk
  have hbn := Blk.new w (fillL c 0 z).toArray 3
  have KA : Keep [] w (w.alloc (.cells (fillL c 0 z).toArray 3)) := (Keep.refl [] w).alloc _
  have hxa := hx.alloc (.cells (fillL c 0 z).toArray 3)
  have hsrc0 : ∀ j, j < 1 → (w.alloc (.cells (fillL c 0 z).toArray 3)).cell? ((⟨xb, 0, none⟩ : Addr).add j) = some (.int .i64 z) := fun j hj => by
    obtain rfl : j = 0 := by omega
    rw [addr0]; exact hxa.cell 0 _ rfl
  have hmin : Nat.min 1 c = 1 := Nat.min_eq_left h1
  go_enter Try.func46, Try.ntmps46
  go_wp2_with fail
  refine HM.out.mono ?_; rintro e w1 ⟨rfl, rfl⟩
  clear HM
  go_wp2_with (refine wpList_copyI _ _ rfl rfl w.heap.size c 0 0 c c z ⟨xb, 0, none⟩ 1 1 (Nat.zero_le _) rfl (Nat.zero_add _) hbn rfl rfl hsrc0 ?_)
  have hb1 := hbn.setRow (fillL c 1 z).toArray
  have K1 : Keep [] w ((w.alloc (.cells (fillL c 0 z).toArray 3)).setRow w.heap.size (fillL c 1 z).toArray) := KA.trans (Keep.setRow _) (fun x hx => .inr (by simp at hx; omega))
  try simp only [Nat.zero_add]
  generalize (w.alloc (.cells (fillL c 0 z).toArray 3)).setRow w.heap.size (fillL c 1 z).toArray = w2 at hb1 K1 ⊢
  obtain ⟨g, hg⟩ : ∃ g, w.heap.size = g := ⟨_, rfl⟩
  rw [hg] at hb1 ⊢
  have HG : Hid (w.heap.size ≤ g) := by unfold Hid; omega
  clear hg hbn KA hxa hsrc0 hmk hz0 hx hmin
  go_wp2_with fail
  go_loopw [8] (fun i wr => ∃ n : Nat, 1 ≤ n ∧ n ≤ c ∧ i = .int .i64 n ∧ Blk wr g (fillL c n z).toArray 3 ∧ Keep [] w wr) (fun i _ => c - (intOf i).toNat)
  case atStart => exact ⟨1, by omega, h1, rfl, hb1, K1⟩
  case round =>
    clear hb1 K1
    obtain ⟨n, n1, n2, rfl, hb, K⟩ := hrel
    by_cases hlt : n < c
    · have r1 := run_fromI g c n n rfl hlt h16
      have r2 := run_uptoI g c n n rfl (by omega) h16
      have hsrc : ∀ j, j < n → wr.cell? ((⟨g, 0, none⟩ : Addr).add j) = some (.int .i64 z) := fun j hj => by
        rw [addr0]; exact hb.cell j _ (by rw [List.getElem?_toArray]; exact fillL_get c n z j hj)
      obtain ⟨k, hk⟩ : ∃ k, Nat.min n (c - n) = k := ⟨_, rfl⟩
      have hk1 : 1 ≤ k := by have : 0 < Nat.min n (c - n) := Nat.lt_min.2 ⟨by omega, by omega⟩; rw [hk] at this; omega
      have hk2 : n + k ≤ c := by have h9 : Nat.min n (c - n) ≤ c - n := Nat.min_le_right _ _; rw [hk] at h9; omega
      obtain ⟨w3, hrun, hb3, K3⟩ : ∃ w3, (Builtin.copy_ #[22, 22] 3 #[.slice (some ⟨g, n, none⟩) (c - n) (c - n), .slice (some ⟨g, 0, none⟩) n c]).run Try.prog wr.drew = .ok (.int .i64 (k : Int)) w3 ∧ Blk w3 g (fillL c (n + k) z).toArray 3 ∧ Keep [] w w3 := by
        refine ⟨_, ?_, (hb.keep ((Keep.refl [] _).drew) (by simp)).setRow (fillL c (n + k) z).toArray, (K.drew).trans (Keep.setRow _) (fun x hx => .inr (by simp at hx; subst hx; exact HG.out))⟩
        have hrun := run_copyI wr.drew 3 g c n n (c - n) (c - n) z ⟨g, 0, none⟩ n c (by omega) rfl (by omega) (hb.keep ((Keep.refl [] _).drew) (by simp)) hsrc
        rw [hk] at hrun
        exact hrun
      clear hsrc hb K hk
      have hki : IntKind.i64.wrap ((n : Int) + (k : Int)) = ((n + k : Nat) : Int) := by rw [IntKind.wrap_i64]; omega
      go_wp2_with fail
      go_region_with fail
      all_goals
        dsimp [Act.put]
        simp only [List.setIfInBounds_toArray, List.set_cons_succ, List.set_cons_zero, Exit.inBlock, Exit.then]
        go_roundw
        case rel =>
          repeat apply Exists.intro
          exact ⟨⟨n + k, by omega, hk2, by go_num, hb3, K3⟩, rfl⟩
        case measure => simp [intOf]; omega
    · obtain rfl : n = c := by omega
      go_wp2_with fail
      go_ret
      exact ⟨g, rfl, hb, K, HG.out⟩
end Go.Proofs.Ytblogjpoijfpbaa
