/- Contract of follow's tally. No condition beyond each theorem's own premises. -/
import Derived.Test.YtlnknnmlepgjfaaTalArr
import Derived.Test.YtlnknnmlepgjfaaFolMath
import Derived.Test.YtlnknnmlepgjfaaRefFol
namespace Go.Proofs.Ytlnknnmlepgjfaa
set_option linter.unusedVariables false
set_option linter.unusedSimpArgs false
set_option maxRecDepth 100000
open Go.ChangeShapes Go.WideShapes Go.ChangeAt Go.RowKit

set_option maxHeartbeats 2000000 in
theorem tally_c (w : World) (v : Value) (b : List UInt8) (hb : Bs w v b) (hl : b.length ≤ 1000000) : Calls Try.prog 16 #[v] w fun e w' => ∃ g, e = .returned (.pointer (some ⟨g, 0, none⟩)) ∧ w.heap.size ≤ g ∧ Blk w' g (TA (cnB 0 b)) 61 ∧ Keep [] w w' := by
  have hz := (zero_of_info (P := Try.prog) taInfo).1
  have hsz := (zero_of_info (P := Try.prog) taInfo).2
  rw [TA_zero] at hz
  have KA : Keep [] w (w.alloc (.cells (TA fun _ _ => 0) 61)) := (Keep.refl [] w).alloc _
  have hb1 : Blk (w.alloc (.cells (TA fun _ _ => 0) 61)) w.heap.size (TA fun _ _ => 0) 61 := Blk.new w _ _
  have HB := Lib.hid hb
  obtain ⟨a, cp, rfl, _, _⟩ := hb.shape
  clear hb
  generalize hZ : TA (fun _ _ => 0) = Z at hz hb1 KA
  have HZ := Lib.hid hZ
  have HS := Lib.hid hsz
  clear hZ hsz
  go_enter Try.func16, Try.ntmps16
  go_wp2_with fail
  go_loopw [4, 6, 9] (fun lv uv i wr => ∃ (k : Nat) (f : Nat → Nat → Nat) (p : UInt8), k ≤ b.length ∧ i = .int .i64 k ∧ lv = .int .u8 p.toNat ∧ Blk wr w.heap.size (TA f) 61 ∧ Keep [] w wr ∧ Hid (∀ c x, f c x + cnB p (b.drop k) c x = cnB 0 b c x)) (fun _ _ i _ => b.length - (intOf i).toNat)
  case atStart => exact ⟨0, fun _ _ => 0, 0, by omega, rfl, rfl, by rw [HZ.out]; exact hb1, KA, fun c x => by simp⟩
  case round =>
    obtain ⟨k, f, p, hk, rfl, rfl, h1, KK, HF⟩ := hrel
    by_cases hx : k < b.length
    · have t1 : decide (k < b.length) = true := by simpa using hx
      have hs : IntKind.i64.wrap ((k : Int) + 1) = ((k + 1 : Nat) : Int) := by rw [IntKind.wrap_i64]; omega
      obtain ⟨b0, o0, c0, e0, cell0⟩ := (HB.out.keep KK (by simp)).spot k hx
      obtain ⟨rfl, -⟩ : a = some ⟨b0, o0, none⟩ ∧ cp = c0 := by simpa using e0
      clear e0
      obtain ⟨y, hy⟩ : ∃ y, b[k] = y := ⟨_, rfl⟩
      rw [hy] at cell0
      have hdrop : b.drop k = y :: b.drop (k + 1) := by rw [List.drop_eq_getElem_cons hx, hy]
      have hstep := HF.out
      rw [hdrop] at hstep
      simp only [cnB] at hstep
      have HST := Lib.hid hstep
      obtain ⟨P, hP⟩ : ∃ P, p.toNat = P := ⟨_, rfl⟩
      obtain ⟨Y, hY⟩ : ∃ Y, y.toNat = Y := ⟨_, rfl⟩
      have hp9 : P < 256 := by have := p.toNat_lt; omega
      have hy9 : Y < 256 := by have := y.toNat_lt; omega
      have hp10 : (P : Int) < 256 := by omega
      have hy10 : (Y : Int) < 256 := by omega
      obtain ⟨fv, hfv⟩ : ∃ fv, f P Y = fv := ⟨_, rfl⟩
      have hfy : fv ≤ 1000000 := by
        have h1 := hstep P Y
        have := cnB_le 0 b P Y
        omega
      have HPY : Hid (p.toNat = P ∧ y.toNat = Y ∧ f P Y = fv) := ⟨hP, hY, hfv⟩
      have cc := h1.cell (P * 256 + Y) _ (TA_at f P Y hp9 hy9)
      rw [hfv] at cc
      rw [hY] at cell0
      rw [hP]
      clear hdrop hstep hy hP hY hfv
      have ff := h1.free (P * 256 + Y)
      have hsum : IntKind.i64.wrap ((fv : Int) + 1) = (fv : Int) + 1 := by rw [IntKind.wrap_i64]; omega
      have h1' : Hid (Blk wr.drew w.heap.size (TA f) 61) := h1.keep ((Keep.refl [] wr).drew) (by simp)
      have KK' := Lib.hid KK.drew
      go_upto_region 6 with fail
      go_still_tail 8, (by kernel_rfl)
      change wpList _ _ _ _ _ wr.drew
      generalize wr.drew = w2 at h1' KK' ⊢
      clear cc ff cell0 h1 KK
      have cc := h1'.out.cell (P * 256 + Y) _ (TA_at f P Y hp9 hy9)
      have ff := h1'.out.free (P * 256 + Y)
      have e1 : (fv : Int) + 1 = ((fv + 1 : Nat) : Int) := by omega
      have hs1 : Hid (Blk (w2.setCell ⟨w.heap.size, P * 256 + Y, none⟩ (.int .i64 ((fv : Int) + 1))) w.heap.size (TA fun i j => if i = P ∧ j = Y then fv + 1 else f i j) 61) := by
        have := h1'.out.set (P * 256 + Y) (.int .i64 (fv + 1 : Nat))
        rw [TA_set _ _ _ _ hp9 hy9] at this
        rw [e1]; exact this
      clear e1
      have KC : Hid (Keep [] w (w2.setCell ⟨w.heap.size, P * 256 + Y, none⟩ (.int .i64 ((fv : Int) + 1)))) := KK'.out.setCell (.inr (by simp)) _
      go_wp2_with fail
      go_roundw
      case rel =>
        refine ⟨k + 1, _, y, hx, rfl, by rw [HPY.out.2.1], hs1.out, KC.out, fun c x => ?_⟩
        have := HST.out c x
        obtain ⟨k1, k2, k3⟩ := HPY.out
        rw [k1, k2] at this
        by_cases e : c = P ∧ x = Y
        · obtain ⟨rfl, rfl⟩ := e; rw [if_pos ⟨rfl, rfl⟩]; rw [if_pos ⟨rfl, rfl⟩] at this; omega
        · rw [if_neg e]; rw [if_neg (fun h => e ⟨h.1.symm, h.2.symm⟩)] at this; omega
      case measure => simp [intOf]; omega
    · have t1 : decide (k < b.length) = false := by simpa using hx
      have hfe : f = cnB 0 b := by
        funext c x
        have := HF.out c x
        rw [List.drop_of_length_le (by omega)] at this
        simpa [cnB] using this
      rw [hfe] at h1
      clear hx HF hfe
      have h1 := Lib.hid h1
      go_wp2_with fail
      go_ret
      exact ⟨_, rfl, Nat.le_refl _, h1.out, KK⟩
end Go.Proofs.Ytlnknnmlepgjfaa
