/- Contracts of follow's best and ranked. No condition beyond each theorem's own premises. -/
import Derived.Test.YtlnknnmlepgjfaaFol2
import Derived.Test.YtlnknnmlepgjfaaFolTal
import Derived.Test.YtlnknnmlepgjfaaPart
namespace Go.Proofs.Ytlnknnmlepgjfaa
open Sg
set_option linter.unusedVariables false
set_option linter.unusedSimpArgs false
set_option maxRecDepth 100000
open Go.ChangeShapes Go.WideShapes Go.ChangeAt Go.RowKit

theorem take_fst (R : List SEl) (k : Nat) (h : k < R.length) : (R.take (k + 1)).map (·.1) = (R.take k).map (·.1) ++ [(gn R k).1] := by
  rw [List.take_succ_eq_append_getElem h, List.map_append, gn_eq _ _ h]; rfl
set_option maxHeartbeats 4000000 in
theorem best1_c (w : World) (v : Value) (n : Nat → Nat) (R : List SEl) (h : Gs ESl w v R) (hR : Rk n R) (hA : am R R.length ≤ 1000000000) : Calls Try.prog 17 #[v] w fun e w' => ∃ v', e = .returned v' ∧ OwnB w' v' (oneN n) ∧ Keep [] w w' ∧ ∀ b, v'.ownBlock = some b → w.heap.size ≤ b := by
  have HC := Lib.hid (count_c w v n R h hR hA)
  have HI := Lib.hid (fun w' (k : Keep [] w w') i hi => (h.keep ESlg k (by simp)).at2 i hi)
  obtain ⟨a, cap, rfl, hl, hcap⟩ := h.sh
  rw [hR.one]
  have hM1 : bestR n R (min 32 R.length) ≤ min 32 R.length := bl_le n _ _
  generalize bestR n R (min 32 R.length) = M at hM1 HC ⊢
  have hM : M ≤ R.length := by omega
  have hM32 : M ≤ 32 := by omega
  have hMz : (M : Int) ≤ (cap : Int) := by omega
  have hMc : M ≤ cap := by omega
  have HOUT : Hid (∀ v' w', (∃ v'', v' = v'' ∧ OwnB w' v'' ((R.take M).map (·.1)) ∧ Keep [] w w' ∧ ∀ b, v''.ownBlock = some b → w.heap.size ≤ b) → ∃ v'', v' = v'' ∧ OwnB w' v'' ((R.take M).map (·.1)) ∧ Keep [] w w' ∧ ∀ b, v''.ownBlock = some b → w.heap.size ≤ b) := fun _ _ h => h
  clear h hR hA hM1 HOUT
  obtain ⟨OUT, hOUT⟩ : ∃ o, (R.take M).map (·.1) = o := ⟨_, rfl⟩
  have HOUT := Lib.hid hOUT
  rw [hOUT]
  clear hOUT
  go_enter Try.func17, Try.ntmps17
  go_wp2_with fail
  refine HC.out.mono ?_; rintro e w1 ⟨rfl, k1⟩
  have HK1 := Lib.hid k1
  clear HC k1
  go_wp2_with fail
  go_loopw [3, 11] (fun lv i wr => ∃ (k : Nat) (out : List UInt8), k ≤ M ∧ i = .int .i64 k ∧ out.length ≤ 32 ∧ Hid (out = (R.take k).map (·.1)) ∧ Hid (OwnB wr lv out) ∧ Hid (Keep [] w wr) ∧ Hid (∀ b, lv.ownBlock = some b → w.heap.size ≤ b)) (fun _ i _ => M - (intOf i).toNat)
  case atStart => exact ⟨0, [], by omega, rfl, by simp, by simp [Hid], OwnB.nil _, HK1.out, by simp [Hid, Value.ownBlock]⟩
  case round =>
    clear HK1
    obtain ⟨k, out, hk, rfl, hol, HL, HO, HK, HB⟩ := hrel
    by_cases hlt : k < M
    · have z1 : (k : Int) < (M : Int) := by omega
      have z2 : (k : Int) < (R.length : Int) := by omega
      obtain ⟨b, off, cap1, hv, e1, e2⟩ := HI.out wr HK.out k (by omega)
      simp only [Value.slice.injEq] at hv
      obtain ⟨rfl, h2, rfl⟩ := hv
      clear h2
      have HST := take_fst R k (by omega)
      generalize gn R k = t at e1 e2 HST
      obtain ⟨c, t2⟩ := t
      simp only at e1 e2 HST
      have HL2 : Hid (out ++ [c] = (R.take (k + 1)).map (·.1)) := by unfold Hid; rw [HST, HL.out]
      have hol2 : out.length + 1 ≤ 32 := by have := congrArg List.length HL2.out; simp at this; omega
      have hO2 : Hid (OwnB ((wr.alloc (.cells #[.int .u8 c.toNat, .int .i64 t2] 64)).alloc (.cells #[.int .u8 c.toNat] 5)) u3 out) := HO.out.keep (((Keep.refl [] wr).alloc _).alloc _) (by simp)
      have hS2 : Hid (Bs ((wr.alloc (.cells #[.int .u8 c.toNat, .int .i64 t2] 64)).alloc (.cells #[.int .u8 c.toNat] 5)) (.slice (some ⟨wr.heap.size + 1, 0, none⟩) 1 1) [c]) := by
        have := Bs.new1 (wr.alloc (.cells #[.int .u8 c.toNat, .int .i64 t2] 64)) c
        simp only [World.size_alloc] at this
        exact this
      have hK2 : Hid (Keep [] w ((wr.alloc (.cells #[.int .u8 c.toNat, .int .i64 t2] 64)).alloc (.cells #[.int .u8 c.toNat] 5))) := (HK.out.alloc _).alloc _
      clear HST HL HO
      go_wp2_with (at_builtin; (refine wpList_appendB (.tmp 15) (.tmp 18) rfl rfl u3 out rfl hO2.out _ [c] rfl hS2.out (by simp; omega) ?_); (intro v3 w3 ho3 hk3 hb3 hz3))
      have HO3 := Lib.hid ho3
      have HK3 : Hid (Keep [] w w3) := hK2.out.trans hk3 (fun x hx => .inr (HB.out x (by simpa using hx)))
      have HB3 : Hid (∀ b, v3.ownBlock = some b → w.heap.size ≤ b) := fun b hb => by
        rcases hb3 b hb with h | h
        · exact HB.out b h
        · have := HK.out.size; simp only [World.size_alloc] at h; omega
      clear ho3 hk3 hb3 hz3 hO2 hS2 hK2 HB
      go_wp2_with fail
      go_roundw
      case rel => exact ⟨k + 1, out ++ [c], by omega, by go_num, by simp; omega, HL2, HO3, HK3, HB3⟩
      case measure => simp [intOf]; omega
    · obtain rfl : k = M := by omega
      have HE : Hid (out = OUT) := by unfold Hid; rw [HL.out, HOUT.out]
      obtain rfl := HE.out
      clear HL HE
      go_wp2_with fail
      go_ret
      exact ⟨_, rfl, HO.out, HK.out, HB.out⟩
end Go.Proofs.Ytlnknnmlepgjfaa
