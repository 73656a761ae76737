/- Texts put together: Inf1 -/
import Derived.Test.YtokfcgloogdeiaaGreatDoorPart18
import Derived.Test.YtokfcgloogdeiaaGreatDoorPart19
import Derived.Test.YtokfcgloogdeiaaGreatDoorPart14
namespace Go.Proofs.YtokfcgloogdeiaaGreatDoor
set_option linter.unusedVariables false
set_option linter.unusedSimpArgs false
set_option maxRecDepth 100000
open Go.ChangeShapes Go.WideShapes Go.ChangeAt Go.RowKit

theorem own_fill {w : World} {g c : Nat} {z : Int} (h : Blk w g (fillL c c z).toArray 3) (hz : (Lit.int .i64 z).wf = true) (hc : c ≤ 256) : OwnI w (.slice (some ⟨g, 0, none⟩) c c) (List.replicate c z) := by
  have e : fillL c c z = List.replicate c (.int .i64 z) := by simp [fillL]
  rw [e] at h
  refine ⟨⟨by simp [ints64], .inr ⟨g, c, _, by rw [List.length_replicate], Nat.zero_le _, h, by simp, by unfold maxLen; omega, by simp, ?_⟩⟩, fun x hx => ?_⟩
  · simp [ints64]
  · rw [(List.mem_replicate.1 hx).2]; exact hz
theorem alike18_c (w : World) (z : Int) (c : Nat) (hz : (Lit.int .i64 z).wf = true) (h1 : 1 ≤ c) (h2 : c ≤ 256) : Calls Tryz.prog 89 #[.int .i64 z, .int .i64 c] w fun e w' => ∃ g, e = .returned (.slice (some ⟨g, 0, none⟩) c c) ∧ OwnI w' (.slice (some ⟨g, 0, none⟩) c c) (List.replicate c z) ∧ Keep [] w w' ∧ w.heap.size ≤ g := by
  have HB : Hid (Blk (w.alloc (.cells #[.int .i64 z] 3)) w.heap.size #[.int .i64 z] 3) := Blk.new w _ _
  have HK : Hid (Keep [] w (w.alloc (.cells #[.int .i64 z] 3))) := (Keep.refl [] w).alloc _
  have HR := Lib.hid (repeat_c _ _ c z HB.out h1 h2)
  have HZ := Lib.hid hz; have H2 := Lib.hid h2
  clear hz h2
  go_enter Tryz.func89, Tryz.ntmps89
  go_wp2_with fail
  refine HR.out.mono ?_; rintro e w2 ⟨g, rfl, hb, hk, hg⟩
  have HB2 := Lib.hid hb; have HK2 := Lib.hid hk
  have HG := Lib.hid (Nat.le_trans HK.out.size hg)
  clear hb hk hg HR
  go_wp2_with fail
  go_ret
  exact ⟨g, rfl, own_fill HB2.out HZ.out H2.out, HK.out.trans HK2.out (by simp), HG.out⟩
set_option maxHeartbeats 4000000 in
theorem inf_fixed (w : World) : Calls Tryz.prog 79 #[] w fun e w' => ∃ v1 v2, e = .returned (.tuple #[v1, v2]) ∧ OwnI w' v1 fixL ∧ OwnI w' v2 fixD ∧ Keep [] w w' ∧ (∀ b, v1.ownBlock = some b → w.heap.size ≤ b) ∧ (∀ b, v2.ownBlock = some b → w.heap.size ≤ b) ∧ v1.ownBlock ≠ v2.ownBlock := by
  have HA1 := Lib.hid (fun w' => alike18_c w' 8 144 (by decide) (by decide) (by decide))
  have HA2 := Lib.hid (fun w' => alike18_c w' 9 112 (by decide) (by decide) (by decide))
  have HA3 := Lib.hid (fun w' => alike18_c w' 7 24 (by decide) (by decide) (by decide))
  have HA4 := Lib.hid (fun w' => alike18_c w' 8 8 (by decide) (by decide) (by decide))
  have HA5 := Lib.hid (fun w' => alike18_c w' 5 32 (by decide) (by decide) (by decide))
  go_enter Tryz.func79, Tryz.ntmps79
  go_wp2_with fail
  refine (HA1.out w).mono ?_; rintro e w1 ⟨g1, rfl, o1, k1, f1⟩
  have HO1 := Lib.hid o1.is; have HK1 := Lib.hid k1
  clear o1 k1 f1 HA1
  go_wp2_with fail
  refine (HA2.out w1).mono ?_; rintro e w2 ⟨g2, rfl, o2, k2, f2⟩
  have HO2 := Lib.hid o2.is; have HK2 := Lib.hid (HK1.out.trans k2 (by simp))
  have HO12 := Lib.hid (HO1.out.keep k2 (by simp))
  clear o2 k2 f2 HA2 HO1 HK1
  go_wp2_with fail
  refine (HA3.out w2).mono ?_; rintro e w3 ⟨g3, rfl, o3, k3, f3⟩
  have HO3 := Lib.hid o3.is; have HK3 := Lib.hid (HK2.out.trans k3 (by simp))
  have HO13 := Lib.hid (HO12.out.keep k3 (by simp)); have HO23 := Lib.hid (HO2.out.keep k3 (by simp))
  clear o3 k3 f3 HA3 HO12 HO2 HK2
  go_wp2_with fail
  refine (HA4.out w3).mono ?_; rintro e w4 ⟨g4, rfl, o4, k4, f4⟩
  have kx : Keep [] w4 (w4.alloc (.cells #[.slice (some ⟨g1, 0, none⟩) 144 144, .slice (some ⟨g2, 0, none⟩) 112 112, .slice (some ⟨g3, 0, none⟩) 24 24, .slice (some ⟨g4, 0, none⟩) 8 8] 38)) := (Keep.refl [] w4).alloc _
  have HB := Lib.hid (Blk.new w4 #[.slice (some ⟨g1, 0, none⟩) 144 144, .slice (some ⟨g2, 0, none⟩) 112 112, .slice (some ⟨g3, 0, none⟩) 24 24, .slice (some ⟨g4, 0, none⟩) 8 8] 38)
  have hcat : catN [List.replicate 144 8, List.replicate 112 9, List.replicate 24 7, List.replicate 8 8] 4 = fixL := by
    show [List.replicate 144 (8 : Int), List.replicate 112 9, List.replicate 24 7, List.replicate 8 8].flatten = fixL
    simp only [List.flatten_cons, List.flatten_nil, List.append_nil, fixL, List.append_assoc]
  have hcc := concat4_c _ w4.heap.size [.slice (some ⟨g1, 0, none⟩) 144 144, .slice (some ⟨g2, 0, none⟩) 112 112, .slice (some ⟨g3, 0, none⟩) 24 24, .slice (some ⟨g4, 0, none⟩) 8 8] [List.replicate 144 8, List.replicate 112 9, List.replicate 24 7, List.replicate 8 8] rfl rfl HB.out (fun k hk => by
    have hc : k = 0 ∨ k = 1 ∨ k = 2 ∨ k = 3 := by omega
    rcases hc with rfl | rfl | rfl | rfl
    · exact ⟨_, _, rfl, rfl, (HO13.out.keep k4 (by simp)).keep kx (by simp)⟩
    · exact ⟨_, _, rfl, rfl, (HO23.out.keep k4 (by simp)).keep kx (by simp)⟩
    · exact ⟨_, _, rfl, rfl, (HO3.out.keep k4 (by simp)).keep kx (by simp)⟩
    · exact ⟨_, _, rfl, rfl, o4.is.keep kx (by simp)⟩) (fun x hx => by
    simp only [List.mem_cons, List.not_mem_nil, or_false] at hx
    rcases hx with rfl | rfl | rfl | rfl <;> rw [List.length_replicate] <;> decide) (by rw [hcat]; exact (by decide : 0 < fixL.length))
  rw [hcat] at hcc
  have HCC := Lib.hid hcc
  have HKX := Lib.hid ((HK3.out.trans k4 (by simp)).trans kx (by simp))
  clear o4 k4 f4 HA4 HO13 HO23 HO3 HK3 HB kx hcc hcat
  go_wp2_with fail
  generalize w4.alloc (.cells #[.slice (some ⟨g1, 0, none⟩) 144 144, .slice (some ⟨g2, 0, none⟩) 112 112, .slice (some ⟨g3, 0, none⟩) 24 24, .slice (some ⟨g4, 0, none⟩) 8 8] 38) = w5 at *
  refine HCC.out.mono ?_; rintro e w6 ⟨v, rfl, hO, hk, hf⟩
  have HO := Lib.hid hO; have HK := Lib.hid (HKX.out.trans hk (by simp)); have HF := Lib.hid (fun b hb => Nat.le_trans HKX.out.size (hf b hb))
  clear hO hk hf HCC HKX
  go_wp2_with fail
  refine (HA5.out w6).mono ?_; rintro e w7 ⟨g5, rfl, o5, k5, f5⟩
  have HO7 := Lib.hid (HO.out.keep k5 (by simp)); have HO5 := Lib.hid o5; have HK7 := Lib.hid (HK.out.trans k5 (by simp)); have HF5 := Lib.hid f5
  have HLT := Lib.hid HO.out.lt
  have HKS := Lib.hid HK.out.size
  clear o5 k5 f5 HA5 HO HK
  go_wp2_with fail
  go_ret2
  exact ⟨v, _, rfl, HO7.out, HO5.out, HK7.out, HF.out, fun b hb => by simp [Value.ownBlock] at hb; have := HF5.out; have := HKS.out; omega, fun h => by
    have := HLT.out g5 (by rw [h]; rfl); have := HF5.out; omega⟩
end Go.Proofs.YtokfcgloogdeiaaGreatDoor
