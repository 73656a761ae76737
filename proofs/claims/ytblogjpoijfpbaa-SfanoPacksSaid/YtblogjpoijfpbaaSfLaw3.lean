/- The walks of the laws SfanoPacks and SfanoNobody: they return true at every input. -/
import Derived.Test.YtblogjpoijfpbaaSfLaw1
import Derived.Test.YtblogjpoijfpbaaPart
namespace Go.Proofs.Ytblogjpoijfpbaa
set_option linter.unusedVariables false
set_option linter.unusedSimpArgs false
open Go.ChangeShapes Go.WideShapes Go.ChangeAt Go.RowKit

theorem spacks_w (W : World) (v0 : Value) (zs0 : List Int) (h0 : Is .i64 W v0 zs0) : Calls Try.prog 4 #[v0] W fun e w' => e = .returned (.bool true) ∧ Keep [] W w' := by
  go_enter Try.func4, Try.ntmps4
  go_wp2_with fail
  refine (refints_c W v0 zs0 260 (by omega) h0).mono ?_; rintro e w1 ⟨va, rfl, ha, _, rfl⟩
  generalize zs0.take 260 = zs at ha
  clear h0
  go_wp2_with fail
  refine (sf_pack W va zs ha).mono ?_; rintro e w2 ⟨vp, rfl, hp, k2, _, _⟩
  go_wp2_with fail
  refine (sfpack_c w2 va zs (ha.keep k2 (by simp))).mono ?_; rintro e w3 ⟨vq, rfl, hq, k3, _⟩
  have K3 := k2.trans k3 (by simp)
  have HS := Lib.hid (same_c w3 vp vq _ _ (hp.keep k3 (by simp)) hq)
  rw [decide_eq_true rfl] at HS
  clear hp hq k2 k3 ha
  generalize perr zs = er
  go_wp2_with fail
  refine HS.out.mono ?_; rintro e w4 ⟨rfl, n, rfl⟩
  go_wp2_with fail
  refine (lives6_c _).mono ?_; rintro e w5 ⟨rfl, k5⟩
  go_wp2_with fail
  go_ret
  exact ⟨rfl, (K3.drewN _).trans k5 (by simp)⟩
theorem nobody_chk : schk [1, 1] = 0 := by decide
set_option maxRecDepth 100000 in
set_option maxHeartbeats 4000000 in
theorem snobody_w (W : World) (n : Int) (hn : (Lit.int .i64 n).wf = true) : Calls Try.prog 8 #[.int .i64 n] W fun e w' => e = .returned (.bool true) ∧ Keep [] W w' := by
  have hz := (zero_of_info (P := Try.prog) dec6Info).1
  have HPZ := Lib.hid pz_plain6
  generalize pz6 = Z at hz HPZ
  go_enter Try.func8, Try.ntmps8
  go_wp2_with fail
  have hP := HPZ.out _ _ (Blk.new W Z 69)
  have hlit := Bs.lit (W.alloc (.cells Z 69)) [1] #[.int .u8 1] 1 rfl rfl (by decide)
  have hK : Keep [] W ((W.alloc (.cells Z 69)).alloc (.cells #[.int .u8 1] 5)) := ((Keep.refl [] W).alloc _).alloc _
  have hP2 := hP.keep ((Keep.refl [] _).alloc (.cells #[.int .u8 1] 5)) (by simp)
  have hoc := open_c _ _ [1] (by decide) hlit
  simp only [World.size_alloc] at hoc
  refine hoc.mono ?_; rintro e w2 ⟨r, v, rfl, hr, k2, hr2, _⟩
  have K2 := hK.trans k2 (by simp)
  have hP3 := hP2.keep k2 (by simp)
  clear hP hlit hK hP2 hoc k2
  have HN := Lib.hid (fun w => sf_next_nil w (some ⟨r, 0, none⟩))
  have HP := Lib.hid (fun w' (k : Keep [] w2 w') => sf_next_plain w' W.heap.size (some ⟨r, 0, none⟩) (hP3.keep k (by simp)))
  have HL := Lib.hid (fun w => sf_new _ _ _ (Is.lit6 w [1, 1] #[.int .i64 1, .int .i64 1] 2 rfl rfl (by decide) (by decide)))
  have HU := Lib.hid sf_unpack_nil
  rw [nobody_chk] at HL
  clear hP3 hr
  go_wp2_with fail
  refine (HN.out _).mono ?_; rintro e w3 ⟨rfl, k3⟩
  go_wp2_with fail
  refine (HP.out _ k3).mono ?_; rintro e w4 ⟨rfl, k4⟩
  have K4 := (K2.trans k3 (by simp)).trans k4 (by simp)
  clear HN HP k3 k4
  go_wp2_with fail
  refine (HL.out w4).mono ?_; rintro e w5 ⟨p, rfl, k5, _, hp1⟩
  obtain ⟨d, bs, rfl, hd, _⟩ := hp1 (by trivial)
  have K5 := (K4.alloc _).trans k5 (by simp)
  clear hp1 k5
  go_wp2_with fail
  refine (sf_next_nilrd _ _ _ _ hd).mono ?_; rintro e w6 ⟨rfl, k6⟩
  have K6 := K5.trans k6 (by simp)
  go_wp2_with fail
  refine (within_c n 1 256 _ (by omega)).mono ?_; rintro e w7 ⟨rfl, rfl⟩
  have h1 : 1 ≤ max 1 (min n 256) := by omega
  have h2 : max 1 (min n 256) ≤ 256 := by omega
  generalize max 1 (min n 256) = m at h1 h2
  go_wp2_with fail
  refine (HU.out _ m h1 h2).mono ?_; rintro e w8 ⟨rfl, k8⟩
  go_wp2_with fail
  refine (lives6_c _).mono ?_; rintro e w9 ⟨rfl, k9⟩
  go_wp2_with fail
  go_ret
  exact ⟨rfl, (K6.trans k8 (by simp)).trans k9 (by simp)⟩
end Go.Proofs.Ytblogjpoijfpbaa
