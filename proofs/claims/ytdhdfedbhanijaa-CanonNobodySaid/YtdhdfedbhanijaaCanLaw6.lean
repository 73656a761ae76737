/- The walk of the law CanonNobody: it returns true at every input. -/
import Derived.Test.YtdhdfedbhanijaaCanLaw1
import Derived.Test.YtdhdfedbhanijaaPart
namespace Go.Proofs.Ytdhdfedbhanijaa
set_option linter.unusedVariables false
set_option linter.unusedSimpArgs false
open Go.ChangeShapes Go.WideShapes Go.ChangeAt Go.RowKit

set_option maxRecDepth 100000 in
set_option maxHeartbeats 4000000 in
theorem nobody_w (W : World) (v0 : Value) (zs0 : List Int) (h0 : Is .i64 W v0 zs0) : Calls Try.prog 8 #[v0] W fun e w' => e = .returned (.bool true) ∧ Keep [] W w' := by
  have hz := (zero_of_info (P := Try.prog) decInfo).1
  have HPZ := Lib.hid pz_plain
  generalize pz = Z at hz HPZ
  go_enter Try.func8, Try.ntmps8
  go_wp2_with fail
  refine (refints_c W v0 zs0 40 (by omega) h0).mono ?_; rintro e w1 ⟨va, rfl, ha, _, rfl⟩
  generalize zs0.take 40 = zs at ha
  clear h0
  go_wp2_with fail
  have hP : Plain (W.alloc (.cells Z 70)) W.heap.size := HPZ.out _ _ (Blk.new _ _ _)
  have hlit := Bs.lit (W.alloc (.cells Z 70)) [1] #[.int .u8 1] 1 rfl rfl (by decide)
  have hK : Keep [] W ((W.alloc (.cells Z 70)).alloc (.cells #[.int .u8 1] 5)) := ((Keep.refl [] W).alloc _).alloc _
  have hP2 := hP.keep ((Keep.refl [] _).alloc (.cells #[.int .u8 1] 5)) (by simp)
  have hoc := open_c _ _ [1] (by decide) hlit
  simp only [World.size_alloc] at hoc
  refine hoc.mono ?_; rintro e w2 ⟨r, v, rfl, hr, k2, hr2, _⟩
  have K2 := hK.trans k2 (by simp)
  have hP3 := hP2.keep k2 (by simp)
  have hrW : W.heap.size ≤ r := by omega
  have hPr : W.heap.size < w2.heap.size := hP3.choose_spec.1.lt
  have ha2 := ha.keep K2 (by simp)
  clear hP hlit hK hP2 hoc k2 hr2 ha
  have HN := Lib.hid (fun w => can_next_nil w (some ⟨r, 0, none⟩))
  have HP := Lib.hid (fun w' (k : Keep [] w2 w') => can_next_plain w' W.heap.size (some ⟨r, 0, none⟩) (hP3.keep k (by simp)))
  have HLP := Lib.hid (fun w' (k : Keep [] w2 w') => can_longest_plain w' W.heap.size (hP3.keep k (by simp)))
  have HLN := Lib.hid can_longest_nil
  have HA := Lib.hid (fun w' (k : Keep [] w2 w') => can_new w' va zs (ha2.keep k (by simp)))
  clear hP3 hr ha2
  go_wp2_with fail
  refine (HN.out _).mono ?_; rintro e w3 ⟨rfl, k3⟩
  go_wp2_with fail
  refine (HP.out _ k3).mono ?_; rintro e w4 ⟨rfl, k4⟩
  have k24 := k3.trans k4 (by simp)
  go_wp2_with fail
  refine (HLN.out _).mono ?_; rintro e w5 ⟨rfl, n5, rfl⟩
  go_wp2_with fail
  refine (HLP.out _ (k24.drewN _)).mono ?_; rintro e w6 ⟨rfl, n6, rfl⟩
  go_wp2_with fail
  refine (HA.out _ (k24.drewN _)).mono ?_; rintro e w7 ⟨p, rfl, k7, hp0, hp1⟩
  have k27 := (k24.drewN _).trans k7 (by simp)
  clear HN HP HLP HLN HA k3 k4
  by_cases hw : werr zs = 0
  · obtain ⟨d, bs, rfl, hd, _⟩ := hp1 hw
    rw [hw]
    clear hp0 hp1 k7
    go_wp2_with fail
    refine (can_next_nilrd _ _ _ _ hd).mono ?_; rintro e w8 ⟨rfl, k8⟩
    go_wp2_with fail
    refine (lives_c _).mono ?_; rintro e w12 ⟨rfl, k12⟩
    go_wp2_with fail
    go_ret
    exact ⟨rfl, ((K2.trans k27 (by simp)).trans k8 (by simp)).trans k12 (by simp)⟩
  · obtain rfl := hp0 hw
    have hb : (((werr zs : Nat) : Int) != 0) = true := by simp; omega
    generalize werr zs = er at hb ⊢
    clear hp0 hp1 k7
    go_wp2_with fail
    refine (lives_c _).mono ?_; rintro e w12 ⟨rfl, k12⟩
    go_wp2_with fail
    go_ret
    exact ⟨rfl, (K2.trans k27 (by simp)).trans k12 (by simp)⟩
end Go.Proofs.Ytdhdfedbhanijaa
