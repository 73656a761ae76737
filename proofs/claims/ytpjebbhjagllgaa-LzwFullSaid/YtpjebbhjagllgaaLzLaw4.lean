/- The walk of the law LzwFull: it returns true at every input. -/
import Derived.Test.YtpjebbhjagllgaaLzLaw3
import Derived.Test.YtpjebbhjagllgaaWithin
namespace Go.Proofs.Ytpjebbhjagllgaa
set_option linter.unusedVariables false
set_option linter.unusedSimpArgs false
open Go.ChangeShapes Go.WideShapes Go.ChangeAt Go.RowKit

set_option maxRecDepth 100000 in
set_option maxHeartbeats 4000000 in
theorem lzfull_w (W : World) (c0 : Int) (wc : (Lit.int .u8 c0).wf = true) (st : Int) (wst : (Lit.int .i64 st).wf = true) : Calls Try.prog 6 #[.int .u8 c0, .int .i64 st] W fun e w' => e = .returned (.bool true) ∧ Keep [] W w' := by
  have hcb : 0 ≤ c0 ∧ c0 ≤ 255 := by simpa [Lit.wf, IntKind.min, IntKind.max, IntKind.bits, IntKind.signed] using wc
  obtain ⟨c, rfl⟩ : ∃ c : UInt8, c0 = c.toNat := ⟨UInt8.ofNat c0.toNat, by rw [UInt8.toNat_ofNat', Nat.mod_eq_of_lt (by omega)]; omega⟩
  obtain ⟨p0, hp0⟩ : ∃ p0 : Nat, max 0 (min st 255) = (p0 : Int) := ⟨(max 0 (min st 255)).toNat, by omega⟩
  have hp255 : p0 ≤ 255 := by omega
  have HWN := Lib.hid (fun w => within_c st 0 255 w (by omega))
  rw [hp0] at HWN
  clear hp0 wc wst hcb
  go_enter Try.func6, Try.ntmps6
  go_wp2_with fail
  refine (lz_new W).mono ?_; rintro e w1 ⟨q, bs, rfl, ht, k1, hb⟩
  have P0 : Hid (∃ s bs, LTab w1 q bs s ∧ FullS s 257 ∧ Keep [] W w1 ∧ ∀ b ∈ bs, W.heap.size ≤ b) := ⟨_, bs, ht, FullS.new, k1, hb⟩
  clear ht k1 hb
  go_wp2_with fail
  refine (HWN.out _).mono ?_; rintro e w2 ⟨rfl, rfl⟩
  go_wp2_with fail
  go_loopw [6, 7] (fun pv iv wr => ∃ i p : Nat, 257 ≤ i ∧ i ≤ 8192 ∧ p < i ∧ p ≠ 256 ∧ p ≠ 257 ∧ pv = .int .i64 p ∧ iv = .int .i64 i ∧ Hid (∃ s bs, LTab wr q bs s ∧ FullS s i ∧ Keep [] W wr ∧ ∀ b ∈ bs, W.heap.size ≤ b)) (fun _ iv _ => 8192 - (intOf iv).toNat)
  case atStart => exact ⟨257, p0, by omega, by omega, by omega, by omega, by omega, rfl, rfl, P0⟩
  case round =>
    clear P0
    obtain ⟨i, p, h257, hi, hpi, hp1, hp2, rfl, rfl, ⟨s, bs, ht, hf, hk, hb⟩⟩ := hrel
    have hpo : i < 8192 → parOk (p : Int) := fun h => by unfold parOk; omega
    by_cases hlt : i < 8192
    · have hiz : (i : Int) < 8192 := by omega
      have HNX := Lib.hid (lz_next wr q bs s ht)
      rw [hf.next hlt] at HNX
      obtain ⟨ha1, ha2⟩ := hf.add hlt p (hpo hlt) hp2 c
      have HAD := Lib.hid (fun w' (k : Keep [] wr w') => lz_add w' q bs s p c (wf_of p (by omega) (by omega)) (ht.keep k (by simp)))
      rw [ha1] at HAD
      have HF := Lib.hid ha2
      have HK := Lib.hid hk
      have HB := Lib.hid hb
      have hnn : ((i : Int) != i) = false := by simp
      clear ht hf hk hb hpo ha1 ha2
      go_wp2_with fail
      refine HNX.out.mono ?_; rintro e w3 ⟨rfl, k3⟩
      clear HNX
      go_wp2_with fail
      refine (HAD.out w3 k3).mono ?_; rintro e w4 ⟨rfl, bs4, ht4, k4, hb4⟩
      have PN : Hid (∃ s bs, LTab w4 q bs s ∧ FullS s (i + 1) ∧ Keep [] W w4 ∧ ∀ b ∈ bs, W.heap.size ≤ b) := ⟨_, bs4, ht4, HF.out, (HK.out.andThen k3).trans k4 (fun x hx => .inr (HB.out x hx)), fun b hb => by
        rcases hb4 b hb with h | h
        · exact HB.out b h
        · exact Nat.le_trans (HK.out.andThen k3).size h⟩
      clear ht4 k4 hb4 HAD HF k3
      by_cases hev : i % 2 = 0
      · have hm : ((i : Int) % 2 == 0) = true := by simp; omega
        go_wp2_with fail
        go_roundw
        case rel => exact ⟨i + 1, i, by omega, by omega, by omega, by omega, by omega, rfl, by go_num, PN⟩
        case measure => simp [intOf]; omega
      · have hm : ((i : Int) % 2 == 0) = false := by simp; omega
        go_wp2_with fail
        go_roundw
        case rel => exact ⟨i + 1, p, by omega, by omega, by omega, by omega, by omega, rfl, by go_num, PN⟩
        case measure => simp [intOf]; omega
    · obtain rfl : i = 8192 := by omega
      have HNX := Lib.hid (lz_next wr q bs s ht)
      rw [hf.none] at HNX
      have HAD := Lib.hid (fun w' (k : Keep [] wr w') => lz_add w' q bs s p c (wf_of p (by omega) (by omega)) (ht.keep k (by simp)))
      have hno : s.add p c = (-1, s) := add_no (.inl (by rw [hf.none]; decide)) c
      rw [hno] at HAD
      have hlen : s.rows.length = 7935 := by have := hf.len; omega
      have HF := Lib.hid hf
      have HK := Lib.hid hk
      have HB := Lib.hid hb
      clear ht hf hk hb hpo hno
      go_wp2_with fail
      refine HNX.out.mono ?_; rintro e w3 ⟨rfl, k3⟩
      clear HNX
      go_wp2_with fail
      refine (HAD.out w3 k3).mono ?_; rintro e w4 ⟨rfl, bs4, ht4, k4, hb4⟩
      have HK4 : Hid (Keep [] W w4) := (HK.out.andThen k3).trans k4 (fun x hx => .inr (HB.out x hx))
      have HB4 : Hid (∀ b ∈ bs4, W.heap.size ≤ b) := fun b hb => by
        rcases hb4 b hb with h | h
        · exact HB.out b h
        · exact Nat.le_trans (HK.out.andThen k3).size h
      have HUS := Lib.hid (lz_used w4 q bs4 s ht4)
      rw [hlen] at HUS
      have HCL := Lib.hid (fun w' (k : Keep [] w4 w') => lz_clear w' q bs4 s (ht4.keep k (by simp)))
      clear ht4 k4 hb4 HAD k3 HK HB hlen
      go_wp2_with fail
      refine HUS.out.mono ?_; rintro e w5 ⟨rfl, k5⟩
      clear HUS
      go_wp2_with fail
      refine (HCL.out w5 k5).mono ?_; rintro e w6 ⟨rfl, bs6, ht6, k6, hb6⟩
      have HK6 : Hid (Keep [] W w6) := (HK4.out.andThen k5).trans k6 (fun x hx => .inr (HB4.out x hx))
      have HB6 : Hid (∀ b ∈ bs6, W.heap.size ≤ b) := fun b hb => by
        rcases hb6 b hb with h | h
        · exact HB4.out b h
        · exact Nat.le_trans (HK4.out.andThen k5).size h
      have hcn := HF.out.clear
      have hcok := ht6.ok
      have HN6 := Lib.hid (lz_next w6 q bs6 _ ht6)
      rw [hcn] at HN6
      have ha6 := (LT.add_yes hcok p0 c 257 hcn (by unfold parOk; omega)).1
      have HA6 := Lib.hid (fun w' (k : Keep [] w6 w') => lz_add w' q bs6 _ p0 c (wf_of p0 (by omega) (by omega)) (ht6.keep k (by simp)))
      rw [ha6] at HA6
      clear hcok hcn ha6 ht6 k6 hb6 HCL k5 HK4 HB4 HF
      go_wp2_with fail
      refine HN6.out.mono ?_; rintro e w7 ⟨rfl, k7⟩
      clear HN6
      go_wp2_with fail
      refine (HWN.out _).mono ?_; rintro e w8 ⟨rfl, rfl⟩
      go_wp2_with fail
      refine (HA6.out w7 k7).mono ?_; rintro e w8 ⟨rfl, bs8, _, k8, _⟩
      have K8 : Hid (Keep [] W w8) := (HK6.out.andThen k7).trans k8 (fun x hx => .inr (HB6.out x hx))
      clear HA6 k7 k8
      go_wp2_with fail
      refine (lives10_c _).mono ?_; rintro e w9 ⟨rfl, k9⟩
      go_wp2_with fail
      go_ret
      exact ⟨rfl, K8.out.andThen k9⟩
end Go.Proofs.Ytpjebbhjagllgaa
