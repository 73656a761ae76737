/- The walk of the law HistOver: it returns true at every input. -/
import Derived.Test.YtciifhhjhmlnjaaHstLaw1
import Derived.Test.YtciifhhjhmlnjaaWithin
import Derived.Test.YtciifhhjhmlnjaaCutB
namespace Go.Proofs.Ytciifhhjhmlnjaa
set_option linter.unusedVariables false
set_option linter.unusedSimpArgs false
open Go.ChangeShapes Go.WideShapes Go.ChangeAt Go.RowKit

theorem Bs.at {w : World} {v : Value} {l : List UInt8} (h : Bs w v l) (i : Nat) (hi : i < l.length) : ∃ b off cap, v = .slice (some ⟨b, off, none⟩) l.length cap ∧ w.cell? ⟨b, off + i, none⟩ = some (.int .u8 (l[i].toNat)) := by
  rcases h.cases with ⟨rfl, _⟩ | ⟨hp, b, off, cap, rfl, h1, h2, hb, hc⟩
  · simp at hi
  · exact ⟨b, off, cap, rfl, hc i hi⟩
set_option maxRecDepth 100000 in
set_option maxHeartbeats 4000000 in
theorem hover_w (W : World) (v0 : Value) (l0 : List UInt8) (h0 : Bs W v0 l0) (d : Int) (hd : (Lit.int .i64 d).wf = true) (n : Int) (hn : (Lit.int .i64 n).wf = true) : Calls Try.prog 4 #[v0, .int .i64 d, .int .i64 n] W fun e w' => e = .returned (.bool true) ∧ Keep [] W w' := by
  go_enter Try.func4, Try.ntmps4
  go_wp2_with fail
  refine (cut_c W v0 l0 300 (by decide) h0).mono ?_; rintro e w1 ⟨vb, rfl, hb, _, rfl⟩
  have hl : (l0.take 300).length ≤ 300 := by rw [List.length_take]; omega
  generalize l0.take 300 = l at hb hl
  clear h0
  have HBA := Lib.hid (fun w' (k : Keep [] W w') i hi => (hb.keep k (by simp)).at i hi)
  have HBK := Lib.hid (fun w' (k : Keep [] W w') => hb.keep k (by simp))
  obtain ⟨ab, cb, rfl, _⟩ := hb.shape
  clear hb
  by_cases hz : l.length = 0
  · rw [hz] at *
    go_wp2_with fail
    refine (lives7_c _).mono ?_; rintro e w2 ⟨rfl, k2⟩
    go_wp2_with fail
    go_ret
    exact ⟨rfl, k2⟩
  have hz2 : ((l.length : Int) == 0) = false := by rw [beq_eq_false_iff_ne]; omega
  go_wp2_with fail
  refine (within_c d 1 l.length _ (by omega)).mono ?_; rintro e w2 ⟨rfl, rfl⟩
  go_wp2_with fail
  refine (within_c n 0 2000 _ (by omega)).mono ?_; rintro e w3 ⟨rfl, rfl⟩
  obtain ⟨D, hD⟩ : ∃ D : Nat, max 1 (min d (l.length : Int)) = D := ⟨(max 1 (min d (l.length : Int))).toNat, by omega⟩
  obtain ⟨N, hN⟩ : ∃ N : Nat, max 0 (min n (2000 : Int)) = N := ⟨(max 0 (min n (2000 : Int))).toNat, by omega⟩
  have hD1 : 1 ≤ D := by omega
  have hD2 : D ≤ l.length := by omega
  have hN2 : N ≤ 2000 := by omega
  rw [hD, hN]
  clear hD hN hd hn
  have HNW := Lib.hid (hs_new W 65536 5000 false (by omega) (by omega))
  go_wp2_with fail
  refine HNW.out.mono ?_; rintro e w1 ⟨p, er, rfl, k1, _, hok⟩
  obtain ⟨rfl, q, bs, rfl, hq, hbs⟩ := hok (by unfold hsBad; omega)
  have hq0 : Ho w1 q bs ⟨65536, 5000, false, l.take 0⟩ := hq
  clear hok HNW hq
  go_wp2_with fail
  go_loopw [9] (fun i wr => ∃ (k : Nat) (bs : List Nat), k ≤ l.length ∧ i = .int .i64 k ∧ Ho wr q bs ⟨65536, 5000, false, l.take k⟩ ∧ Keep [] W wr ∧ Hid (∀ b ∈ bs, W.heap.size ≤ b)) (fun i _ => l.length - (intOf i).toNat)
  case atStart => exact ⟨0, bs, by omega, rfl, hq0, k1, hbs⟩
  case round =>
    clear hq0 k1 hbs
    obtain ⟨k, bs, hk, rfl, hq, K, HB⟩ := hrel
    by_cases hlt : k < l.length
    · obtain ⟨b, off, cap, hv, e0⟩ := HBA.out wr K k hlt
      simp only [Value.slice.injEq] at hv
      obtain ⟨hv1, hv2, rfl⟩ := hv
      clear hv2
      subst hv1
      have hlk : (l.take k).length = k := by rw [List.length_take]; omega
      have hc := Lib.hid (hs_lit wr q bs _ l[k] hq (by rw [hlk]; omega))
      have hlit : (⟨65536, 5000, false, l.take k⟩ : HS).lit l[k] = (0, ⟨65536, 5000, false, l.take (k + 1)⟩) := by
        unfold HS.lit
        rw [if_neg (by simp only [hlk]; omega), List.take_succ_eq_append_getElem hlt]
      rw [hlit] at hc
      clear hq hlit hlk
      generalize l[k] = c at *
      go_wp2_with fail
      refine hc.out.mono ?_; rintro e w4 ⟨rfl, hs⟩
      obtain ⟨bs4, hq4, K4, hb4, _, _⟩ := hs.step K HB.out
      clear hs hc
      go_wp2_with fail
      go_roundw
      case rel => exact ⟨k + 1, bs4, by omega, by go_num, hq4, K4, hb4⟩
      case measure => simp [intOf]; omega
    · obtain rfl : k = l.length := by omega
      rw [List.take_length] at hq
      have hlo : ((l.length : Int) + (if (5000 : Int) - l.length < N then 0 else max 0 (N : Int))) ≤ 140737488350000 := by
        rw [if_neg (by omega)]; omega
      have hc := Lib.hid (hs_copy wr q bs _ (D : Int) (N : Int) hq (by simp [Lit.wf, IntKind.min, IntKind.max, IntKind.bits, IntKind.signed]; omega) (by simp [Lit.wf, IntKind.min, IntKind.max, IntKind.bits, IntKind.signed]; omega) hlo)
      have hcp : (⟨65536, 5000, false, l⟩ : HS).copy D N = (0, ⟨65536, 5000, false, cpy l D N⟩) := by
        unfold HS.copy
        rw [if_neg (by omega), if_neg (by simp only; omega), if_neg (by simp only; omega)]
        simp
      rw [hcp] at hc
      clear hq hlo hcp
      go_wp2_with fail
      refine hc.out.mono ?_; rintro e w4 ⟨rfl, hs⟩
      obtain ⟨bs4, hq4, K4, hb4, _, _⟩ := hs.step K HB.out
      clear hs hc K HB
      go_wp2_with fail
      refine (hs_bytes w4 q bs4 _ hq4 (by simp only [cpy_len]; omega)).mono ?_; rintro e w5 ⟨va, rfl, hva, k5, _⟩
      have K5 := K4.trans k5 (by simp)
      have hvb := hva.bs
      clear hq4 k5 K4 hb4 hva
      have HCL := Lib.hid (cpy_len l D N)
      have HAT := Lib.hid (fun i hi => hvb.at i hi)
      obtain ⟨aa, ca, rfl, hca1, _⟩ := hvb.shape
      have HPR := Lib.hid (hvb.pre l.length (by rw [HCL.out]; omega))
      have HTK := Lib.hid (cpy_take l D N)
      have HOV := Lib.hid (fun i hi => cpy_over l D N i hD1 hD2 hi)
      simp only [cpy_len] at HAT HPR hca1 ⊢
      have HSM := Lib.hid (same_c w5 _ _ _ _ HPR.out (HBK.out w5 K5))
      rw [HTK.out, decide_eq_true rfl] at HSM
      clear hvb HPR
      go_wp2_with fail
      refine HSM.out.mono ?_; rintro e w6 ⟨rfl, n6, rfl⟩
      go_wp2_with fail
      have K6 := K5.drewN n6
      have HAT6 : Hid (∀ i (hi : i < N), ∃ b off, aa = some ⟨b, off, none⟩ ∧ (w5.drewN n6).cell? ⟨b, off + (l.length + i), none⟩ = some (.int .u8 (l[l.length - D + i % D]'(by have := Nat.mod_lt i hD1; omega)).toNat)) := by
        intro i hi
        obtain ⟨b, off, cap, hv, e0⟩ := HAT.out (l.length + i) (by omega)
        simp only [Value.slice.injEq] at hv
        refine ⟨b, off, hv.1, ?_⟩
        have hlt : l.length - D + i % D < l.length := by have := Nat.mod_lt i hD1; omega
        have h1 := HOV.out i hi
        rw [List.getElem?_eq_getElem (by rw [HCL.out]; omega), List.getElem?_eq_getElem hlt] at h1
        rw [Option.some.inj h1] at e0
        exact e0
      generalize w5.drewN n6 = w6 at K6 HAT6 ⊢
      clear HAT HOV HSM HTK HCL
      go_loopw [11] (fun i wr => ∃ k : Nat, k ≤ N ∧ i = .int .i64 k ∧ ∃ n, wr = w6.drewN n) (fun i _ => N - (intOf i).toNat)
      case atStart => exact ⟨0, by omega, rfl, 0, rfl⟩
      case round =>
        obtain ⟨k, hk, rfl, m, rfl⟩ := hrel
        by_cases hltk : k < N
        · have hmd := Nat.mod_lt k hD1
          have hi2 : l.length - D + k % D < l.length := by omega
          obtain ⟨b, off, rfl, e0⟩ := HAT6.out k hltk
          obtain ⟨b2, off2, cap2, hv, e1⟩ := HBA.out w6 K6 _ hi2
          simp only [Value.slice.injEq] at hv
          obtain ⟨hv1, hv2, rfl⟩ := hv
          clear hv2
          subst hv1
          have hD0 : ((D : Int) == 0) = false := by rw [beq_eq_false_iff_ne]; omega
          have hw1 : IntKind.i64.wrap ((l.length : Int) + k) = (l.length : Int) + k := by rw [IntKind.wrap_i64]; omega
          have hw2 : IntKind.i64.wrap ((l.length : Int) - D) = (l.length : Int) - D := by rw [IntKind.wrap_i64]; omega
          have hrm : (k : Int).tmod D = ((k % D : Nat) : Int) := by
            rw [Int.tmod_eq_emod_of_nonneg (by omega)]; simp
          have hrm2 : (k : Int) % D = ((k % D : Nat) : Int) := by simp
          generalize hxx : l[l.length - D + k % D] = c at *
          have hsum : IntKind.i64.wrap ((l.length : Int) - D + (k % D : Nat)) = ((l.length - D + k % D : Nat) : Int) := by rw [IntKind.wrap_i64]; omega
          have hb0 : (0 : Int) ≤ ((l.length - D + k % D : Nat) : Int) := by omega
          have hb1 : ((l.length - D + k % D : Nat) : Int) < (l.length : Int) := by omega
          generalize hyy : l.length - D + k % D = y at *
          generalize k % D = z at *
          clear hxx hyy hi2 hmd
          go_wp2_with fail
          go_quiet (fail)
          go_wp2_with fail
          go_roundw
          case rel => exact ⟨k + 1, by omega, by go_num, _, rfl⟩
          case measure => simp [intOf]; omega
        · obtain rfl : k = N := by omega
          go_wp2_with fail
          refine (lives7_c _).mono ?_; rintro e w8 ⟨rfl, k8⟩
          go_wp2_with fail
          go_ret
          exact ⟨rfl, (K6.drewN m).trans k8 (by simp)⟩
end Go.Proofs.Ytciifhhjhmlnjaa
