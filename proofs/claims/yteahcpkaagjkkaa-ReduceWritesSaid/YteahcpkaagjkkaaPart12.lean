/- Texts put together: RefDle3 -/
import Derived.Test.YteahcpkaagjkkaaPart4
import Derived.Lib.MinMax
namespace Go.Proofs.Yteahcpkaagjkkaa
set_option linter.unusedVariables false
set_option linter.unusedSimpArgs false
set_option maxRecDepth 100000
open Go.ChangeShapes Go.WideShapes Go.ChangeAt Go.RowKit

theorem refenc13_bad (w : World) (v : Value) (f : Int) (h : f < 1 ∨ 4 < f) : Calls Try.prog 34 #[v, .int .i64 f] w fun e w' => e = .returned (.tuple #[.slice none 0 0, .int .i64 2]) ∧ w = w' := by
  by_cases h1 : f < 1
  · have t1 : decide (f < 1) = true := by simpa using h1
    clear h h1
    go_enter Try.func34, Try.ntmps34
    go_wp2
    go_ret2
    exact ⟨rfl, rfl⟩
  · have t1 : decide (f < 1) = false := by simpa using h1
    have t2 : decide (4 < f) = true := by simp; omega
    clear h h1
    go_enter Try.func34, Try.ntmps34
    go_wp2
    go_ret2
    exact ⟨rfl, rfl⟩
/-- what a token that was found at i is -/
theorem tok13 (f : Nat) (h1 : 1 ≤ f) (h2 : f ≤ 4) (b : List UInt8) (i : Nat) (hi : i < b.length) : ∃ n0 d0 : Nat, (stepT b (sh13 f) i).len = (n0 : Int) ∧ (stepT b (sh13 f) i).dist = (d0 : Int) ∧ d0 ≤ 65536 ∧ n0 ≤ low13 f + 257 ∧
    emT f b i (stepT b (sh13 f) i) = (if (if n0 = 0 then 0 else v13 f d0 n0) = 0 then lits ((b.drop i).take (sz1 (stepT b (sh13 f) i))) else em13 f d0 n0) ∧ i + sz1 (stepT b (sh13 f) i) ≤ b.length ∧
    ((n0 = 0 ∧ sz1 (stepT b (sh13 f) i) = 1) ∨ (3 ≤ n0 ∧ 1 ≤ d0 ∧ sz1 (stepT b (sh13 f) i) = n0 ∧ v13 f d0 n0 < 256)) := by
  obtain ⟨hs, hw, hm⟩ := sh13_ok f h1 h2
  obtain ⟨z1, z2⟩ := stepT_sz hs hi
  rcases stepT_cases hs hi with h | h
  · refine ⟨0, 0, by rw [h]; rfl, by rw [h]; rfl, by omega, by omega, ?_, z2, .inl ⟨rfl, by rw [h]; rfl⟩⟩
    rw [if_pos rfl, if_pos rfl, h]
    unfold emT
    rw [if_pos rfl]; rfl
  · obtain ⟨g1, g2, g3⟩ := h.sz hs
    obtain ⟨d, n, e1, e2, e3, e4, e5, e6, e7, e8, e9⟩ := h.ex
    have hz : sz1 (stepT b (sh13 f) i) = n := by unfold sz1; rw [if_neg g1, e2]; simp
    have hpf : 2 ^ f ≤ 2 ^ 4 := Nat.pow_le_pow_right (by decide) h2
    rw [hw] at e5
    rw [hm] at e7
    have e6' : 3 ≤ n := by have : (3 : Int) ≤ (n : Int) := e6; omega
    refine ⟨n, d, e2, e1, by omega, by omega, ?_, z2, .inr ⟨e6', e3, hz, (v13_lt f d n h1 h2 e3 (by omega)).1⟩⟩
    rw [if_neg (by omega : ¬ n = 0), hz]
    unfold emT
    rw [if_neg g1, e1, e2, Int.toNat_natCast, Int.toNat_natCast]
set_option maxHeartbeats 4000000 in
theorem refenc13_c (w : World) (v : Value) (b : List UInt8) (f : Nat) (hb : Bs w v b) (hl : b.length ≤ 100000) (h1 : 1 ≤ f) (h2 : f ≤ 4) :
    Calls Try.prog 34 #[v, .int .i64 f] w fun e w' => ∃ v', e = .returned (.tuple #[v', .int .i64 0]) ∧ OwnB w' v' (enc13 f b) ∧ Keep [] w w' ∧ ∀ x, v'.ownBlock = some x → w.heap.size ≤ x := by
  obtain ⟨l1, l2, l3⟩ := low13_of f h1 h2
  have hpf : 2 ^ f ≤ 2 ^ 4 := Nat.pow_le_pow_right (by decide) h2
  have t1 : decide (f < 1) = false := by simp; omega
  have t1' : decide ((f : Int) < 1) = false := by simp; omega
  have t2 : decide (4 < f) = false := by simp; omega
  have t2' : decide (4 < (f : Int)) = false := by simp; omega
  have hw8 : IntKind.i64.wrap (8 - (f : Int)) = ((8 - f : Nat) : Int) := by rw [IntKind.wrap_i64]; omega
  have HTW := Lib.hid (fun w' => two13_c w' (8 - f) (by omega))
  have HTP := Lib.hid (fun w' => two13_c w' f (by omega))
  have hlow : 2 ^ (8 - f) = low13 f := rfl
  rw [hlow] at HTW
  clear hlow
  have hshv : (sh13 f) = ⟨((256 * 2 ^ f : Nat) : Int), 3, ((low13 f + 257 : Nat) : Int), 64, true⟩ := by
    unfold sh13; congr 1 <;> simp
  have hFI := fun w' (k : Keep [] w w') => reffind9_c w' v b (sh13 f) (sh13_ok f h1 h2).1 (hb.keep k (by simp)) hl
  have hTOK := fun i hi => tok13 f h1 h2 b i hi
  have hfd : found b (sh13 f) = fdF b (sh13 f) b.length 0 := rfl
  have hen : enc13 f b = encT f b (fdF b (sh13 f) b.length 0) 0 := rfl
  rw [hfd] at hFI
  obtain ⟨P, hP⟩ : ∃ P, 2 ^ f = P := ⟨_, rfl⟩
  obtain ⟨lw, hlw⟩ : ∃ lw, low13 f = lw := ⟨_, rfl⟩
  have hv13 : ∀ d n, v13 f d n = min (n - 3) (lw - 1) + lw * ((d - 1) / 256) := by intro d n; unfold v13; rw [hlw]
  have hem : ∀ d n, em13 f d n = [144, UInt8.ofNat (v13 f d n)] ++ (if lw - 1 ≤ n - 3 then [UInt8.ofNat (n - 3 - (lw - 1))] else []) ++ [UInt8.ofNat ((d - 1) % 256)] := by intro d n; unfold em13; rw [hlw]
  have hval : (sh13 f).val = .agg #[.int .i64 (256 * (P : Int)), .int .i64 3, .int .i64 ((lw : Int) + 257), .int .i64 64, .bool true] := by
    rw [hshv, hP, hlw]; unfold Sh.val Sh.cells; simp
  have hlen := fd_len (b := b) (sh13_ok f h1 h2).1 b.length 0
  rw [hval] at hFI
  rw [hP] at HTP hpf
  rw [hlw] at HTW l1 l2 hTOK
  have hm1 : IntKind.i64.wrap (256 * (P : Int)) = 256 * P := by rw [IntKind.wrap_i64]; omega
  have hm2 : IntKind.i64.wrap ((lw : Int) + 257) = lw + 257 := by rw [IntKind.wrap_i64]; omega
  have hm3 : IntKind.i64.wrap ((lw : Int) - 1) = lw - 1 := by rw [IntKind.wrap_i64]; omega
  generalize sh13 f = sh at *
  generalize hTS : fdF b sh b.length 0 = TS at *
  generalize hE : enc13 f b = E at *
  have HFI := Lib.hid hFI; have HTOK := Lib.hid hTOK; have HV := Lib.hid hv13; have HEM := Lib.hid hem; have HEN := Lib.hid hen; have HTS := Lib.hid hTS
  clear hFI hTOK hv13 hem hen hTS hE hshv hval hP hlw hfd l3
  have HB := Lib.hid hb
  obtain ⟨a, cp, rfl, _, _⟩ := hb.shape
  clear hb
  go_enter Try.func34, Try.ntmps34
  go_wp2_with fail
  refine (HTW.out _).mono ?_; rintro e w1 ⟨rfl, rfl⟩
  go_wp2_with fail
  refine (HTP.out _).mono ?_; rintro e w1 ⟨rfl, rfl⟩
  go_wp2_with fail
  refine (HFI.out _ (Keep.refl _ _)).mono ?_; rintro e w1 ⟨v1, rfl, hT, k1, b1⟩
  have hTs := hT.ts
  obtain ⟨at1, ct1, rfl, hct⟩ := hTs.sh
  have HT := Lib.hid hTs
  clear hT hTs
  go_wp2_with fail
  go_loopw [9, 10, 11] (fun ov av iv wr => ∃ (k i F : Nat) (O : List UInt8), k ≤ TS.length ∧ iv = .int .i64 k ∧ av = .int .i64 i ∧ i ≤ b.length ∧ OwnB wr ov O ∧ O.length ≤ 2 * i ∧ Keep [] w wr ∧ Keep [] w1 wr ∧ (∀ x, ov.ownBlock = some x → w1.heap.size ≤ x) ∧ Hid (TS.drop k = fdF b sh F i ∧ O ++ encT f b (TS.drop k) i = E)) (fun _ _ iv _ => TS.length - (intOf iv).toNat)
  case atStart => exact ⟨0, 0, b.length, [], Nat.zero_le _, rfl, rfl, Nat.zero_le _, OwnB.nil _, Nat.zero_le _, k1, Keep.refl _ _, by simp [Value.ownBlock], ⟨by rw [List.drop_zero]; exact HTS.out.symm, by rw [List.drop_zero, List.nil_append]; exact HEN.out.symm⟩⟩
  case round =>
    obtain ⟨k, i, F, O, hk, rfl, rfl, hi, hO, hOl, KK, KK1, hov, HI⟩ := hrel
    by_cases hx : k < TS.length
    · have q0 : decide (k < TS.length) = true := by simpa using hx
      have hs1 : IntKind.i64.wrap ((k : Int) + 1) = ((k + 1 : Nat) : Int) := by rw [IntKind.wrap_i64]; omega
      obtain ⟨b0, o0, c0, e0, cellL, cellD, cellN⟩ := HT.out.at k hx
      obtain ⟨rfl, -⟩ : at1 = some ⟨b0, o0, none⟩ ∧ ct1 = c0 := by simpa using e0
      clear e0 cellL
      have hdr : TS.drop k = TS[k] :: TS.drop (k + 1) := List.drop_eq_getElem_cons hx
      obtain ⟨hI1, hI2⟩ := HI.out
      have hiF : ∃ F', F = F' + 1 ∧ i < b.length := by
        cases F with
        | zero => rw [hdr, fdF] at hI1; cases hI1
        | succ F' =>
          refine ⟨F', rfl, ?_⟩
          rcases Nat.lt_or_ge i b.length with h | h
          · exact h
          · rw [hdr, fdF, if_neg (by omega)] at hI1; cases hI1
      obtain ⟨F', rfl, hib⟩ := hiF
      rw [fdF, if_pos hib, hdr] at hI1
      obtain ⟨hT1, hT2⟩ := List.cons.inj hI1
      rw [hdr, encT] at hI2
      obtain ⟨n0, d0, y1, y2, y3, y4, y5, y6, y7⟩ := HTOK.out i hib
      rw [hT1] at cellD cellN hI2
      rw [y1] at cellN
      rw [y2] at cellD
      obtain ⟨n', hn'⟩ : ∃ n', sz1 (stepT b sh i) = n' := ⟨_, rfl⟩
      rw [hn'] at hI2 hT2 y5 y6 y7
      obtain ⟨VV, hVV⟩ : ∃ VV, (if n0 = 0 then 0 else v13 f d0 n0) = VV := ⟨_, rfl⟩
      rw [hVV] at y5
      rw [y5, ← List.append_assoc] at hI2
      have HN2 := Lib.hid hI2; have HT2 := Lib.hid hT2; have HVV := Lib.hid hVV
      have hVV256 : VV < 256 := by
        rw [← hVV]
        rcases y7 with y | y
        · rw [if_pos y.1]; omega
        · rw [if_neg (by omega)]; exact y.2.2.2
      have hVV2 : n0 ≠ 0 → VV = min (n0 - 3) (lw - 1) + lw * ((d0 - 1) / 256) := by intro h; rw [← hVV, if_neg h, HV.out]
      have hVV3 : n0 = 0 → VV = 0 := by intro h; rw [← hVV, if_pos h]
      have HY7 := Lib.hid y7
      have HV2 := Lib.hid hVV2; have HV3 := Lib.hid hVV3
      have HCD := Lib.hid cellD; have HCN := Lib.hid cellN
      clear hdr hI1 hI2 hT1 hT2 y1 y2 y5 hn' hVV y7 hVV2 hVV3 HI cellD cellN
      have cellN := KK1.cell HCN.out (by simp)
      have cellD := KK1.cell HCD.out (by simp)
      obtain ⟨bz, hbz⟩ : ∃ bz, decide (0 < n0) = bz := ⟨_, rfl⟩
      have hbz' : decide ((0 : Int) < (n0 : Int)) = bz := by rw [← hbz]; exact decide_eq_decide.2 (by omega)
      go_upto_if 47 with fail
      have HBZ := Lib.hid hbz
      clear hbz hbz'
      go_cut [13] (fun vv wx => vv = .int .i64 VV ∧ wx = wr)
      case first =>
        cases bz with
        | false =>
          have hz : n0 = 0 := by have := HBZ.out; simp at this; omega
          have hv0 := HV3.out hz
          clear hz
          subst hv0
          go_wp2_with fail
          go_meet
          exact ⟨rfl, by first | rfl | trivial⟩
        | true =>
          have hz : ¬ n0 = 0 := by have := HBZ.out; simp at this; omega
          have hy := HY7.out
          have hv := HV2.out hz
          have hn3 : 3 ≤ n0 ∧ 1 ≤ d0 := by omega
          obtain ⟨A, hA⟩ : ∃ A, n0 - 3 = A := ⟨_, rfl⟩
          obtain ⟨D, hD⟩ : ∃ D, d0 - 1 = D := ⟨_, rfl⟩
          obtain ⟨Q, hQ⟩ : ∃ Q, D / 256 = Q := ⟨_, rfl⟩
          rw [hA, hD, hQ] at hv
          have hQ2 : Q ≤ 256 := by omega
          obtain ⟨M, hM⟩ : ∃ M, lw * Q = M := ⟨_, rfl⟩
          rw [hM] at hv
          have hM2 : M ≤ 32768 := by
            rw [← hM]
            calc lw * Q ≤ 128 * 256 := Nat.mul_le_mul l2 hQ2
              _ = 32768 := rfl
          have u1 : IntKind.i64.wrap ((n0 : Int) - 3) = (A : Int) := by rw [IntKind.wrap_i64]; omega
          have u2 : IntKind.i64.wrap ((d0 : Int) - 1) = (D : Int) := by rw [IntKind.wrap_i64]; omega
          have u3 : (D : Int).tdiv 256 = (Q : Int) := by rw [Int.tdiv_eq_ediv_of_nonneg (by omega)]; omega
          have u4 : IntKind.i64.wrap (Q : Int) = Q := by rw [IntKind.wrap_i64]; omega
          have u5 : (lw : Int) * (Q : Int) = (M : Int) := by rw [← hM]; exact (Int.natCast_mul _ _).symm
          have u6 : IntKind.i64.wrap (M : Int) = M := by rw [IntKind.wrap_i64]; omega
          by_cases hbig : lw - 1 < A
          · have q2 : decide ((lw : Int) - 1 < (A : Int)) = true := by simp; omega
            have u7 : IntKind.i64.wrap ((lw : Int) - 1 + (M : Int)) = (VV : Int) := by rw [IntKind.wrap_i64]; omega
            clear hz hy hv hn3 hA hD hQ hM hbig hM2 hQ2
            go_wp2_with fail
            go_meet
            exact ⟨rfl, by first | rfl | trivial⟩
          · have q2 : decide ((lw : Int) - 1 < (A : Int)) = false := by simp; omega
            have u7 : IntKind.i64.wrap ((A : Int) + (M : Int)) = (VV : Int) := by rw [IntKind.wrap_i64]; omega
            clear hz hy hv hn3 hA hD hQ hM hbig hM2 hQ2
            go_wp2_with fail
            go_meet
            exact ⟨rfl, by first | rfl | trivial⟩
      case rest =>
        obtain ⟨rfl, hwc⟩ := hcut
        have hwc2 := hwc.symm
        subst hwc2
        obtain ⟨bw, hbw⟩ : ∃ bw, ((n0 : Int) == 0) = bw := ⟨_, rfl⟩
        have hbw' : (n0 == 0) = bw := by rw [← hbw]; cases e : (n0 == 0) <;> simp at e ⊢ <;> omega
        go_upto_if 68 with fail
        have HBW := Lib.hid hbw
        clear hbw hbw'
        go_cut [12] (fun nv wx => nv = .int .i64 n' ∧ wx = wr)
        case first =>
          have hy := HY7.out
          cases bw with
          | true =>
            have hz : n0 = 0 := by have := HBW.out; simp at this; omega
            have hn1 : n' = 1 := by omega
            clear hy hz
            subst hn1
            go_wp2_with fail
            go_meet
            exact ⟨rfl, by first | rfl | trivial⟩
          | false =>
            have hz : ¬ n0 = 0 := by have := HBW.out; simp at this; omega
            have hn1 : n' = n0 := by omega
            clear hy hz
            subst hn1
            go_wp2_with fail
            go_meet
            exact ⟨rfl, by first | rfl | trivial⟩
        case rest =>
          obtain ⟨rfl, hwc⟩ := hcut
          have hwc2 := hwc.symm
          subst hwc2
          have hsn : IntKind.i64.wrap ((i : Int) + (n' : Int)) = ((i + n' : Nat) : Int) := by rw [IntKind.wrap_i64]; omega
          by_cases hv0 : VV = 0
          · have q3 : ((VV : Int) == 0) = true := by simp; omega
            have hN2 := HN2.out
            rw [if_pos hv0] at hN2
            have HN3 := Lib.hid hN2
            clear hN2 hv0
            go_wp2_with fail
            go_loopw [9, 14] (fun ov kv wx => ∃ (j : Nat) (L : List UInt8), j ≤ n' ∧ kv = .int .i64 ((i + j : Nat) : Int) ∧ OwnB wx ov (O ++ L) ∧ L.length ≤ 2 * j ∧ Hid (L = lits ((b.drop i).take j)) ∧ Keep [] w1 wx ∧ (∀ x, ov.ownBlock = some x → w1.heap.size ≤ x)) (fun _ kv _ => i + n' - (intOf kv).toNat)
            case atStart => exact ⟨0, [], by omega, by simp, by rw [List.append_nil]; exact hO, by simp, rfl, KK1, hov⟩
            case round =>
              obtain ⟨j, L, hj, rfl, hO2, hL1, HL2, KK2, hov2⟩ := hrel
              by_cases hjn : j < n'
              · have q4 : decide (j < n') = true := by simpa using hjn
                have q4' : decide ((i : Int) + (j : Int) < (i : Int) + (n' : Int)) = true := by simp; omega
                have hs9 : IntKind.i64.wrap ((i : Int) + (j : Int) + 1) = ((i + (j + 1) : Nat) : Int) := by rw [IntKind.wrap_i64]; omega
                have hijb : i + j < b.length := by omega
                obtain ⟨b9, o9, c9, e9, cellW⟩ := HB.out.spot (i + j) hijb
                obtain ⟨rfl, -⟩ : a = some ⟨b9, o9, none⟩ ∧ cp = c9 := by simpa using e9
                clear e9
                have hsnoc : (b.drop i).take (j + 1) = (b.drop i).take j ++ [b[i + j]] := by
                  rw [List.take_succ_eq_append_getElem (by rw [List.length_drop]; omega), List.getElem_drop]
                obtain ⟨y, hy⟩ : ∃ y, b[i + j] = y := ⟨_, rfl⟩
                rw [hy] at cellW hsnoc
                have hlit : lits ((b.drop i).take (j + 1)) = L ++ (if y.toNat = 144 then [y, 0] else [y]) := by
                  rw [hsnoc, HL2.out]
                  unfold lits
                  rw [List.flatMap_append]; simp
                have cell := (k1.trans KK2 (by simp)).cell cellW (by simp)
                have HCW := Lib.hid cellW
                have HLT := Lib.hid hlit
                have HN := Lib.hid (Bs.new1 wr y)
                have KA := (Keep.refl [] wr).alloc (.cells #[.int .u8 (y.toNat)] 5)
                have hO3 := hO2.keep KA (by simp)
                have hll : (O ++ L).length + [y].length ≤ 140737488355328 := by rw [List.length_append]; simp; omega
                have HLL := Lib.hid hll
                clear cellW hsnoc hy hlit hll
                have hidx : (i : Int) + (j : Int) < (b.length : Int) := by omega
                by_cases hy144 : y.toNat = 144
                · have q5 : ((y.toNat : Int) == 144) = true := by simp; omega
                  rw [if_pos hy144] at HLT
                  clear hy144
                  go_upto_region 24 with (at_builtin; (refine wpList_appendB (.tmp 79) (.tmp 84) rfl rfl u9 (O ++ L) rfl hO3 _ [y] rfl HN.out HLL.out ?_); (intro v3 w3 ho3 hk3 hb3 hz3); (have K3 : Keep [] w1 w3 := (KK2.trans KA (by simp)).trans hk3 (fun z hz => .inr (hov2 z (by simpa using hz)))); (have cell3 := (k1.trans K3 (by simp)).cell HCW.out (by simp)))
                  have HN3 := Lib.hid (Bs.new1 w3 0)
                  have KA3 := (Keep.refl [] w3).alloc (.cells #[.int .u8 ((0 : UInt8).toNat)] 5)
                  have hO5 := ho3.keep KA3 (by simp)
                  have hll5 : (O ++ L ++ [y]).length + [(0 : UInt8)].length ≤ 140737488355328 := by rw [List.length_append, List.length_append]; simp; omega
                  have HLL5 := Lib.hid hll5
                  have hov3 : ∀ x, v3.ownBlock = some x → w1.heap.size ≤ x := by
                    intro x hx
                    rcases hb3 x hx with h' | h'
                    · exact hov2 x h'
                    · have := KK2.size; rw [h']; simp; omega
                  clear hll5
                  go_wp2_with (at_builtin; (refine wpList_appendB (.tmp 91) (.tmp 92) rfl rfl v3 (O ++ L ++ [y]) rfl hO5 _ [0] rfl HN3.out HLL5.out ?_); (intro v5 w5 ho5 hk5 hb5 hz5); (have K5 : Keep [] w1 w5 := (K3.trans KA3 (by simp)).trans hk5 (fun z hz => .inr (hov3 z (by simpa using hz)))))
                  go_roundw
                  case rel =>
                    refine ⟨j + 1, L ++ [y, 0], by omega, by first | rfl | (congr 1; omega), by simpa using ho5, by rw [List.length_append]; simp; omega, HLT.out.symm, K5, fun x hx => ?_⟩
                    rcases hb5 x hx with h' | h'
                    · exact hov3 x h'
                    · have := K3.size; rw [h']; simp; omega
                  case measure => simp [intOf]; omega
                · have q5 : ((y.toNat : Int) == 144) = false := by simp; omega
                  rw [if_neg hy144] at HLT
                  clear hy144
                  go_wp2_with (at_builtin; (refine wpList_appendB (.tmp 79) (.tmp 84) rfl rfl u9 (O ++ L) rfl hO3 _ [y] rfl HN.out HLL.out ?_); (intro v3 w3 ho3 hk3 hb3 hz3); (have K3 : Keep [] w1 w3 := (KK2.trans KA (by simp)).trans hk3 (fun z hz => .inr (hov2 z (by simpa using hz)))); (have cell3 := (k1.trans K3 (by simp)).cell HCW.out (by simp)))
                  go_roundw
                  case rel =>
                    refine ⟨j + 1, L ++ [y], by omega, by first | rfl | (congr 1; omega), by rw [← List.append_assoc]; exact ho3, by rw [List.length_append]; simp; omega, HLT.out.symm, K3, fun x hx => ?_⟩
                    rcases hb3 x hx with h' | h'
                    · exact hov2 x h'
                    · have := KK2.size; rw [h']; simp; omega
                  case measure => simp [intOf]; omega
              · have q4 : decide (j < n') = false := by simpa using hjn
                have q4' : decide ((i : Int) + (j : Int) < (i : Int) + (n' : Int)) = false := by simp; omega
                have hjn2 : j = n' := by omega
                have HJ := Lib.hid hjn2
                clear hjn hjn2
                go_wp2_with fail
                go_roundw
                case rel =>
                  have e : O ++ L = O ++ lits ((b.drop i).take n') := by rw [HL2.out, HJ.out]
                  rw [e] at hO2
                  refine ⟨k + 1, i + n', F', _, by omega, rfl, by first | rfl | simp, y6, hO2, ?_, ?_, KK2, hov2, ⟨HT2.out, HN3.out⟩⟩
                  · have := congrArg List.length HL2.out; rw [List.length_append]; have := lits_len ((b.drop i).take n'); rw [List.length_take] at this; omega
                  · exact k1.trans KK2 (by simp)
                case measure => simp [intOf]; omega
          · have q3 : ((VV : Int) == 0) = false := by simp; omega
            have hN2 := HN2.out
            rw [if_neg hv0] at hN2
            have hz : ¬ n0 = 0 := fun e => hv0 (HV3.out e)
            have hy := HY7.out
            have hnn : n' = n0 ∧ 3 ≤ n0 ∧ 1 ≤ d0 := by omega
            have hvv : v13 f d0 n0 = VV := by have := HVV.out; rw [if_neg hz] at this; exact this
            rw [HEM.out, hvv] at hN2
            obtain ⟨A, hA⟩ : ∃ A, n0 - 3 = A := ⟨_, rfl⟩
            obtain ⟨D, hD⟩ : ∃ D, d0 - 1 = D := ⟨_, rfl⟩
            obtain ⟨Rm, hRm⟩ : ∃ Rm, D % 256 = Rm := ⟨_, rfl⟩
            rw [hA, hD, hRm] at hN2
            have hR2 : Rm < 256 := by omega
            have hnn2 := hnn.1
            subst hnn2
            have hnn3 := hnn.2.1
            have u1 : IntKind.i64.wrap ((n' : Int) - 3) = (A : Int) := by rw [IntKind.wrap_i64]; omega
            have u2 : IntKind.i64.wrap ((d0 : Int) - 1) = (D : Int) := by rw [IntKind.wrap_i64]; omega
            have u3 : (D : Int).tmod 256 = (Rm : Int) := by rw [Int.tmod_eq_emod_of_nonneg (by omega)]; omega
            have u4 : IntKind.i64.wrap (Rm : Int) = Rm := by rw [IntKind.wrap_i64]; omega
            have u5 : IntKind.u8.wrap (Rm : Int) = Rm := by rw [IntKind.wrap_u8']; omega
            have u6 : IntKind.u8.wrap (VV : Int) = VV := by rw [IntKind.wrap_u8']; omega
            have z1 : (UInt8.ofNat VV).toNat = VV := by rw [UInt8.toNat_ofNat']; omega
            have z2 : (UInt8.ofNat Rm).toNat = Rm := by rw [UInt8.toNat_ofNat']; omega
            have hlit2 := Bs.lit wr [144, UInt8.ofNat VV] #[.int .u8 144, .int .u8 VV] 2 (by simp [ints8, z1]) rfl (by decide)
            have HN := Lib.hid hlit2
            have KA := (Keep.refl [] wr).alloc (.cells #[.int .u8 144, .int .u8 VV] 5)
            have hO3 := hO.keep KA (by simp)
            have hll : O.length + [144, UInt8.ofNat VV].length ≤ 140737488355328 := by simp; omega
            have HLL := Lib.hid hll
            have HNX := Lib.hid hN2
            have hA2 : A ≤ lw + 254 := by omega
            clear hN2 hv0 hz hy hnn hvv hA hD hRm hlit2 hll
            go_upto_region 27 with (at_builtin; (refine wpList_appendB (.tmp 94) (.tmp 97) rfl rfl u9 O rfl hO3 _ [144, UInt8.ofNat VV] rfl HN.out HLL.out ?_); (intro v3 w3 ho3 hk3 hb3 hz3))
            have K3 : Keep [] w1 w3 := (KK1.trans KA (by simp)).trans hk3 (fun z hz => .inr (hov z (by simpa using hz)))
            have hov3 : ∀ x, v3.ownBlock = some x → w1.heap.size ≤ x := by
              intro x hx
              rcases hb3 x hx with h' | h'
              · exact hov x h'
              · have := KK1.size; rw [h']; simp; omega
            by_cases hbig : lw - 1 ≤ A
            · have q4 : decide ((lw : Int) - 1 ≤ (A : Int)) = true := by simp; omega
              obtain ⟨Bg, hBg⟩ : ∃ Bg, A - (lw - 1) = Bg := ⟨_, rfl⟩
              have hBg2 : Bg < 256 := by omega
              have u7 : IntKind.i64.wrap ((A : Int) - ((lw : Int) - 1)) = (Bg : Int) := by rw [IntKind.wrap_i64]; omega
              have u8 : IntKind.u8.wrap (Bg : Int) = Bg := by rw [IntKind.wrap_u8']; omega
              have z3 : (UInt8.ofNat Bg).toNat = Bg := by rw [UInt8.toNat_ofNat']; omega
              have hN3 := HNX.out
              rw [if_pos hbig, hBg] at hN3
              have HN3 := Lib.hid hN3
              have hl3 := Bs.new1 w3 (UInt8.ofNat Bg)
              rw [z3] at hl3
              have HL3 := Lib.hid hl3
              have KA3 := (Keep.refl [] w3).alloc (.cells #[.int .u8 (Bg : Int)] 5)
              have hO5 := ho3.keep KA3 (by simp)
              have hll3 : (O ++ [144, UInt8.ofNat VV]).length + [UInt8.ofNat Bg].length ≤ 140737488355328 := by simp; omega
              have HLL3 := Lib.hid hll3
              have cellD3 := K3.cell HCD.out (by simp)
              clear hbig hBg hN3 hl3 hll3
              go_upto_region 29 with (at_builtin; (refine wpList_appendB (.tmp 104) (.tmp 111) rfl rfl v3 (O ++ [144, UInt8.ofNat VV]) rfl hO5 _ [UInt8.ofNat Bg] rfl HL3.out HLL3.out ?_); (intro v5 w5 ho5 hk5 hb5 hz5))
              have K5 : Keep [] w1 w5 := (K3.trans KA3 (by simp)).trans hk5 (fun z hz => .inr (hov3 z (by simpa using hz)))
              have hov5 : ∀ x, v5.ownBlock = some x → w1.heap.size ≤ x := by
                intro x hx
                rcases hb5 x hx with h' | h'
                · exact hov3 x h'
                · have := K3.size; rw [h']; simp; omega
              have hl5 := Bs.new1 w5 (UInt8.ofNat Rm)
              rw [z2] at hl5
              have HL5 := Lib.hid hl5
              have KA5 := (Keep.refl [] w5).alloc (.cells #[.int .u8 (Rm : Int)] 5)
              have hO7 := ho5.keep KA5 (by simp)
              have hll5 : (O ++ [144, UInt8.ofNat VV] ++ [UInt8.ofNat Bg]).length + [UInt8.ofNat Rm].length ≤ 140737488355328 := by simp; omega
              have HLL5 := Lib.hid hll5
              have cellD5 := K5.cell HCD.out (by simp)
              clear hl5 hll5 cellD3 cellD
              go_wp2_with (at_builtin; (refine wpList_appendB (.tmp 113) (.tmp 122) rfl rfl v5 (O ++ [144, UInt8.ofNat VV] ++ [UInt8.ofNat Bg]) rfl hO7 _ [UInt8.ofNat Rm] rfl HL5.out HLL5.out ?_); (intro v7 w7 ho7 hk7 hb7 hz7))
              go_roundw
              case rel =>
                have K7 : Keep [] w1 w7 := (K5.trans KA5 (by simp)).trans hk7 (fun z hz => .inr (hov5 z (by simpa using hz)))
                refine ⟨k + 1, i + n', F', O ++ [144, UInt8.ofNat VV] ++ [UInt8.ofNat Bg] ++ [UInt8.ofNat Rm], by omega, rfl, by first | rfl | simp, y6, ho7, ?_, k1.trans K7 (by simp), K7, fun x hx => ?_, ⟨HT2.out, ?_⟩⟩
                · have := hnn3; simp; omega
                · rcases hb7 x hx with h' | h'
                  · exact hov5 x h'
                  · have := K5.size; rw [h']; simp; omega
                · have := HN3.out; simpa [List.append_assoc] using this
              case measure => simp [intOf]; omega
            · have q4 : decide ((lw : Int) - 1 ≤ (A : Int)) = false := by simp; omega
              have hN3 := HNX.out
              rw [if_neg hbig, List.append_nil] at hN3
              have HN3 := Lib.hid hN3
              have hl5 := Bs.new1 w3 (UInt8.ofNat Rm)
              rw [z2] at hl5
              have HL5 := Lib.hid hl5
              have KA5 := (Keep.refl [] w3).alloc (.cells #[.int .u8 (Rm : Int)] 5)
              have hO7 := ho3.keep KA5 (by simp)
              have hll5 : (O ++ [144, UInt8.ofNat VV]).length + [UInt8.ofNat Rm].length ≤ 140737488355328 := by simp; omega
              have HLL5 := Lib.hid hll5
              have cellD3 := K3.cell HCD.out (by simp)
              clear hbig hN3 hl5 hll5 cellD
              go_wp2_with (at_builtin; (refine wpList_appendB (.tmp 113) (.tmp 122) rfl rfl v3 (O ++ [144, UInt8.ofNat VV]) rfl hO7 _ [UInt8.ofNat Rm] rfl HL5.out HLL5.out ?_); (intro v7 w7 ho7 hk7 hb7 hz7))
              go_roundw
              case rel =>
                have K7 : Keep [] w1 w7 := (K3.trans KA5 (by simp)).trans hk7 (fun z hz => .inr (hov3 z (by simpa using hz)))
                refine ⟨k + 1, i + n', F', O ++ [144, UInt8.ofNat VV] ++ [UInt8.ofNat Rm], by omega, rfl, by first | rfl | simp, y6, ho7, ?_, k1.trans K7 (by simp), K7, fun x hx => ?_, ⟨HT2.out, ?_⟩⟩
                · have := hnn3; simp; omega
                · rcases hb7 x hx with h' | h'
                  · exact hov3 x h'
                  · have := K3.size; rw [h']; simp; omega
                · have := HN3.out; simpa [List.append_assoc] using this
              case measure => simp [intOf]; omega
    · have q0 : decide (k < TS.length) = false := by simpa using hx
      have hIe := HI.out.2
      rw [List.drop_of_length_le (by omega), encT, List.append_nil] at hIe
      have HIE := Lib.hid hIe
      clear hx hIe HI
      go_wp2_with fail
      go_ret2
      rw [← HIE.out]
      exact ⟨_, rfl, hO, KK, fun x hx => by have := hov x hx; have := k1.size; omega⟩
end Go.Proofs.Yteahcpkaagjkkaa
