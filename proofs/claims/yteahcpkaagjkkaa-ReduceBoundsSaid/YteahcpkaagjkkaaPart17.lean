/- Texts put together: DleEnc -/
import Derived.Test.YteahcpkaagjkkaaPart11
import Derived.Test.YteahcpkaagjkkaaPart16
namespace Go.Proofs.Yteahcpkaagjkkaa
set_option linter.unusedVariables false
set_option linter.unusedSimpArgs false
set_option maxRecDepth 100000
open Go.ChangeShapes Go.WideShapes Go.ChangeAt Go.RowKit

theorem dl_encode_bad (w : World) (v : Value) (b : List UInt8) (f : Int) (hb : Bs w v b) (h : f < 1 ∨ 4 < f) : Calls Try.prog 28 #[v, .int .i64 f] w fun e w' => ∃ v', e = .returned (.tuple #[v', .int .i64 2]) ∧ Bs w' v' [] ∧ Keep [] w w' := by
  have HR := Lib.hid (fun ww => dright_bad ww f h)
  clear h hb
  go_enter Try.func28, Try.ntmps28
  go_wp2_with fail
  refine (HR.out _).mono ?_; rintro e w1 ⟨rfl, rfl⟩
  go_wp2_with fail
  go_ret2
  exact ⟨_, rfl, Bs.nil _, Keep.refl _ _⟩
theorem shapeSize : (Try.prog.info? 102).map (·.size) = some 5 := by kernel_rfl
theorem dshape_c (w : World) (f : Nat) (h1 : 1 ≤ f) (h2 : f ≤ 4) : Calls Try.prog 57 #[.int .i64 (f : Int)] w fun e w' => e = .returned (sh13 f).val ∧ Keep [] w w' := by
  have HM := Lib.hid (fun ww => dmask_c ww f h1 h2)
  have HW := Lib.hid (fun ww => dwindow_c ww f h1 h2)
  obtain ⟨l1, l2, l3⟩ := low13_of f h1 h2
  have hpf : 2 ^ f ≤ 2 ^ 4 := Nat.pow_le_pow_right (by decide) h2
  have hshv : (sh13 f) = ⟨((256 * 2 ^ f : Nat) : Int), 3, ((low13 f + 257 : Nat) : Int), 64, true⟩ := by
    unfold sh13; congr 1 <;> simp
  rw [hshv]
  have hx : low13 f + 257 = (low13 f - 1) + 255 + 3 := by omega
  rw [hx]
  obtain ⟨X, hX⟩ : ∃ X, 256 * 2 ^ f = X := ⟨_, rfl⟩
  obtain ⟨M, hM⟩ : ∃ M, low13 f - 1 = M := ⟨_, rfl⟩
  rw [hX] at HW ⊢
  rw [hM] at HM ⊢
  have u1 : IntKind.i64.wrap ((M : Int) + 255) = ((M + 255 : Nat) : Int) := by rw [IntKind.wrap_i64]; omega
  have u2 : IntKind.i64.wrap (((M + 255 : Nat) : Int) + 3) = ((M + 255 + 3 : Nat) : Int) := by rw [IntKind.wrap_i64]; omega
  obtain ⟨G, hG⟩ : ∃ G, M + 255 = G := ⟨_, rfl⟩
  rw [hG] at u1 u2 ⊢
  obtain ⟨G3, hG3⟩ : ∃ G3, G + 3 = G3 := ⟨_, rfl⟩
  rw [hG3] at u2 ⊢
  clear hG hG3 hX hM hx hshv hpf l1 l2 l3
  unfold Sh.val Sh.cells
  dsimp only
  go_enter Try.func57, Try.ntmps57
  go_wp2_with fail
  refine (HM.out _).mono ?_; rintro e w1 ⟨rfl, rfl⟩
  go_wp2_with fail
  refine (HW.out _).mono ?_; rintro e w1 ⟨rfl, rfl⟩
  go_wp2_with fail
  refine bodyPost_ret (results_cellA rfl _ rfl (Blk.new _ _ _) _ Try.underlying102 rfl shapeSize) rfl ?_
  exact ⟨rfl, (Keep.refl _ _).alloc _⟩
set_option maxHeartbeats 4000000 in
theorem dl_encode (w : World) (v : Value) (b : List UInt8) (f : Nat) (hb : Bs w v b) (hl : b.length ≤ 100000) (h1 : 1 ≤ f) (h2 : f ≤ 4) : Calls Try.prog 28 #[v, .int .i64 f] w fun e w' => ∃ v', e = .returned (.tuple #[v', .int .i64 0]) ∧ Bs w' v' (enc13 f b) ∧ Keep [] w w' := by
  have HR := Lib.hid (fun ww => dright_c ww f h1 h2)
  have HSH := Lib.hid (fun ww => dshape_c ww f h1 h2)
  have hFI := fun w' (k : Keep [] w w') => fin_find w' v b (sh13 f) (sh13_ok f h1 h2).1 (hb.keep k (by simp)) hl
  have hTOK := fun i hi => tok13 f h1 h2 b i hi
  have hfd : found b (sh13 f) = fdF b (sh13 f) b.length 0 := rfl
  have hen : enc13 f b = encT f b (fdF b (sh13 f) b.length 0) 0 := rfl
  rw [hfd] at hFI
  have hlen := fd_len (b := b) (sh13_ok f h1 h2).1 b.length 0
  obtain ⟨l1, l2, l3⟩ := low13_of f h1 h2
  generalize hsh : sh13 f = sh at *
  obtain ⟨V, hval⟩ : ∃ V, sh.val = V := ⟨_, rfl⟩
  rw [hval] at HSH hFI
  generalize hTS : fdF b sh b.length 0 = TS at *
  generalize hE : enc13 f b = E at *
  have HFI := Lib.hid hFI; have HTOK := Lib.hid hTOK; have HEN := Lib.hid hen; have HTS := Lib.hid hTS
  obtain ⟨a, cp, rfl, _, _⟩ := hb.shape
  have HB := Lib.hid hb
  have HSP := Lib.hid (fun (h0 : 0 < b.length) => hb.spot 0 h0)
  clear hFI hTOK hen hTS hE hfd hsh hval hb
  go_enter Try.func28, Try.ntmps28
  go_wp2_with fail
  refine (HR.out _).mono ?_; rintro e w1 ⟨rfl, rfl⟩
  go_wp2_with fail
  refine (HSH.out _).mono ?_; rintro e w1 ⟨rfl, k1⟩
  go_wp2_with fail
  refine (HFI.out _ k1).mono ?_; rintro e w2 ⟨v2, rfl, hT, k2⟩
  obtain ⟨at1, ct1, rfl, hct⟩ := hT.sh
  have HT := Lib.hid hT
  have K2 : Keep [] w w2 := k1.trans k2 (by simp)
  clear hT k1 k2
  go_wp2_with fail
  go_loopw [0, 8, 27] (fun bv ov iv wr => ∃ (k i F : Nat) (O : List UInt8), k ≤ TS.length ∧ iv = .int .i64 k ∧ i ≤ b.length ∧ Bs w bv (b.drop i) ∧ (∀ x, bv.ownBlock = some x → (Value.slice a b.length cp).ownBlock = some x) ∧ OwnB wr ov O ∧ O.length ≤ 2 * i ∧ Keep [] w wr ∧ Keep [] w2 wr ∧ (∀ x, ov.ownBlock = some x → w2.heap.size ≤ x) ∧ Hid (TS.drop k = fdF b sh F i ∧ O ++ encT f b (TS.drop k) i = E)) (fun _ _ iv _ => TS.length - (intOf iv).toNat)
  case atStart => exact ⟨0, 0, b.length, [], Nat.zero_le _, rfl, Nat.zero_le _, by rw [List.drop_zero]; exact HB.out, fun x hx => hx, OwnB.nil _, Nat.zero_le _, K2, Keep.refl _ _, by simp [Value.ownBlock], ⟨by rw [List.drop_zero]; exact HTS.out.symm, by rw [List.drop_zero, List.nil_append]; exact HEN.out.symm⟩⟩
  case round =>
    obtain ⟨k, i, F, O, hk, rfl, hi, hbv, hbo, hO, hOl, KK, KK2, hov, HI⟩ := hrel
    by_cases hx : k < TS.length
    · have q0 : decide (k < TS.length) = true := by simpa using hx
      have hs1 : IntKind.i64.wrap ((k : Int) + 1) = ((k + 1 : Nat) : Int) := by rw [IntKind.wrap_i64]; omega
      obtain ⟨b0, o0, c0, e0, cellL, cellD, cellN⟩ := HT.out.at k hx
      obtain ⟨rfl, -⟩ : at1 = some ⟨b0, o0, none⟩ ∧ ct1 = c0 := by simpa using e0
      clear e0
      have hdr : TS.drop k = TS[k] :: TS.drop (k + 1) := List.drop_eq_getElem_cons hx
      obtain ⟨hI1, hI2⟩ := HI.out
      have hiF : ∃ F', F = F' + 1 ∧ i < b.length := by
        cases F with
        | zero => rw [hdr, fdF] at hI1; cases hI1
        | succ F' =>
          refine ⟨F', rfl, ?_⟩
          rcases Nat.lt_or_ge i b.length with h | h
          · exact h
          · rw [hdr, fdF, if_neg (by omega)] at hI1; cases hI1
      obtain ⟨F', rfl, hib⟩ := hiF
      rw [fdF, if_pos hib, hdr] at hI1
      obtain ⟨hT1, hT2⟩ := List.cons.inj hI1
      rw [hdr, encT] at hI2
      obtain ⟨n0, d0, y1, y2, y3, y4, y5, y6, y7⟩ := HTOK.out i hib
      rw [hT1] at cellD cellN cellL hI2
      rw [y1] at cellN
      rw [y2] at cellD
      obtain ⟨lt, hlt⟩ : ∃ lt, (stepT b sh i).lit = lt := ⟨_, rfl⟩
      rw [hlt] at cellL
      obtain ⟨n', hn'⟩ : ∃ n', sz1 (stepT b sh i) = n' := ⟨_, rfl⟩
      rw [hn'] at hI2 hT2 y5 y6 y7
      obtain ⟨VV, hVV⟩ : ∃ VV, (if n0 = 0 then 0 else v13 f d0 n0) = VV := ⟨_, rfl⟩
      rw [hVV] at y5
      obtain ⟨L, hL⟩ : ∃ L, (if VV = 0 then lits ((b.drop i).take n') else em13 f d0 n0) = L := ⟨_, rfl⟩
      rw [y5, ← List.append_assoc, hL] at hI2
      have hLl : L.length ≤ 2 * n' := by
        rw [← hL]
        split
        · refine Nat.le_trans (lits_len _) ?_; rw [List.length_take]; omega
        · next hv =>
          have h4 := em13_len f d0 n0
          rcases y7 with ⟨rfl, _⟩ | ⟨g1, g2, g3, _⟩
          · rw [if_pos rfl] at hVV; omega
          · omega
      obtain ⟨p2, hq2, hpre, hqo⟩ := Bs.upto (l := b.drop i) hbv n' n' rfl (by rw [List.length_drop]; omega)
      obtain ⟨p3, hq3, hpost, hqo3⟩ := Bs.from (l := b.drop i) hbv n' n' rfl (by rw [List.length_drop]; omega)
      rw [List.drop_drop] at hpost
      have hmx : max (1 : Int) (n0 : Int) = (n' : Int) := by omega
      have hblt : ∀ x, (Value.slice a b.length cp).ownBlock = some x → x < w.heap.size := by
        obtain ⟨b9, o9, c9, e9, cell9⟩ := HSP.out (by omega)
        obtain ⟨rfl, -⟩ : a = some ⟨b9, o9, none⟩ ∧ cp = c9 := by simpa using e9
        intro x hx9
        have : b9 = x := by simpa [Value.ownBlock] using hx9
        subst this
        exact World.block_lt_of_cell? w _ cell9
      have HTC : Hid (∀ ww, Keep [] wr ww → Calls Try.prog 58 #[u8, .agg #[.int .u8 lt.toNat, .int .i64 d0, .int .i64 n0], p2, .int .i64 f] ww fun e w' => ∃ v', e = .returned v' ∧ OwnB w' v' (O ++ L) ∧ Keep u8.ownBlock.toList ww w' ∧ (∀ b, v'.ownBlock = some b → u8.ownBlock = some b ∨ ww.heap.size ≤ b)) := by
        intro ww kw
        have := addtoken_c ww u8 p2 O ((b.drop i).take n') lt f n0 d0 VV (hO.keep kw (by simp)) (hpre.keep (KK.trans kw (by simp)) (by simp)) (fun x hx e => by
          rw [hqo] at hx
          have h1 := hblt x (hbo x hx)
          have h2 := hov x e
          have h3 := K2.size
          omega) (by omega) (by rw [List.length_take]; omega) h1 h2 (by
            rcases y7 with ⟨rfl, _⟩ | ⟨g1, g2, g3, g4⟩
            · exact .inl rfl
            · exact .inr ⟨g1, y4, g2, g4⟩) y3 hVV
        rw [hL] at this
        exact this
      have HN2 := Lib.hid hI2; have HT2 := Lib.hid hT2
      have cellL' := KK2.cell cellL (by simp)
      have cellN' := KK2.cell cellN (by simp)
      have cellD' := KK2.cell cellD (by simp)
      have HBO : Hid (∀ x, p3.ownBlock = some x → (Value.slice a b.length cp).ownBlock = some x) := by intro x hx; rw [hqo3] at hx; exact hbo x hx
      have HBV := Lib.hid hpost
      have KA : Keep [] wr (wr.alloc (.cells #[.int .u8 lt.toNat, .int .i64 d0, .int .i64 n0] 105)) := (Keep.refl _ _).alloc _
      clear hdr hI1 hI2 hT1 hT2 y1 y2 y5 hn' hVV y7 HI cellL cellD cellN hL hlt hbv hpre hqo hpost hqo3 hbo hblt
      go_upto_region 11 with fail
      have BQ := Blk.new wr #[.int .u8 lt.toNat, .int .i64 d0, .int .i64 n0] 105
      obtain ⟨g, hg⟩ : ∃ g, wr.heap.size = g := ⟨_, rfl⟩
      rw [hg] at BQ ⊢
      have HG := Lib.hid hg
      clear hg cellL' cellN' cellD'
      generalize wr.alloc (.cells #[.int .u8 lt.toNat, .int .i64 d0, .int .i64 n0] 105) = w3' at BQ KA ⊢
      have z0 := BQ.cell 0 _ rfl
      have z1 := BQ.cell 1 _ rfl
      have z2 := BQ.cell 2 _ rfl
      simp only [List.getElem_toArray, List.getElem_cons_zero, List.getElem_cons_succ] at z0 z1 z2
      go_still_tail 6, (by kernel_rfl)
      change wpList _ _ _ _ _ w3'.drew
      have KD := KA.drew
      have hz0 : wr.heap.size ≤ w3'.drew.heap.size := KD.size
      clear z0 z1 z2 BQ
      generalize w3'.drew = w3 at KD hz0 ⊢
      have H3 := Lib.hid (HTC.out _ KD)
      clear HTC KA
      go_wp2_with fail
      refine H3.out.mono ?_; rintro e w4 ⟨v4, rfl, o4, k4, b4⟩
      have K24 : Keep [] w2 w4 := (KK2.trans KD (by simp)).trans k4 (fun z hz => .inr (hov z (by simpa using hz)))
      have hov4 : ∀ x, v4.ownBlock = some x → w2.heap.size ≤ x := by
        intro x hx
        rcases b4 x hx with h | h
        · exact hov x h
        · have := KK2.size; omega
      clear KK2 KD k4 b4 hov hO H3
      go_wp2_with fail
      go_roundw
      case rel => exact ⟨k + 1, i + n', F', O ++ L, by omega, by first | rfl | simp, y6, HBV.out, HBO.out, o4, by rw [List.length_append]; omega, K2.trans K24 (by simp), K24, hov4, ⟨HT2.out, HN2.out⟩⟩
      case measure => simp [intOf]; omega
    · have q0 : decide (k < TS.length) = false := by simpa using hx
      have hI := HI.out.2
      rw [List.drop_of_length_le (by omega), encT, List.append_nil] at hI
      rw [hI] at hO
      clear hI hx
      go_wp2_with fail
      go_ret2
      exact ⟨_, rfl, hO.bs, KK⟩
end Go.Proofs.Yteahcpkaagjkkaa
