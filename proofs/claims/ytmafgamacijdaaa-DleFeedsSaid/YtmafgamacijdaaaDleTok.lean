/- addToken over the landed code. -/
import Derived.Test.YtmafgamacijdaaaDleAdd
import Derived.Lib.MinMax
namespace Go.Proofs.Ytmafgamacijdaaa
set_option linter.unusedVariables false
set_option linter.unusedSimpArgs false
set_option maxRecDepth 100000
open Go.ChangeShapes Go.WideShapes Go.ChangeAt Go.RowKit

set_option maxHeartbeats 1000000 in
theorem addtoken_c (w : World) (v p : Value) (l d : List UInt8) (lt : UInt8) (f n0 d0 VV : Nat) (h : OwnB w v l) (hd : Bs w p d) (hp : ∀ b, p.ownBlock = some b → v.ownBlock ≠ some b) (hl : l.length ≤ 900000) (hdl : d.length ≤ 900000)
    (h1 : 1 ≤ f) (h2 : f ≤ 4) (hn : n0 = 0 ∨ (3 ≤ n0 ∧ n0 ≤ low13 f + 257 ∧ 1 ≤ d0 ∧ v13 f d0 n0 < 256)) (hd0 : d0 ≤ 65536) (hV : (if n0 = 0 then 0 else v13 f d0 n0) = VV) :
    Calls Try.prog 37 #[v, .agg #[.int .u8 lt.toNat, .int .i64 d0, .int .i64 n0], p, .int .i64 f] w fun e w' => ∃ v', e = .returned v' ∧ OwnB w' v' (l ++ (if VV = 0 then lits d else em13 f d0 n0)) ∧ Keep v.ownBlock.toList w w' ∧ (∀ b, v'.ownBlock = some b → v.ownBlock = some b ∨ w.heap.size ≤ b) := by
  obtain ⟨a, cp, rfl, _, _⟩ := hd.shape
  obtain ⟨l1, l2, l3⟩ := low13_of f h1 h2
  have KA : Keep [] w (w.alloc (.cells #[.int .u8 lt.toNat, .int .i64 d0, .int .i64 n0] 69)) := (Keep.refl [] w).alloc _
  have BT := Blk.new w #[.int .u8 lt.toNat, .int .i64 d0, .int .i64 n0] 69
  have HAB := Lib.hid (fun ww (k : Keep [] w ww) => addbytes_c ww v (.slice a d.length cp) l d (h.keep k (by simp)) (hd.keep k (by simp)) hp (by omega) (by omega))
  have hsz : w.heap.size < (w.alloc (.cells #[.int .u8 lt.toNat, .int .i64 d0, .int .i64 n0] 69)).heap.size := by simp
  rcases hn with rfl | ⟨hn3, hnM, hd1, hv2⟩
  · rw [if_pos rfl] at hV
    subst hV
    rw [if_pos rfl]
    have H1 := Lib.hid (HAB.out _ KA)
    go_enter Try.func37, Try.ntmps37
    go_wp2_with fail
    refine H1.out.mono ?_; rintro e w2 ⟨v2, rfl, o2, k2, b2⟩
    go_wp2_with fail
    go_ret
    exact ⟨_, rfl, o2, (KA.nil (S := v.ownBlock.toList)).trans k2 (fun z hz => .inl hz), fun b hb => by rcases b2 b hb with h | h; exact .inl h; exact .inr (by omega)⟩
  · rw [if_neg (by omega)] at hV
    have z1 : ((n0 : Int) == 0) = false := by simp; omega
    have z2 : (n0 == 0) = false := by simp; omega
    have HM := Lib.hid (fun ww => mask_c ww f h1 h2)
    have HS := Lib.hid (fun ww => shift_c ww f h1 h2)
    have hvd : v13 f d0 n0 = min (n0 - 3) (low13 f - 1) + low13 f * ((d0 - 1) / 256) := rfl
    obtain ⟨A, hA⟩ : ∃ A, n0 - 3 = A := ⟨_, rfl⟩
    obtain ⟨D, hD⟩ : ∃ D, d0 - 1 = D := ⟨_, rfl⟩
    obtain ⟨Q, hQ⟩ : ∃ Q, D / 256 = Q := ⟨_, rfl⟩
    obtain ⟨M, hM⟩ : ∃ M, low13 f - 1 = M := ⟨_, rfl⟩
    obtain ⟨m, hm⟩ : ∃ m, min A M = m := ⟨_, rfl⟩
    rw [hA, hD, hQ, hM, hm] at hvd
    rw [hM] at HM
    have u1 : IntKind.i64.wrap ((n0 : Int) - 3) = (A : Int) := by rw [IntKind.wrap_i64]; omega
    have u2 : IntKind.i64.wrap ((d0 : Int) - 1) = (D : Int) := by rw [IntKind.wrap_i64]; omega
    have u3 : (D : Int).tdiv 256 = (Q : Int) := by rw [Int.tdiv_eq_ediv_of_nonneg (by omega)]; omega
    have u4 : IntKind.i64.wrap (Q : Int) = Q := by rw [IntKind.wrap_i64]; omega
    have u5 : min (A : Int) (M : Int) = (m : Int) := by omega
    have hP0 : low13 f * Q < 256 := by omega
    obtain ⟨P, hP⟩ : ∃ P, low13 f * Q = P := ⟨_, rfl⟩
    have us0 : (Q : Int) * 2 ^ (8 - f) = (P : Int) := by
      rw [← hP]; unfold low13; rw [Nat.mul_comm]; simp
    have us : IntKind.i64.wrap ((Q : Int) * 2 ^ (8 - f)) = (P : Int) := by rw [us0, IntKind.wrap_i64]; omega
    have us3 : IntKind.i64.wrap (P : Int) = (P : Int) := by rw [IntKind.wrap_i64]; omega
    rw [hP] at hvd hP0
    have us2 : IntKind.i64.wrap ((m : Int) + (P : Int)) = (VV : Int) := by rw [IntKind.wrap_i64]; omega
    have hVV : VV < 256 := by omega
    have TT := Lib.hid (fun ww (k : Keep [] (w.alloc (.cells #[.int .u8 lt.toNat, .int .i64 d0, .int .i64 n0] 69)) ww) => (BT.keep k (by simp) : Blk ww w.heap.size #[.int .u8 lt.toNat, .int .i64 d0, .int .i64 n0] 69))
    have HM0 := Lib.hid hM; have HA0 := Lib.hid hA; have HD0 := Lib.hid hD; have HVD := Lib.hid hvd; have HV := Lib.hid hV
    obtain ⟨R, hR⟩ : ∃ R, (if VV = 0 then lits d else em13 f d0 n0) = R := ⟨_, rfl⟩
    rw [hR]
    have HR := Lib.hid hR
    clear hM hm hA hD hQ hd hP hvd hv2 hV BT hR
    go_enter Try.func37, Try.ntmps37
    go_wp2_with fail
    go_quiet ((go_at_call 41; exact Calls.quiet_of ((HM.out _).mono fun _ _ => sameQ)))
    obtain ⟨g, hg⟩ : ∃ g, w.heap.size = g := ⟨_, rfl⟩
    have B2 := TT.out _ ((Keep.refl [] _).drewN nq)
    have K2 := KA.drewN nq
    have HG := Lib.hid hg
    rw [hg] at B2 TT ⊢
    clear hg
    generalize hW : (w.alloc (.cells #[.int .u8 lt.toNat, .int .i64 d0, .int .i64 n0] 69)).drewN nq = w2 at B2 K2 ⊢
    clear hW TT KA
    have c1 := B2.cell 1 _ rfl
    simp only [List.getElem_toArray, List.getElem_cons_zero, List.getElem_cons_succ] at c1
    go_wp2_with fail
    go_quiet ((go_at_call 40; exact Calls.quiet_of ((HS.out _).mono fun _ _ => sameQ)))
    have B3 := B2.keep ((Keep.refl [] _).drewN nq) (by simp)
    have K3 := K2.drewN nq
    clear c1 B2 K2
    generalize w2.drewN nq = w3 at B3 K3 ⊢
    by_cases hv0 : VV = 0
    · have q1 : ((VV : Int) == 0) = true := by simp; omega
      have hR := HR.out
      rw [if_pos hv0] at hR
      rw [hR] at HAB
      clear hR
      have H1 := Lib.hid (HAB.out _ K3)
      subst hv0
      go_wp2_with fail
      refine H1.out.mono ?_; rintro e w4 ⟨v2, rfl, o2, k2, b2⟩
      go_wp2_with fail
      go_ret
      have hs3 := K3.size
      exact ⟨_, rfl, o2, (K3.nil (S := v.ownBlock.toList)).trans k2 (fun z hz => .inl hz), fun b hb => by rcases b2 b hb with h | h; exact .inl h; exact .inr (by omega)⟩
    · have q1 : ((VV : Int) == 0) = false := by simp; omega
      have hR := HR.out
      rw [if_neg hv0] at hR
      clear HR HAB
      have HR := Lib.hid hR
      clear hv0 hR
      have hov := h.keep K3 (by simp)
      have ub : IntKind.u8.wrap (VV : Int) = VV := by rw [IntKind.wrap_u8]; omega
      obtain ⟨Rm, hRm⟩ : ∃ Rm, D % 256 = Rm := ⟨_, rfl⟩
      have hR2 : Rm < 256 := by omega
      have u7 : (D : Int).tmod 256 = (Rm : Int) := by rw [Int.tmod_eq_emod_of_nonneg (by omega)]; omega
      have u8 : IntKind.i64.wrap (Rm : Int) = Rm := by rw [IntKind.wrap_i64]; omega
      have u9 : IntKind.u8.wrap (Rm : Int) = Rm := by rw [IntKind.wrap_u8]; omega
      have y1 : (UInt8.ofNat VV).toNat = VV := by rw [UInt8.toNat_ofNat']; omega
      have y2 : (UInt8.ofNat Rm).toNat = Rm := by rw [UInt8.toNat_ofNat']; omega
      have hem : em13 f d0 n0 = [144, UInt8.ofNat VV] ++ (if M ≤ A then [UInt8.ofNat (A - M)] else []) ++ [UInt8.ofNat Rm] := by
        unfold em13; rw [HV.out, HM0.out, HA0.out, HD0.out, hRm]
      have HE : Hid (R = [144, UInt8.ofNat VV] ++ (if M ≤ A then [UInt8.ofNat (A - M)] else []) ++ [UInt8.ofNat Rm]) := by
        unfold Hid; rw [← HR.out, hem]
      have hvlt : ∀ x, v.ownBlock = some x → x < g := fun x hx => by have := h.lt x hx; have := HG.out; omega
      have hg3 : g < w3.heap.size := B3.lt
      have HN := Lib.hid (Bs.lit w3 [144, UInt8.ofNat VV] #[.int .u8 144, .int .u8 VV] 2 (by simp [ints8, y1]) rfl (by decide))
      have KA3 := (Keep.refl [] w3).alloc (.cells #[.int .u8 144, .int .u8 VV] 5)
      have hO3 := hov.keep KA3 (by simp)
      have HLL : Hid (l.length + [144, UInt8.ofNat VV].length ≤ 140737488355328) := by unfold Hid; simp; omega
      have hAM : A ≤ M + 255 := by have := HM0.out; have := HA0.out; omega
      clear hem hRm HR
      have HAM := Lib.hid u5
      go_upto_region 8 with (at_builtin; (refine wpList_appendB (.tmp 37) (.tmp 40) rfl rfl v l rfl hO3 _ [144, UInt8.ofNat VV] rfl HN.out HLL.out ?_); (intro v4 w4 ho4 hk4 hb4 hz4))
      have K34 : Keep v.ownBlock.toList w3 w4 := ((KA3.nil (S := v.ownBlock.toList)).trans hk4 (fun z hz => .inl hz))
      have B4 := B3.keep K34 (by intro hm; have := hvlt g (by simpa using hm); omega)
      have K4 : Keep v.ownBlock.toList w w4 := (K3.nil (S := v.ownBlock.toList)).trans K34 (fun z hz => .inl hz)
      have hv4 : ∀ x, v4.ownBlock = some x → v.ownBlock = some x ∨ g < x := fun x hx => by
        rcases hb4 x hx with h | h
        · exact .inl h
        · right; rw [h]; simp; omega
      have hg4 : ∀ x, v4.ownBlock = some x → x ≠ g := fun x hx e => by
        rcases hv4 x hx with h | h
        · have := hvlt x h; omega
        · omega
      clear K34 hk4 hb4 HN KA3 hO3 HLL hov
      have c1 := B4.cell 1 _ rfl
      have c2 := B4.cell 2 _ rfl
      simp only [List.getElem_toArray, List.getElem_cons_zero, List.getElem_cons_succ] at c1 c2
      obtain ⟨E1, hE1⟩ : ∃ E1, (if M ≤ A then [UInt8.ofNat (A - M)] else []) = E1 := ⟨_, rfl⟩
      rw [hE1] at HE
      by_cases hbig : M ≤ A
      · have hmM : m = M := by omega
        have r1 : ((m : Int) == (M : Int)) = true := by simp; omega
        have r2 : (m == M) = true := by simpa using hmM
        obtain ⟨G, hG⟩ : ∃ G, A - M = G := ⟨_, rfl⟩
        rw [if_pos hbig, hG] at hE1
        subst hE1
        have hG2 : G < 256 := by omega
        have r3 : IntKind.i64.wrap ((A : Int) - (m : Int)) = (G : Int) := by rw [IntKind.wrap_i64]; omega
        have r4 : IntKind.u8.wrap (G : Int) = G := by rw [IntKind.wrap_u8]; omega
        have y3 : (UInt8.ofNat G).toNat = G := by rw [UInt8.toNat_ofNat']; omega
        have hl3 := Bs.new1 w4 (UInt8.ofNat G)
        rw [y3] at hl3
        have HL3 := Lib.hid hl3
        have KA5 := (Keep.refl [] w4).alloc (.cells #[.int .u8 (G : Int)] 5)
        have hO5 := ho4.keep KA5 (by simp)
        have HLL3 : Hid ((l ++ [144, UInt8.ofNat VV]).length + [UInt8.ofNat G].length ≤ 140737488355328) := by unfold Hid; simp; omega
        clear hmM hG hl3 hbig
        go_wp2_with fail
        refine (HM.out _).mono ?_; rintro e w5 ⟨rfl, rfl⟩
        go_upto_region 10 with (at_builtin; (refine wpList_appendB (.tmp 46) (.tmp 53) rfl rfl v4 (l ++ [144, UInt8.ofNat VV]) rfl hO5 _ [UInt8.ofNat G] rfl HL3.out HLL3.out ?_); (intro v6 w6 ho6 hk6 hb6 hz6))
        have K46 : Keep v4.ownBlock.toList w4 w6 := ((KA5.nil (S := v4.ownBlock.toList)).trans hk6 (fun z hz => .inl hz))
        have B6 := B4.keep K46 (by intro hm; exact hg4 g (by simpa using hm) rfl)
        have hszg : w.heap.size = g := HG.out
        have K6 : Keep v.ownBlock.toList w w6 := K4.trans K46 (fun z hz => by
          rcases hv4 z (by simpa using hz) with h | h
          · exact .inl (by simpa using h)
          · exact .inr (by omega))
        have hg5 : g < w4.heap.size := B4.lt
        have hv6 : ∀ x, v6.ownBlock = some x → v.ownBlock = some x ∨ g < x := fun x hx => by
          rcases hb6 x hx with h | h
          · exact hv4 x h
          · right; rw [h]; simp; omega
        clear K46 hk6 hb6 HL3 KA5 hO5 HLL3 c1 c2 hszg
        have c1 := B6.cell 1 _ rfl
        simp only [List.getElem_toArray, List.getElem_cons_zero, List.getElem_cons_succ] at c1
        have hl5 := Bs.new1 w6 (UInt8.ofNat Rm)
        rw [y2] at hl5
        have HL5 := Lib.hid hl5
        have KA7 := (Keep.refl [] w6).alloc (.cells #[.int .u8 (Rm : Int)] 5)
        have hO7 := ho6.keep KA7 (by simp)
        have HLL5 : Hid ((l ++ [144, UInt8.ofNat VV] ++ [UInt8.ofNat G]).length + [UInt8.ofNat Rm].length ≤ 140737488355328) := by unfold Hid; simp; omega
        clear hl5
        go_wp2_with (at_builtin; (refine wpList_appendB (.tmp 55) (.tmp 61) rfl rfl v6 (l ++ [144, UInt8.ofNat VV] ++ [UInt8.ofNat G]) rfl hO7 _ [UInt8.ofNat Rm] rfl HL5.out HLL5.out ?_); (intro v8 w8 ho8 hk8 hb8 hz8))
        go_ret
        have hszg : w.heap.size = g := HG.out
        refine ⟨v8, rfl, by rw [HE.out]; simpa [List.append_assoc] using ho8, (K6.trans KA7 (by simp)).trans hk8 (fun z hz => ?_), fun b hb => ?_⟩
        · rcases hv6 z (by simpa using hz) with h | h
          · exact .inl (by simpa using h)
          · exact .inr (by omega)
        · rcases hb8 b hb with h | h
          · rcases hv6 b h with h | h
            · exact .inl h
            · exact .inr (by omega)
          · right; have := K6.size; rw [h]; simp; omega
      · have hmM : ¬ m = M := by omega
        have r1 : ((m : Int) == (M : Int)) = false := by simp; omega
        have r2 : (m == M) = false := by simpa using hmM
        rw [if_neg hbig] at hE1
        subst hE1
        have hl5 := Bs.new1 w4 (UInt8.ofNat Rm)
        rw [y2] at hl5
        have HL5 := Lib.hid hl5
        have KA7 := (Keep.refl [] w4).alloc (.cells #[.int .u8 (Rm : Int)] 5)
        have hO7 := ho4.keep KA7 (by simp)
        have HLL5 : Hid ((l ++ [144, UInt8.ofNat VV]).length + [UInt8.ofNat Rm].length ≤ 140737488355328) := by unfold Hid; simp; omega
        clear hl5 hmM hbig
        go_wp2_with fail
        refine (HM.out _).mono ?_; rintro e w5 ⟨rfl, rfl⟩
        go_wp2_with (at_builtin; (refine wpList_appendB (.tmp 55) (.tmp 61) rfl rfl v4 (l ++ [144, UInt8.ofNat VV]) rfl hO7 _ [UInt8.ofNat Rm] rfl HL5.out HLL5.out ?_); (intro v8 w8 ho8 hk8 hb8 hz8))
        go_ret
        have hszg : w.heap.size = g := HG.out
        refine ⟨v8, rfl, by rw [HE.out]; simpa [List.append_assoc] using ho8, (K4.trans KA7 (by simp)).trans hk8 (fun z hz => ?_), fun b hb => ?_⟩
        · rcases hv4 z (by simpa using hz) with h | h
          · exact .inl (by simpa using h)
          · exact .inr (by omega)
        · rcases hb8 b hb with h | h
          · rcases hv4 b h with h | h
            · exact .inl h
            · exact .inr (by omega)
          · right; have := K4.size; rw [h]; simp; omega
end Go.Proofs.Ytmafgamacijdaaa
