/- The walk of the law HistRoom: it returns true at every input. -/
import Derived.Test.YtciifhhjhmlnjaaHstLaw2
import Derived.Test.YtciifhhjhmlnjaaHstOpen
namespace Go.Proofs.Ytciifhhjhmlnjaa
set_option linter.unusedVariables false
set_option linter.unusedSimpArgs false
open Go.ChangeShapes Go.WideShapes Go.ChangeAt Go.RowKit

/-- what a call's answer says of the lengths -/
def Told (er : Nat) (D N : Int) (b b' : Nat) : Prop := (er ≠ 0 ∧ b' = b) ∨ (er = 0 ∧ D = 0 ∧ b' = b + 1) ∨ (er = 0 ∧ D ≠ 0 ∧ (b' : Int) - b = N)
theorem told_lit (s : HS) (c : UInt8) (N : Int) : Told (s.lit c).1 0 N s.b.length (s.lit c).2.b.length := by
  unfold HS.lit Told
  by_cases e : s.most ≤ s.b.length
  · rw [if_pos e]; exact .inl ⟨by simp, rfl⟩
  · rw [if_neg e]; exact .inr (.inl ⟨rfl, rfl, by simp⟩)
theorem told_copy (s : HS) (d n : Int) (hd : d ≠ 0) : Told (s.copy d n).1 d n s.b.length (s.copy d n).2.b.length := by
  unfold HS.copy Told
  by_cases e1 : d < 1 ∨ n < 0
  · rw [if_pos e1]; exact .inl ⟨by simp, rfl⟩
  rw [if_neg e1]
  by_cases e2 : (s.win : Int) < d ∨ ((s.b.length : Int) < d ∧ s.nou = false)
  · rw [if_pos e2]; exact .inl ⟨by simp, rfl⟩
  rw [if_neg e2]
  by_cases e3 : (s.most : Int) - s.b.length < n
  · rw [if_pos e3]; exact .inl ⟨by simp, rfl⟩
  rw [if_neg e3]
  exact .inr (.inr ⟨rfl, hd, by simp only [cpy_len]; omega⟩)
set_option maxRecDepth 100000 in
set_option maxHeartbeats 4000000 in
theorem hroom_w (W : World) (win : Int) (hwin : (Lit.int .i64 win).wf = true) (most : Int) (hmost : (Lit.int .i64 most).wf = true) (nou : Bool) (v0 : Value) (x : DoL) (h0 : isDos W v0 x) : Calls Try.prog 6 #[.int .i64 win, .int .i64 most, .bool nou, v0] W fun e w' => e = .returned (.bool true) ∧ Keep [] W w' := by
  obtain ⟨hn, a0, cap0, rfl, h0⟩ := h0
  go_enter Try.func6, Try.ntmps6
  go_wp2_with fail
  refine (within_c win 1 300 _ (by omega)).mono ?_; rintro e w3 ⟨rfl, rfl⟩
  go_wp2_with fail
  refine (within_c most 0 300 _ (by omega)).mono ?_; rintro e w3 ⟨rfl, rfl⟩
  obtain ⟨A, hA⟩ : ∃ A : Nat, max 1 (min win (300 : Int)) = A := ⟨(max 1 (min win (300 : Int))).toNat, by omega⟩
  obtain ⟨M, hM⟩ : ∃ M : Nat, max 0 (min most (300 : Int)) = M := ⟨(max 0 (min most (300 : Int))).toNat, by omega⟩
  have hA1 : 1 ≤ A := by omega
  have hA2 : A ≤ 300 := by omega
  have hM2 : M ≤ 300 := by omega
  rw [hA, hM]
  clear hA hM hwin hmost
  have HNW := Lib.hid (hs_new W A M nou (by omega) (by omega))
  go_wp2_with fail
  refine HNW.out.mono ?_; rintro e w1 ⟨p, er, rfl, k1, _, hok⟩
  obtain ⟨rfl, q, bs, rfl, hq, hbs⟩ := hok (by unfold hsBad; omega)
  have hq0 : Ho w1 q bs ⟨A, M, nou, []⟩ := hq
  clear hok HNW hq
  have H0 := Lib.hid h0
  clear h0
  go_wp2_with fail
  go_loopw [11] (fun i wr => ∃ (k : Nat) (bs : List Nat) (s : HS), k ≤ x.n ∧ k ≤ 60 ∧ i = .int .i64 k ∧ Ho wr q bs s ∧ s.most = M ∧ Keep [] W wr ∧ Hid (∀ b ∈ bs, W.heap.size ≤ b)) (fun i _ => 60 - (intOf i).toNat)
  case atStart => exact ⟨0, bs, _, by omega, by omega, rfl, hq0, rfl, k1, hbs⟩
  case round =>
    clear hq0 k1 hbs
    obtain ⟨k, bs, s, hk, hk2, rfl, hq, hsm, K, HB⟩ := hrel
    obtain ⟨hsl, _, _, _⟩ := hq.ok
    rw [hsm] at hsl
    by_cases hlt : k < x.n
    · by_cases hlt2 : k < 60
      · obtain ⟨b, off, rfl, hb, hc⟩ := H0.out (by omega)
        obtain ⟨c1, c2, c3, d1, d2⟩ := hc k hlt
        generalize x.C k = c at *
        generalize x.D k = D at *
        generalize x.N k = N at *
        clear hc
        have HC := Lib.hid (fun w' (j : Keep [] W w') => (⟨j.cellW c1, j.cellW c2, j.cellW c3⟩ : w'.cell? ⟨b, off + k * 3, none⟩ = some (.int .u8 (c.toNat)) ∧ w'.cell? ⟨b, off + k * 3 + 1, none⟩ = some (.int .i64 D) ∧ w'.cell? ⟨b, off + k * 3 + 2, none⟩ = some (.int .i64 N)))
        clear c1 c2 c3
        go_wp2_with fail
        refine (hs_bytes wr q bs _ hq (by omega)).mono ?_; rintro e w2 ⟨va, rfl, hva, k2, hfr⟩
        have hq2 := hq.keep k2 (by simp)
        have K2 := K.trans k2 (by simp)
        have hqlt := hq2.lt
        have HSL : Hid (∀ w' S, Keep S w2 w' → (∀ b ∈ S, b ∈ bs) → Bs w' va s.b) := fun w' S j hS => hva.bs.keep j (fun y hy hy' => by
          have := hfr y hy; have := hq.lt y (hS y hy'); omega)
        obtain ⟨aa, la, ca, rfl⟩ := hva.shape
        obtain rfl : la = s.b.length := by obtain ⟨_, _, e, _⟩ := hva.bs; simp only [Value.slice.injEq] at e; exact e.2.1
        clear hq k2 hva K hfr hqlt
        obtain ⟨c1, c2, c3⟩ := HC.out w2 K2
        go_upto_if 44 with fail
        go_cut [10] (fun ev wx => ∃ (er : Nat) (bs' : List Nat) (s' : HS), ev = .int .i64 er ∧ Ho wx q bs' s' ∧ Keep [] W wx ∧ Hid (∀ b ∈ bs', W.heap.size ≤ b) ∧ Hid (Bs wx (.slice aa s.b.length ca) s.b) ∧ s'.most = M ∧ s'.b.take s.b.length = s.b ∧ Told er D N s.b.length s'.b.length)
        case first =>
          by_cases hD : D = 0
          · subst hD
            have HL := Lib.hid (hs_lit w2 q bs s c hq2 (by omega))
            go_wp2_with fail
            refine HL.out.mono ?_; rintro e w4 ⟨rfl, hs⟩
            obtain ⟨bs4, hq4, K4, hb4, k4, _⟩ := hs.step K2 HB.out
            have hT := told_lit s c N
            have hLn := s.lit_len c (by omega)
            have hBs := Lib.hid (HSL.out w4 _ k4 (fun _ h => h))
            generalize s.lit c = r at *
            obtain ⟨er, s'⟩ := r
            simp only at hT hLn hq4
            clear hs HL c1 c2 c3
            go_wp2_with fail
            go_meet
            exact ⟨er, bs4, s', rfl, hq4, K4, hb4, hBs, by rw [hLn.2.2.1]; exact hsm, hLn.2.2.2.2.2, hT⟩
          · have hD2 : (D == 0) = false := by rw [beq_eq_false_iff_ne]; exact hD
            have hlo : ((s.b.length : Int) + (if (s.most : Int) - s.b.length < N then 0 else max 0 N)) ≤ 140737488350000 := by
              split <;> omega
            have HL := Lib.hid (fun n => hs_copy (w2.drewN n) q bs s D N (hq2.drewN n) d1 d2 hlo)
            go_wp2_with fail
            go_still_tail 11, (by kernel_rfl)
            change wpList _ _ _ _ _ (w2.drewN 1)
            have HL1 := Lib.hid (HL.out 1)
            have K3 := K2.drewN 1
            have HSL1 : Hid (∀ w' S, Keep S (w2.drewN 1) w' → (∀ b ∈ S, b ∈ bs) → Bs w' (.slice aa s.b.length ca) s.b) := fun w' S j hS => HSL.out w' S (((Keep.refl S w2).drewN 1).trans j (fun _ h => .inl h)) hS
            obtain ⟨c1, c2, c3⟩ := HC.out _ K3
            generalize w2.drewN 1 = w3 at HL1 K3 HSL1 c1 c2 c3 ⊢
            clear hlo HL
            go_wp2_with fail
            refine HL1.out.mono ?_; rintro e w4 ⟨rfl, hs⟩
            obtain ⟨bs4, hq4, K4, hb4, k4, _⟩ := hs.step K3 HB.out
            have hT := told_copy s D N hD
            have hLn := s.copy_len D N (by omega)
            have hBs := Lib.hid (HSL1.out w4 _ k4 (fun _ h => h))
            generalize s.copy D N = r at *
            obtain ⟨er, s'⟩ := r
            simp only at hT hLn hq4
            clear hs HL1 c1 c2 c3
            go_wp2_with fail
            go_meet
            exact ⟨er, bs4, s', rfl, hq4, K4, hb4, hBs, by rw [hLn.2.2.1]; exact hsm, hLn.2.2.2.2.2, hT⟩
        case rest =>
          obtain ⟨er, bs4, s', rfl, hq4, K4, HB4, HBs, hsm4, htk, hT⟩ := hcut
          clear hq2 K2 HSL c1 c2 c3
          have hl4 : s'.b.length ≤ M := by have := hq4.ok.1; omega
          have hge : s.b.length ≤ s'.b.length := by have := congrArg List.length htk; rw [List.length_take] at this; omega
          go_wp2_with fail
          refine (hs_bytes wc q bs4 _ hq4 (by omega)).mono ?_; rintro e w5 ⟨vn, rfl, hvn, k5, _⟩
          have hq5 := hq4.keep k5 (by simp)
          have K5 := K4.trans k5 (by simp)
          have hB5 := HBs.out.keep k5 (by simp)
          have hN5 := hvn.bs
          clear hq4 k5 hvn K4 HBs
          obtain ⟨an, cn, rfl, hcn, _⟩ := hN5.shape
          have hpre := hN5.pre s.b.length hge
          have hsame := same_c w5 _ _ _ _ hpre hB5
          rw [htk, decide_eq_true rfl] at hsame
          have HSM := Lib.hid hsame
          have HT := Lib.hid hT
          have HTK := Lib.hid htk
          clear hsame hpre hN5 hB5 hT htk
          obtain ⟨c1, c2, c3⟩ := HC.out w5 K5
          go_wp2_with fail
          refine HSM.out.mono ?_; rintro e w6 ⟨rfl, n6, rfl⟩
          have hq6 := hq5.drewN n6
          have K6 := K5.drewN n6
          obtain ⟨c1, c2, c3⟩ := HC.out _ K6
          generalize w5.drewN n6 = w6 at hq6 K6 c1 c2 c3 ⊢
          clear hq5 K5 HSM
          rcases HT.out with ⟨h1, h2⟩ | ⟨h1, h2, h3⟩ | ⟨h1, h2, h3⟩
          · have g1 : ((er : Int) == 0) = false := by rw [beq_eq_false_iff_ne]; omega
            have g1' : ¬ er = 0 := h1
            clear h1
            generalize s'.b.length = L at *
            subst h2
            go_wp2_with fail
            go_roundw
            case rel => exact ⟨k + 1, bs4, s', by omega, by omega, by go_num, hq6, hsm4, K6, HB4⟩
            case measure => simp [intOf]; omega
          · subst h1
            generalize s'.b.length = L at *
            subst h2 h3
            go_wp2_with fail
            go_roundw
            case rel => exact ⟨k + 1, bs4, s', by omega, by omega, by go_num, hq6, hsm4, K6, HB4⟩
            case measure => simp [intOf]; omega
          · subst h1
            have g1 : (D == 0) = false := by rw [beq_eq_false_iff_ne]; exact h2
            have hw1 : IntKind.i64.wrap ((s'.b.length : Int) - s.b.length) = N := by rw [← h3, IntKind.wrap_i64]; omega
            clear h3
            go_wp2_with fail
            go_roundw
            case rel => exact ⟨k + 1, bs4, s', by omega, by omega, by go_num, hq6, hsm4, K6, HB4⟩
            case measure => simp [intOf]; omega
      · obtain rfl : k = 60 := by omega
        go_wp2_with fail
        refine (lives7_c _).mono ?_; rintro e w8 ⟨rfl, k8⟩
        go_wp2_with fail
        go_ret
        exact ⟨rfl, K.trans k8 (by simp)⟩
    · obtain rfl : k = x.n := by omega
      go_wp2_with fail
      refine (lives7_c _).mono ?_; rintro e w8 ⟨rfl, k8⟩
      go_wp2_with fail
      go_ret
      exact ⟨rfl, K.trans k8 (by simp)⟩
end Go.Proofs.Ytciifhhjhmlnjaa
