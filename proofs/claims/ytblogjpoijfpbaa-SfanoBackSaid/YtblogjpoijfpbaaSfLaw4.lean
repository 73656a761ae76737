/- The walk of the law SfanoFree: it returns true at every input. -/
import Derived.Test.YtblogjpoijfpbaaSfLaw2
import Derived.BigRegion
namespace Go.Proofs.Ytblogjpoijfpbaa
set_option linter.unusedVariables false
set_option linter.unusedSimpArgs false
open Go.ChangeShapes Go.WideShapes Go.ChangeAt Go.RowKit

theorem mask6 (x n : Nat) (hx : x < 4294967296) (hn : n ≤ 16) : ∃ P : Nat, (2 : Int) ^ n % 4294967296 = P ∧ 1 ≤ P ∧ P ≤ 65536 ∧ Go.bits .and .u32 (x : Int) ((P : Int) - 1) = ((x % 2 ^ n : Nat) : Int) := by
  have h2 : 2 ^ n ≤ 2 ^ 16 := Nat.pow_le_pow_right (by decide) hn
  have h3 : 0 < 2 ^ n := Nat.two_pow_pos n
  refine ⟨2 ^ n, ?_, h3, h2, ?_⟩
  · rw [show ((2 : Int) ^ n) = ((2 ^ n : Nat) : Int) by simp]
    generalize 2 ^ n = q at h2 h3
    omega
  · rw [show (((2 ^ n : Nat) : Int) - 1) = ((2 ^ n - 1 : Nat) : Int) by omega, u32_and_nat _ _ hx (by omega), Nat.and_two_pow_sub_one_eq_mod]
theorem sfree_ne (L : List Nat) (i k : Nat) (hi : i < L.length) (hk : k < L.length) (h16 : ∀ k, k < L.length → len L k ≤ 16) (hf : tot16 L = 65536) (hne : i ≠ k) (hle : len L i ≤ len L k) : scode L k % 2 ^ len L i ≠ scode L i := by
  intro e
  have h1 := (shit_bits L (scode L k) i hi h16 hf).1 e
  have h2 := (shit_bits L (scode L k) k hk h16 hf).1 (Nat.mod_eq_of_lt (scode_lt L k))
  exact hne (shit_unique L _ i k h16 hf h1 h2)
theorem scode_lt16 (L : List Nat) (k : Nat) (h : len L k ≤ 16) : scode L k < 65536 :=
  Nat.lt_of_lt_of_le (scode_lt L k) (Nat.pow_le_pow_right (n := 2) (j := 16) (by decide) h)
theorem scode_turn (L : List Nat) (k : Nat) (hk : k < L.length) (h16 : ∀ k, k < L.length → len L k ≤ 16) (hf : tot16 L = 65536) : turn (scode L k) (len L k) = sw L k := by
  rw [turn_code6 _ _ (h16 k hk)]
  unfold scode
  rw [tr_tr, Nat.mod_eq_of_lt (sw_lt L k hk h16 hf)]
theorem sw_ah (L : List Nat) (i : Nat) (hi : i < L.length) (h16 : ∀ k, k < L.length → len L k ≤ 16) (hf : tot16 L = 65536) : sw L i * wd16 L i = ah L i := by
  unfold sw
  exact Nat.div_mul_cancel (ah_dvd L i hi h16 hf)
theorem sw_less (L : List Nat) (i k : Nat) (hi : i < L.length) (hk : k < L.length) (h16 : ∀ k, k < L.length → len L k ≤ 16) (hf : tot16 L = 65536) (h : len L i < len L k) : sw L k / 2 ^ (len L k - len L i) < sw L i := by
  have h1 := ah_lt L i k hk ((ahd_iff L i k).2 (.inl h))
  have h2 := sw_ah L i hi h16 hf
  have hp := wd16_pos L k
  have e : wd16 L i = wd16 L k * 2 ^ (len L k - len L i) := by
    unfold wd16; rw [← Nat.pow_add]; congr 1; have := h16 k hk; omega
  unfold sw at h2 ⊢
  rw [Nat.div_div_eq_div_mul, ← e, Nat.div_lt_iff_lt_mul (wd16_pos L i), h2]
  omega
theorem sw_even (L : List Nat) (i k : Nat) (hi : i < L.length) (hk : k < L.length) (h16 : ∀ k, k < L.length → len L k ≤ 16) (hf : tot16 L = 65536) (hne : i ≠ k) (h : len L i = len L k) : sw L k < sw L i ↔ i < k := by
  have g1 := sw_ah L i hi h16 hf
  have g2 := sw_ah L k hk h16 hf
  have hp := wd16_pos L k
  have e : wd16 L i = wd16 L k := by unfold wd16; rw [h]
  rw [e] at g1
  have mul : ∀ a b, a < b → a * wd16 L k + wd16 L k ≤ b * wd16 L k := fun a b hab => by
    have := Nat.mul_le_mul_right (wd16 L k) (show a + 1 ≤ b from hab)
    rwa [Nat.add_mul, Nat.one_mul] at this
  constructor
  · intro hlt
    rcases Nat.lt_or_ge i k with h1 | h1
    · exact h1
    · have h2 := ah_lt L k i hi ((ahd_iff L k i).2 (.inr ⟨h, by omega⟩))
      have := mul _ _ hlt
      omega
  · intro hik
    have h2 := ah_lt L i k hk ((ahd_iff L i k).2 (.inr ⟨h.symm, hik⟩))
    rcases Nat.lt_or_ge (sw L k) (sw L i) with h3 | h3
    · exact h3
    · have := Nat.mul_le_mul_right (wd16 L k) h3
      omega
theorem two_old (w : World) (A B : Array Value) (tA tB : TypeId) : Blk ((w.alloc (.cells A tA)).alloc (.cells B tB)).drew w.heap.size A tA := ((Blk.new w A tA).alloc _).keep ((Keep.refl [] _).drew) (by simp)
theorem two_new (w : World) (A B : Array Value) (tA tB : TypeId) : Blk ((w.alloc (.cells A tA)).alloc (.cells B tB)).drew (w.heap.size + 1) B tB := by
  have := (Blk.new (w.alloc (.cells A tA)) B tB).keep ((Keep.refl [] _).drew) (by simp)
  simpa using this
set_option maxRecDepth 100000 in
set_option maxHeartbeats 8000000 in
theorem sfree_w (W : World) (v0 : Value) (zs0 : List Int) (h0 : Is .i64 W v0 zs0) : Calls Try.prog 7 #[v0] W fun e w' => e = .returned (.bool true) ∧ Keep [] W w' := by
  go_enter Try.func7, Try.ntmps7
  go_wp2_with fail
  refine (refints_c W v0 zs0 80 (by omega) h0).mono ?_; rintro e w1 ⟨va, rfl, ha, _, rfl⟩
  generalize zs0.take 80 = zs at ha
  clear h0
  go_wp2_with fail
  refine (sf_codes W va zs ha).mono ?_; rintro e w2 ⟨cv, rfl, hcd, k2, _, hnil⟩
  by_cases hw : schk zs = 0
  · obtain ⟨hm, hf⟩ := schk_ok hw
    have hLw : Ls zs = Ln zs := by unfold Ls; rw [if_pos hw]
    rw [hLw] at hcd
    rw [hw]
    have HG := Lib.hid (fun i hi => mayS_get hm i hi)
    have hN := Ln_length zs
    have h16 : ∀ k, k < (Ln zs).length → len (Ln zs) k ≤ 16 := fun k hk => (mayS_get hm k (by omega)).2.2
    generalize Ln zs = L at hcd HG hf hN h16
    have HF := Lib.hid (fun i k hi hk => sfree_ne L i k hi hk h16 hf)
    have HSL := Lib.hid (fun i k hi hk => sw_less L i k hi hk h16 hf)
    have HSE := Lib.hid (fun i k hi hk => sw_even L i k hi hk h16 hf)
    have HTU := Lib.hid (fun w k hk => turnref_c (scode L k) (len L k) w (Nat.lt_trans (scode_lt16 L k (h16 k hk)) (by decide)))
    have HST := Lib.hid (fun k hk => scode_turn L k hk h16 hf)
    have HSW := Lib.hid (fun k hk => Nat.lt_of_lt_of_le (sw_lt L k hk h16 hf) (Nat.pow_le_pow_right (n := 2) (j := 16) (by decide) (h16 k hk)))
    have HA : Hid (∀ w' (k : Keep [] W w') i (hi : i < L.length), 1 ≤ len L i ∧ len L i ≤ 16 ∧ ∃ b off cap, va = .slice (some ⟨b, off, none⟩) L.length cap ∧ w'.cell? ⟨b, off + i, none⟩ = some (.int .i64 (len L i))) := by
      intro w' k i hi
      obtain ⟨g1, g2, g3⟩ := HG.out i (by omega)
      refine ⟨g2, g3, ?_⟩
      rw [← g1, hN]
      exact (ha.keep k (by simp)).at i (by omega)
    have HC := Lib.hid (fun w' (k : Keep [] w2 w') i hi => (hcd.keep k (by simp)).at i hi)
    obtain ⟨a, cap, rfl, hm'⟩ := hcd.shape
    obtain ⟨a0, cap0, rfl, _⟩ := ha.sh
    rw [← hN]
    clear hcd ha hm hLw hw hnil hN HG hf h16
    go_wp2_with fail
    go_loopw [5] (fun i wr => ∃ k : Nat, k ≤ L.length ∧ i = .int .i64 k ∧ Keep [] w2 wr) (fun i _ => L.length - (intOf i).toNat)
    case atStart => exact ⟨0, by omega, rfl, Keep.refl _ _⟩
    case round =>
      obtain ⟨i, hi, rfl, kr⟩ := hrel
      by_cases hlt : i < L.length
      · go_wp2_with fail
        go_loopw [6] (fun m w4 => ∃ k : Nat, k ≤ L.length ∧ m = .int .i64 k ∧ Keep [] w2 w4) (fun m _ => L.length - (intOf m).toNat)
        case atStart => exact ⟨0, by omega, rfl, kr⟩
        case round =>
          clear kr
          obtain ⟨k, hk, rfl, k4⟩ := hrel
          by_cases hltk : k < L.length
          · obtain ⟨b, off, cap1, hv, e0, e1⟩ := HC.out _ k4 i hlt
            simp only [Value.slice.injEq] at hv
            obtain ⟨h1, hv2, rfl⟩ := hv
            clear hv2
            subst h1
            obtain ⟨b1, off1, cap2, hv, f0, f1⟩ := HC.out _ k4 k hltk
            simp only [Value.slice.injEq] at hv
            obtain ⟨h1, hv2, rfl⟩ := hv
            clear hv2
            injection h1 with h1
            injection h1 with h2 h3 _
            subst h2 h3
            obtain ⟨g1, g2, b2, off2, cap3, hv, d0⟩ := HA.out _ (k2.trans k4 (by simp)) i hlt
            simp only [Value.slice.injEq] at hv
            obtain ⟨h1, hv2, rfl⟩ := hv
            clear hv2
            subst h1
            have gk := (HA.out _ (k2.trans k4 (by simp)) k hltk).2.1
            have hcx := scode_lt16 L k gk
            have HFF := Lib.hid (HF.out i k hlt hltk)
            have HLL := Lib.hid (HSL.out i k hlt hltk)
            have HEE := Lib.hid (HSE.out i k hlt hltk)
            have HTi := Lib.hid (fun w => HTU.out w i hlt)
            have HTk := Lib.hid (fun w => HTU.out w k hltk)
            rw [HST.out i hlt] at HTi
            rw [HST.out k hltk] at HTk
            have hsi := HSW.out i hlt
            have hsk := HSW.out k hltk
            obtain ⟨P, hP, hP1, hP2, hmk⟩ := mask6 (scode L k) (len L i) (by omega) g2
            have HE : Hid (i ≠ k → len L i ≤ len L k → (((scode L k % 2 ^ len L i : Nat) : Int) == (scode L i : Nat)) = false) := by
              intro a1 a3
              have := HFF.out a1 a3
              simp only [beq_eq_false_iff_ne, ne_eq]; intro e; exact this (Int.ofNat.inj e)
            clear HFF
            generalize scode L k % 2 ^ len L i = xm at hmk HE
            generalize scode L i = ci at *
            generalize scode L k = ck at *
            generalize sw L i = si at *
            generalize sw L k = sk at *
            generalize len L i = li at *
            generalize len L k = lk at *
            have kA : ∀ o, Keep [] wr (wr.alloc o) := fun o => (Keep.refl [] wr).alloc o
            have kB : ∀ o o', Keep [] wr ((wr.alloc o).alloc o') := fun o o' => (kA o).alloc o'
            have e0A := fun o => (kA o).cellW e0
            have e1A := fun o => (kA o).cellW e1
            have f0A := fun o => (kA o).cellW f0
            have f1A := fun o => (kA o).cellW f1
            have e0B := fun o o' => (kB o o').cellW e0
            have e1B := fun o o' => (kB o o').cellW e1
            have f0B := fun o o' => (kB o o').cellW f0
            have f1B := fun o o' => (kB o o').cellW f1
            clear kA kB
            go_upto_region 11 with fail
            go_cut [7, 8] (fun pa pb wx => ∃ qa qb, pa = .pointer (some ⟨qa, 0, none⟩) ∧ pb = .pointer (some ⟨qb, 0, none⟩) ∧ Blk wx qa #[.int .u32 ci, .int .i64 li] 61 ∧ Blk wx qb #[.int .u32 ck, .int .i64 lk] 61 ∧ Keep [] wr wx)
            case first =>
              go_region
              all_goals
                go_wp2_with fail
                go_meet
                exact ⟨_, _, rfl, rfl, (by first | exact two_new _ _ _ _ _ | exact two_old _ _ _ _ _), (by first | exact two_new _ _ _ _ _ | exact two_old _ _ _ _ _), (((Keep.refl [] _).alloc _).alloc _).drew⟩
            case rest =>
              obtain ⟨qa, qb, rfl, rfl, A, B, KC⟩ := hcut
              have KW := k4.trans KC (by simp)
              have d1 := KC.cellW d0
              have a0 := A.cell 0 _ rfl
              have a1 := A.cell 1 _ rfl
              have b0 := B.cell 0 _ rfl
              have b1 := B.cell 1 _ rfl
              clear e0A e1A f0A f1A e0B e1B f0B f1B e0 e1 f0 f1 d0 A B KC k4
              by_cases hik : i = k
              · have t1 : ((i : Int) == k) = true := by simp; omega
                clear HE hmk HLL HEE
                go_wp2_with fail
                go_roundw
                case rel => exact ⟨k + 1, by omega, by go_num, KW⟩
                case measure => simp [intOf]; omega
              have t1 : ((i : Int) == k) = false := by simp; omega
              by_cases hll : li ≤ lk
              · have t4 := HE.out hik hll
                have t3 : decide ((lk : Int) < li) = false := by simp; omega
                have hne : ((li : Int) != li) = false := by simp
                clear HE
                go_upto_region 13 with fail
                go_quiet (fail)
                go_upto_region 15 with fail
                have K5 := KW.drewN nq
                have x1 := ((Keep.refl [] wc).drewN nq).cellW a1
                have y1 := ((Keep.refl [] wc).drewN nq).cellW b1
                have x0 := ((Keep.refl [] wc).drewN nq).cellW a0
                have y0 := ((Keep.refl [] wc).drewN nq).cellW b0
                generalize wc.drewN nq = w5 at K5 x0 x1 y0 y1 ⊢
                clear a0 a1 b0 b1 KW d1
                go_quiet (first | (go_at_call 30; with_reducible exact quiet_left (HTi.out _)) | (go_at_call 30; with_reducible exact quiet_left (HTk.out _)))
                have K6 := K5.drewN nq
                have x2 := ((Keep.refl [] w5).drewN nq).cellW x1
                have y2 := ((Keep.refl [] w5).drewN nq).cellW y1
                generalize w5.drewN nq = w6 at K6 x2 y2 ⊢
                clear x0 x1 y0 y1 K5
                by_cases hlt2 : li < lk
                · have hq := HLL.out hlt2
                  have l1 : decide ((li : Int) < lk) = true := by simp; omega
                  have l2 : ((li : Int) == lk) = false := by simp; omega
                  have hdv : (sk : Int) / 2 ^ (lk - li) = ((sk / 2 ^ (lk - li) : Nat) : Int) := by simp
                  have hle : lk - li ≤ 16 := by omega
                  have hsub : (lk : Int) - li = ((lk - li : Nat) : Int) := by omega
                  generalize sk / 2 ^ (lk - li) = Q at *
                  have l3 : decide ((si : Int) ≤ Q) = false := by simp; omega
                  generalize hs : lk - li = sh at *
                  clear HLL HEE hmk hs
                  go_wp2_with fail
                  go_roundw
                  case rel => exact ⟨k + 1, by omega, by go_num, K6⟩
                  case measure => simp [intOf]; omega
                · obtain rfl : li = lk := by omega
                  have l1 : decide ((li : Int) < li) = false := by simp
                  have l2 : ((li : Int) == li) = true := by simp
                  have he := HEE.out hik rfl
                  clear HLL HEE hmk
                  by_cases hik2 : i < k
                  · have q1 : decide ((sk : Int) < si) = true := by have := he.2 hik2; simp; omega
                    have q2 : decide ((i : Int) < k) = true := by simp; omega
                    have q3 : decide (sk < si) = true := by simpa using he.2 hik2
                    have q4 : decide (i < k) = true := by simpa using hik2
                    clear he hik2
                    go_wp2_with fail
                    refine ⟨⟨k + 1, by omega, by go_num, K6⟩, ?_⟩
                    simp [intOf]; omega
                  · have q1 : decide ((sk : Int) < si) = false := by
                      have : ¬ sk < si := fun h => hik2 (he.1 h)
                      simp; omega
                    have q2 : decide ((i : Int) < k) = false := by simp; omega
                    have q3 : decide (sk < si) = false := by rw [decide_eq_false_iff_not]; exact fun h => hik2 (he.1 h)
                    have q4 : decide (i < k) = false := by rw [decide_eq_false_iff_not]; exact hik2
                    clear he hik2
                    go_wp2_with fail
                    refine ⟨⟨k + 1, by omega, by go_num, K6⟩, ?_⟩
                    simp [intOf]; omega
              · have t3 : decide ((lk : Int) < li) = true := by simp; omega
                clear HE hmk HLL HEE
                go_wp2_with fail
                go_roundw
                case rel => exact ⟨k + 1, by omega, by go_num, KW⟩
                case measure => simp [intOf]; omega
          · obtain rfl : k = L.length := by omega
            go_wp2_with fail
            go_roundw
            case rel => exact ⟨i + 1, by omega, by go_num, k4⟩
            case measure => simp [intOf]; omega
      · obtain rfl : i = L.length := by omega
        go_wp2_with fail
        refine (lives6_c _).mono ?_; rintro e w12 ⟨rfl, k12⟩
        go_wp2_with fail
        go_ret
        exact ⟨rfl, (k2.trans kr (by simp)).trans k12 (by simp)⟩
  · obtain rfl := hnil hw
    have hb : (((schk zs : Nat) : Int) != 0) = true := by simp; omega
    clear hcd hnil
    generalize schk zs = er at hb ⊢
    go_wp2_with fail
    refine (lives6_c _).mono ?_; rintro e w12 ⟨rfl, k12⟩
    go_wp2_with fail
    go_ret
    exact ⟨rfl, k2.trans k12 (by simp)⟩
end Go.Proofs.Ytblogjpoijfpbaa
