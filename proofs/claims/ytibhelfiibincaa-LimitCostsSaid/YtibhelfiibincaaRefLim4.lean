/- The document's search, Best. -/
import Derived.Test.YtibhelfiibincaaRefLim3
namespace Go.Proofs.Ytibhelfiibincaa
set_option linter.unusedVariables false
set_option linter.unusedSimpArgs false
open Go.ChangeShapes Go.WideShapes Go.ChangeAt Go.RowKit

theorem sum_bound (g : Nat → Nat) (B n : Nat) (h : ∀ i, i < n → g i ≤ B) : sm g n ≤ B * n := by
  have := sm_le g (fun _ => B) n h
  rwa [sm_const] at this
set_option maxRecDepth 100000 in
set_option maxHeartbeats 1600000 in
theorem refbest_c (gs : List Int) (v : Value) (hN : gs.length ≤ 9) (hg : okF gs = true) : ∀ (d p room len so M : Nat) (w : World), M + 1 = len + d → p ≤ gs.length → 1 ≤ len → M ≤ 6 → room ≤ 2 ^ len → so ≤ p * 8796093022208 → Is .i64 w v gs →
    Calls Try.prog 17 #[v, .int .i64 p, .int .i64 len, .int .i64 M, .int .i64 room, .int .i64 so] w fun e w' => e = .returned (.int .i64 (bst (fn gs) gs.length d p room len so)) ∧ ∃ n, w' = w.drewN n := by
  intro d
  induction d with
  | zero =>
    intro p room len so M w hM hp hlen hM6 hroom hso h
    obtain ⟨a, cap, rfl, _⟩ := h.sh
    clear h
    have hw : IntKind.i64.wrap ((gs.length : Int) - p) = ((gs.length - p : Nat) : Int) := by rw [IntKind.wrap_i64]; omega
    rw [bst]
    by_cases e : p = gs.length
    · rw [if_pos e]
      have he : ((gs.length - p : Nat) : Int) = 0 := by omega
      rw [he] at hw
      go_enter Try.func17, Try.ntmps17
      go_wp2_with fail
      go_ret
      exact ⟨rfl, 0, rfl⟩
    · rw [if_neg e]
      have hpos : 0 < gs.length - p := by omega
      generalize gs.length - p = left at *
      have hgt : (M : Int) < len := by omega
      go_enter Try.func17, Try.ntmps17
      go_wp2_with fail
      go_ret
      exact ⟨rfl, 0, rfl⟩
  | succ d ih =>
    intro p room len so M w hM hp hlen hM6 hroom hso h
    have HIH := Lib.hid (fun n x (hn : p + n ≤ gs.length) (hr : n ≤ room) (hs : so + x ≤ (p + n) * 8796093022208) m => ih (p + n) ((room - n) * 2) (len + 1) (so + x) M (w.drewN m) (by omega) hn (by omega) hM6 (by rw [Nat.pow_succ]; omega) hs (h.drewN' m))
    have HI : Hid (∀ i, i < gs.length → ∃ b off cap, v = .slice (some ⟨b, off, none⟩) gs.length cap ∧ w.cell? ⟨b, off + i, none⟩ = some (.int .i64 (fn gs i : Nat))) := by
      intro i hi
      obtain ⟨b, off, cap, h1, h2⟩ := h.at i hi
      exact ⟨b, off, cap, h1, by rw [h2, (okF_get hg i hi).1]⟩
    have hr128 : room ≤ 64 := Nat.le_trans hroom (Nat.pow_le_pow_right (n := 2) (j := 6) (by decide) (by omega))
    have HFB := Lib.hid (fun i hi => (okF_get hg i hi).2)
    obtain ⟨a, cap, rfl, _⟩ := h.sh
    clear h ih
    have hw : IntKind.i64.wrap ((gs.length : Int) - p) = ((gs.length - p : Nat) : Int) := by rw [IntKind.wrap_i64]; omega
    rw [bst]
    by_cases e : p = gs.length
    · rw [if_pos e]
      have he : ((gs.length - p : Nat) : Int) = 0 := by omega
      rw [he] at hw
      clear HIH HI HFB hroom
      go_enter Try.func17, Try.ntmps17
      go_wp2_with fail
      go_ret
      exact ⟨rfl, 0, rfl⟩
    rw [if_neg e]
    have hpos : 0 < gs.length - p := by omega
    obtain ⟨left, hleft⟩ : ∃ left, gs.length = p + left := ⟨gs.length - p, by omega⟩
    have hle : ¬ (M : Int) < len := by omega
    have hd : M - len = d := by omega
    have hwd : IntKind.i64.wrap ((M : Int) - len) = (d : Int) := by rw [IntKind.wrap_i64]; omega
    rw [show gs.length - p = left by omega] at hw hpos ⊢
    have HLEFT := Lib.hid hleft
    have hpl : p + left ≤ 9 := by omega
    have hlp : (p : Int) ≤ gs.length := by omega
    have hso2 : so ≤ 79164837199872 := by omega
    have HS0 : Hid (len * sm (fun i => fn gs (p + i)) 0 = 0) := by simp [Hid, sm]
    have HSS : Hid (∀ j, len * sm (fun i => fn gs (p + i)) (j + 1) = len * sm (fun i => fn gs (p + i)) j + fn gs (p + j) * len) := by
      intro j; rw [sm, Nat.mul_add, Nat.mul_comm (fn gs (p + j))]
    have HSB : Hid (∀ n, n ≤ left → len * sm (fun i => fn gs (p + i)) n ≤ n * 8796093022208) := by
      intro n hn
      have h1 := sum_bound (fun i => fn gs (p + i)) 1099511627776 n (fun i hi => HFB.out _ (by have := HLEFT.out; omega))
      have h2 := Nat.mul_le_mul (show len ≤ 7 by omega) h1
      rw [Nat.mul_comm n]
      refine Nat.le_trans h2 ?_
      rw [← Nat.mul_assoc]
      exact Nat.mul_le_mul_right _ (by decide)
    have HF : Hid (∀ n, n ≤ left → n ≤ room → ∀ m, Calls Try.prog 17 #[.slice a gs.length cap, .int .i64 ((p : Int) + n), .int .i64 ((len : Int) + 1), .int .i64 M, .int .i64 (((room : Int) - n) * 2), .int .i64 ((so : Int) + ((len * sm (fun i => fn gs (p + i)) n : Nat) : Int))] (w.drewN m) fun e w' => e = .returned (.int .i64 (bst (fn gs) gs.length d (p + n) ((room - n) * 2) (len + 1) (so + len * sm (fun i => fn gs (p + i)) n))) ∧ ∃ n, w' = (w.drewN m).drewN n) := by
      intro n h1 h2 m
      have h3 := HSB.out n h1
      have h4 := HIH.out n (len * sm (fun i => fn gs (p + i)) n) (by have := HLEFT.out; omega) h2 (by rw [Nat.add_mul]; omega) m
      rw [show (((room - n) * 2 : Nat) : Int) = ((room : Int) - n) * 2 by omega] at h4
      exact h4
    generalize hfe : (fun n => bst (fn gs) gs.length d (p + n) ((room - n) * 2) (len + 1) (so + len * sm (fun i => fn gs (p + i)) n)) = f
    have hfn : ∀ n, bst (fn gs) gs.length d (p + n) ((room - n) * 2) (len + 1) (so + len * sm (fun i => fn gs (p + i)) n) = f n := fun n => by rw [← hfe]
    simp only [hfn] at HF
    clear hfe hfn HIH hroom
    generalize hSe : (fun n => len * sm (fun i => fn gs (p + i)) n) = S at *
    have hSn : ∀ n, len * sm (fun i => fn gs (p + i)) n = S n := fun n => by rw [← hSe]
    simp only [hSn] at HS0 HSS HSB HF
    clear hSe hSn
    clear hleft e
    have htwo := Lib.hid (fun w' => reftwo_c w' d (by omega))
    have hq64 : 2 ^ d ≤ 64 := Nat.le_trans (Nat.pow_le_pow_right (n := 2) (j := 6) (by decide) (by omega)) (by decide)
    have hrq : room * 2 ^ d ≤ 4096 := Nat.mul_le_mul hr128 hq64
    have hmulq : IntKind.i64.wrap ((room : Int) * ((2 ^ d : Nat) : Int)) = ((room * 2 ^ d : Nat) : Int) := by rw [IntKind.wrap_i64, ← Int.natCast_mul]; omega
    generalize room * 2 ^ d = rq at *
    generalize 2 ^ d = q at *
    by_cases hc : room < left
    · by_cases hc2 : rq < left
      · rw [if_pos ⟨hc, hc2⟩]
        clear HF HI HFB HS0 HSS HSB
        go_enter Try.func17, Try.ntmps17
        go_wp2_with fail
        refine (htwo.out _).mono ?_; rintro e w1 ⟨rfl, m1, rfl⟩
        go_wp2_with fail
        go_ret
        exact ⟨rfl, _, rfl⟩
      · rw [if_neg (fun h => hc2 h.2)]
        go_enter Try.func17, Try.ntmps17
        go_wp2_with fail
        refine (htwo.out _).mono ?_; rintro e w1 ⟨rfl, m1, rfl⟩
        go_wp2_with fail
        go_loopw [14, 15, 16] (fun b s n wr => ∃ k : Nat, k ≤ min left room + 1 ∧ n = .int .i64 k ∧ b = .int .i64 (bloop f k) ∧ s = .int .i64 (S (k - 1) : Nat) ∧ ∃ m, wr = w.drewN m) (fun _ _ n _ => min left room + 1 - (intOf n).toNat)
        case atStart => exact ⟨0, by omega, rfl, rfl, by rw [show S (0 - 1) = 0 from HS0.out]; rfl, _, rfl⟩
        case round =>
          obtain ⟨k, hk, rfl, rfl, rfl, m, rfl⟩ := hrel
          by_cases hlt : k ≤ min left room
          · have hkl : k ≤ left := by omega
            have hkr : k ≤ room := by omega
            have hmin : k + 1 ≤ min left room + 1 := by omega
            have hmeas : min left room + 1 - (k + 1) < min left room + 1 - k := by omega
            have hbs : Hid (bloop f (k + 1) = bstep (bloop f k) (f k)) := rfl
            have hSk := HSB.out k hkl
            have hF2 := Lib.hid (HF.out k hkl hkr)
            generalize bloop f k = b1 at hbs ⊢
            generalize f k = x at hbs hF2
            by_cases hk0 : 0 < k
            · obtain ⟨j, hj⟩ : ∃ j, k = j + 1 := ⟨k - 1, by omega⟩
              have hjl : p + j < gs.length := by have := HLEFT.out; omega
              obtain ⟨b, off, cap', hv, e1⟩ := HI.out (p + j) hjl
              simp only [Value.slice.injEq] at hv
              obtain ⟨h1, h2, rfl⟩ := hv
              clear h2
              subst h1
              have hfb := HFB.out (p + j) hjl
              have hS1 : S k = S (k - 1) + fn gs (p + j) * len := by rw [hj]; exact HSS.out j
              have HSK : Hid (((S (k - 1) : Nat) : Int) + ((fn gs (p + j) * len : Nat) : Int) = ((S k : Nat) : Int)) := by unfold Hid; omega
              have hprod : fn gs (p + j) * len ≤ 1099511627776 * 7 := Nat.mul_le_mul hfb (by omega)
              have hmul : IntKind.i64.wrap (((fn gs (p + j) : Nat) : Int) * len) = ((fn gs (p + j) * len : Nat) : Int) := by
                rw [IntKind.wrap_i64, ← Int.natCast_mul]; omega
              have hidx : IntKind.i64.wrap ((p : Int) + k - 1) = ((p + j : Nat) : Int) := by rw [IntKind.wrap_i64]; omega
              have hidx2 : (p : Int) + k - 1 = ((p + j : Nat) : Int) := by omega
              rw [← HSK.out] at hF2
              have hs1 : S (k - 1) ≤ 79164837199872 := by omega
              clear hS1 hSk hfb
              generalize fn gs (p + j) * len = prod at *
              generalize fn gs (p + j) = fv at *
              generalize S (k - 1) = s1 at *
              have HJ := Lib.hid hj
              have hpj : p + j < gs.length := hjl
              generalize p + j = pj at *
              clear hj hjl HF HSB HSS HS0 HFB HI
              go_wp2_with fail
              refine (hF2.out _).mono ?_; rintro e w3 ⟨rfl, m3, rfl⟩
              unfold bstep at hbs
              by_cases hx0 : 0 ≤ x
              · by_cases hb0 : b1 < 0
                · rw [if_pos ⟨hx0, .inl hb0⟩] at hbs
                  have HBS := Lib.hid hbs.out
                  clear hbs hF2
                  go_wp2_with fail
                  go_roundw
                  case rel => exact ⟨k + 1, by omega, by go_num, by rw [HBS.out], by rw [Nat.add_sub_cancel, HSK.out], _, rfl⟩
                  case measure => simp [intOf]; omega
                · by_cases hxb : x < b1
                  · rw [if_pos ⟨hx0, .inr hxb⟩] at hbs
                    have HBS := Lib.hid hbs.out
                    clear hbs hF2
                    go_wp2_with fail
                    go_roundw
                    case rel => exact ⟨k + 1, by omega, by go_num, by rw [HBS.out], by rw [Nat.add_sub_cancel, HSK.out], _, rfl⟩
                    case measure => simp [intOf]; omega
                  · rw [if_neg (by omega)] at hbs
                    have HBS := Lib.hid hbs.out
                    clear hbs hF2
                    go_wp2_with fail
                    go_roundw
                    case rel => exact ⟨k + 1, by omega, by go_num, by rw [HBS.out], by rw [Nat.add_sub_cancel, HSK.out], _, rfl⟩
                    case measure => simp [intOf]; omega
              · rw [if_neg (by omega)] at hbs
                have HBS := Lib.hid hbs.out
                clear hbs hF2
                go_wp2_with fail
                go_roundw
                case rel => exact ⟨k + 1, by omega, by go_num, by rw [HBS.out], by rw [Nat.add_sub_cancel, HSK.out], _, rfl⟩
                case measure => simp [intOf]; omega
            · have HSK : Hid (((S (k - 1) : Nat) : Int) = ((S k : Nat) : Int)) := by unfold Hid; rw [show k = 0 by omega]
              rw [← HSK.out] at hF2
              have hs1 : S (k - 1) ≤ 79164837199872 := by rw [show k = 0 by omega, show S (0 - 1) = 0 from HS0.out]; omega
              generalize S (k - 1) = s1 at *
              clear HF HSB HSS HS0 HFB HI hSk
              go_wp2_with fail
              refine (hF2.out _).mono ?_; rintro e w3 ⟨rfl, m3, rfl⟩
              unfold bstep at hbs
              by_cases hx0 : 0 ≤ x
              · by_cases hb0 : b1 < 0
                · rw [if_pos ⟨hx0, .inl hb0⟩] at hbs
                  have HBS := Lib.hid hbs.out
                  clear hbs hF2
                  go_wp2_with fail
                  go_roundw
                  case rel => exact ⟨k + 1, by omega, by go_num, by rw [HBS.out], by rw [Nat.add_sub_cancel, HSK.out], _, rfl⟩
                  case measure => simp [intOf]; omega
                · by_cases hxb : x < b1
                  · rw [if_pos ⟨hx0, .inr hxb⟩] at hbs
                    have HBS := Lib.hid hbs.out
                    clear hbs hF2
                    go_wp2_with fail
                    go_roundw
                    case rel => exact ⟨k + 1, by omega, by go_num, by rw [HBS.out], by rw [Nat.add_sub_cancel, HSK.out], _, rfl⟩
                    case measure => simp [intOf]; omega
                  · rw [if_neg (by omega)] at hbs
                    have HBS := Lib.hid hbs.out
                    clear hbs hF2
                    go_wp2_with fail
                    go_roundw
                    case rel => exact ⟨k + 1, by omega, by go_num, by rw [HBS.out], by rw [Nat.add_sub_cancel, HSK.out], _, rfl⟩
                    case measure => simp [intOf]; omega
              · rw [if_neg (by omega)] at hbs
                have HBS := Lib.hid hbs.out
                clear hbs hF2
                go_wp2_with fail
                go_roundw
                case rel => exact ⟨k + 1, by omega, by go_num, by rw [HBS.out], by rw [Nat.add_sub_cancel, HSK.out], _, rfl⟩
                case measure => simp [intOf]; omega
          · obtain rfl : k = min left room + 1 := by omega
            have hcond : ¬ (min left room + 1 ≤ left ∧ min left room + 1 ≤ room) := by omega
            clear HF HSB HSS HS0 HFB HI
            generalize S (min left room + 1 - 1) = s1
            generalize hres : bloop f (min left room + 1) = res
            have HRES := Lib.hid hres
            clear hres
            by_cases hl1 : min left room + 1 ≤ left
            · have hl2 : ¬ (min left room + 1 ≤ room) := fun h => hcond ⟨hl1, h⟩
              generalize hk2 : min left room + 1 = k at *
              have HK2 := Lib.hid hk2
              clear hcond hk2
              go_wp2_with fail
              go_ret
              exact ⟨by rw [HK2.out, HRES.out]; rfl, _, rfl⟩
            · generalize hk2 : min left room + 1 = k at *
              have HK2 := Lib.hid hk2
              clear hcond hk2
              go_wp2_with fail
              go_ret
              exact ⟨by rw [HK2.out, HRES.out]; rfl, _, rfl⟩
    · rw [if_neg (fun h => hc h.1)]
      go_enter Try.func17, Try.ntmps17
      go_wp2_with fail
      go_loopw [14, 15, 16] (fun b s n wr => ∃ k : Nat, k ≤ min left room + 1 ∧ n = .int .i64 k ∧ b = .int .i64 (bloop f k) ∧ s = .int .i64 (S (k - 1) : Nat) ∧ ∃ m, wr = w.drewN m) (fun _ _ n _ => min left room + 1 - (intOf n).toNat)
      case atStart => exact ⟨0, by omega, rfl, rfl, by rw [show S (0 - 1) = 0 from HS0.out]; rfl, 0, rfl⟩
      case round =>
        obtain ⟨k, hk, rfl, rfl, rfl, m, rfl⟩ := hrel
        by_cases hlt : k ≤ min left room
        · have hkl : k ≤ left := by omega
          have hkr : k ≤ room := by omega
          have hmin : k + 1 ≤ min left room + 1 := by omega
          have hmeas : min left room + 1 - (k + 1) < min left room + 1 - k := by omega
          have hbs : Hid (bloop f (k + 1) = bstep (bloop f k) (f k)) := rfl
          have hSk := HSB.out k hkl
          have hF2 := Lib.hid (HF.out k hkl hkr)
          generalize bloop f k = b1 at hbs ⊢
          generalize f k = x at hbs hF2
          by_cases hk0 : 0 < k
          · obtain ⟨j, hj⟩ : ∃ j, k = j + 1 := ⟨k - 1, by omega⟩
            have hjl : p + j < gs.length := by have := HLEFT.out; omega
            obtain ⟨b, off, cap', hv, e1⟩ := HI.out (p + j) hjl
            simp only [Value.slice.injEq] at hv
            obtain ⟨h1, h2, rfl⟩ := hv
            clear h2
            subst h1
            have hfb := HFB.out (p + j) hjl
            have hS1 : S k = S (k - 1) + fn gs (p + j) * len := by rw [hj]; exact HSS.out j
            have HSK : Hid (((S (k - 1) : Nat) : Int) + ((fn gs (p + j) * len : Nat) : Int) = ((S k : Nat) : Int)) := by unfold Hid; omega
            have hprod : fn gs (p + j) * len ≤ 1099511627776 * 7 := Nat.mul_le_mul hfb (by omega)
            have hmul : IntKind.i64.wrap (((fn gs (p + j) : Nat) : Int) * len) = ((fn gs (p + j) * len : Nat) : Int) := by
              rw [IntKind.wrap_i64, ← Int.natCast_mul]; omega
            have hidx : IntKind.i64.wrap ((p : Int) + k - 1) = ((p + j : Nat) : Int) := by rw [IntKind.wrap_i64]; omega
            have hidx2 : (p : Int) + k - 1 = ((p + j : Nat) : Int) := by omega
            rw [← HSK.out] at hF2
            have hs1 : S (k - 1) ≤ 79164837199872 := by omega
            clear hS1 hSk hfb
            generalize fn gs (p + j) * len = prod at *
            generalize fn gs (p + j) = fv at *
            generalize S (k - 1) = s1 at *
            have HJ := Lib.hid hj
            have hpj : p + j < gs.length := hjl
            generalize p + j = pj at *
            clear hj hjl HF HSB HSS HS0 HFB HI
            go_wp2_with fail
            refine (hF2.out _).mono ?_; rintro e w3 ⟨rfl, m3, rfl⟩
            unfold bstep at hbs
            by_cases hx0 : 0 ≤ x
            · by_cases hb0 : b1 < 0
              · rw [if_pos ⟨hx0, .inl hb0⟩] at hbs
                have HBS := Lib.hid hbs.out
                clear hbs hF2
                go_wp2_with fail
                go_roundw
                case rel => exact ⟨k + 1, by omega, by go_num, by rw [HBS.out], by rw [Nat.add_sub_cancel, HSK.out], _, rfl⟩
                case measure => simp [intOf]; omega
              · by_cases hxb : x < b1
                · rw [if_pos ⟨hx0, .inr hxb⟩] at hbs
                  have HBS := Lib.hid hbs.out
                  clear hbs hF2
                  go_wp2_with fail
                  go_roundw
                  case rel => exact ⟨k + 1, by omega, by go_num, by rw [HBS.out], by rw [Nat.add_sub_cancel, HSK.out], _, rfl⟩
                  case measure => simp [intOf]; omega
                · rw [if_neg (by omega)] at hbs
                  have HBS := Lib.hid hbs.out
                  clear hbs hF2
                  go_wp2_with fail
                  go_roundw
                  case rel => exact ⟨k + 1, by omega, by go_num, by rw [HBS.out], by rw [Nat.add_sub_cancel, HSK.out], _, rfl⟩
                  case measure => simp [intOf]; omega
            · rw [if_neg (by omega)] at hbs
              have HBS := Lib.hid hbs.out
              clear hbs hF2
              go_wp2_with fail
              go_roundw
              case rel => exact ⟨k + 1, by omega, by go_num, by rw [HBS.out], by rw [Nat.add_sub_cancel, HSK.out], _, rfl⟩
              case measure => simp [intOf]; omega
          · have HSK : Hid (((S (k - 1) : Nat) : Int) = ((S k : Nat) : Int)) := by unfold Hid; rw [show k = 0 by omega]
            rw [← HSK.out] at hF2
            have hs1 : S (k - 1) ≤ 79164837199872 := by rw [show k = 0 by omega, show S (0 - 1) = 0 from HS0.out]; omega
            generalize S (k - 1) = s1 at *
            clear HF HSB HSS HS0 HFB HI hSk
            go_wp2_with fail
            refine (hF2.out _).mono ?_; rintro e w3 ⟨rfl, m3, rfl⟩
            unfold bstep at hbs
            by_cases hx0 : 0 ≤ x
            · by_cases hb0 : b1 < 0
              · rw [if_pos ⟨hx0, .inl hb0⟩] at hbs
                have HBS := Lib.hid hbs.out
                clear hbs hF2
                go_wp2_with fail
                go_roundw
                case rel => exact ⟨k + 1, by omega, by go_num, by rw [HBS.out], by rw [Nat.add_sub_cancel, HSK.out], _, rfl⟩
                case measure => simp [intOf]; omega
              · by_cases hxb : x < b1
                · rw [if_pos ⟨hx0, .inr hxb⟩] at hbs
                  have HBS := Lib.hid hbs.out
                  clear hbs hF2
                  go_wp2_with fail
                  go_roundw
                  case rel => exact ⟨k + 1, by omega, by go_num, by rw [HBS.out], by rw [Nat.add_sub_cancel, HSK.out], _, rfl⟩
                  case measure => simp [intOf]; omega
                · rw [if_neg (by omega)] at hbs
                  have HBS := Lib.hid hbs.out
                  clear hbs hF2
                  go_wp2_with fail
                  go_roundw
                  case rel => exact ⟨k + 1, by omega, by go_num, by rw [HBS.out], by rw [Nat.add_sub_cancel, HSK.out], _, rfl⟩
                  case measure => simp [intOf]; omega
            · rw [if_neg (by omega)] at hbs
              have HBS := Lib.hid hbs.out
              clear hbs hF2
              go_wp2_with fail
              go_roundw
              case rel => exact ⟨k + 1, by omega, by go_num, by rw [HBS.out], by rw [Nat.add_sub_cancel, HSK.out], _, rfl⟩
              case measure => simp [intOf]; omega
        · obtain rfl : k = min left room + 1 := by omega
          have hcond : ¬ (min left room + 1 ≤ left ∧ min left room + 1 ≤ room) := by omega
          clear HF HSB HSS HS0 HFB HI
          generalize S (min left room + 1 - 1) = s1
          generalize hres : bloop f (min left room + 1) = res
          have HRES := Lib.hid hres
          clear hres
          by_cases hl1 : min left room + 1 ≤ left
          · have hl2 : ¬ (min left room + 1 ≤ room) := fun h => hcond ⟨hl1, h⟩
            generalize hk2 : min left room + 1 = k at *
            have HK2 := Lib.hid hk2
            clear hcond hk2
            go_wp2_with fail
            go_ret
            exact ⟨by rw [HK2.out, HRES.out]; rfl, _, rfl⟩
          · generalize hk2 : min left room + 1 = k at *
            have HK2 := Lib.hid hk2
            clear hcond hk2
            go_wp2_with fail
            go_ret
            exact ⟨by rw [HK2.out, HRES.out]; rfl, _, rfl⟩
end Go.Proofs.Ytibhelfiibincaa
