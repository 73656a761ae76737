/- The document's Words of layer 6. -/
import Derived.Test.YtblogjpoijfpbaaRefSf
import Derived.Test.YtblogjpoijfpbaaOwnC
import Derived.Deep.RegionLaw
namespace Go.Proofs.Ytblogjpoijfpbaa
set_option linter.unusedVariables false
set_option linter.unusedSimpArgs false
open Go.ChangeShapes Go.WideShapes Go.ChangeAt Go.RowKit

theorem turn_code6 (x n : Nat) (h : n ≤ 16) : turn x (n : Int) = tr n x 0 := by
  unfold turn
  rw [show (max 0 (min (n : Int) 32)).toNat = n by omega]
/-- v is the row of the words of L -/
def Cds6 (w : World) (v : Value) (L : List Nat) : Prop := Sts w v L.length 2 fun i j => if j = 0 then .int .u32 (scode L i) else .int .i64 (len L i)
theorem schk_ok {zs : List Int} (h : schk zs = 0) : mayS zs = true ∧ tot16 (Ln zs) = 65536 := by
  unfold schk at h
  cases hm : mayS zs with
  | false => rw [hm] at h; simp at h
  | true =>
    rw [hm, if_neg (by simp)] at h
    by_cases e : tot16 (Ln zs) = 65536
    · exact ⟨rfl, e⟩
    · rw [if_neg e] at h; omega
set_option maxRecDepth 100000 in
set_option maxHeartbeats 2000000 in
theorem sfwords_ok (w : World) (v : Value) (zs : List Int) (h : Is .i64 w v zs) (h0 : schk zs = 0) : Calls Try.prog 11 #[v] w fun e w' => ∃ v', e = .returned (.tuple #[v', .int .i64 0]) ∧ Cds6 w' v' (Ln zs) ∧ Keep [] w w' ∧ ∀ b, v'.ownBlock = some b → w.heap.size ≤ b := by
  obtain ⟨hm, htot⟩ := schk_ok h0
  have hlen : zs.length ≤ 256 := ((mayS_iff zs).1 hm).2.1
  have HG : Hid (∀ w' (k : Keep [] w w') i (hi : i < zs.length), 1 ≤ len (Ln zs) i ∧ len (Ln zs) i ≤ 16 ∧ ∃ b off cap, v = .slice (some ⟨b, off, none⟩) zs.length cap ∧ w'.cell? ⟨b, off + i, none⟩ = some (.int .i64 (len (Ln zs) i : Nat))) := by
    intro w' k i hi
    obtain ⟨g1, g2, g3⟩ := mayS_get hm i hi
    refine ⟨g2, g3, ?_⟩
    rw [← g1]
    exact (h.keep k (by simp)).at i hi
  have HC := Lib.hid (sfcheck_c w v zs h)
  rw [h0] at HC
  have hN := Ln_length zs
  have h16 : ∀ k, k < (Ln zs).length → len (Ln zs) k ≤ 16 := fun k hk => (mayS_get hm k (by omega)).2.2
  obtain ⟨a, cap, rfl, _⟩ := h.sh
  generalize Ln zs = L at *
  have HAT : Hid (∀ i, i < zs.length → ah L i ≤ 65536) := fun i hi => by have := ah_top L i (by omega); omega
  have HAH : Hid (∀ i, ah L i = sm (fun k => if ahd L i k then wd16 L k else 0) zs.length) := fun i => by unfold ah; rw [hN]
  have HAS : Hid (∀ i k, k ≤ zs.length → sm (fun k => if ahd L i k then wd16 L k else 0) k ≤ ah L i) := fun i k hk => by
    unfold ah; exact sm_mono _ _ _ (by omega)
  have HN := Lib.hid hN
  clear h hm h0 htot hN h16
  go_enter Try.func11, Try.ntmps11
  go_wp2_with fail
  refine HC.out.mono ?_; rintro e w1 ⟨rfl, m1, rfl⟩
  go_wp2_with fail
  go_loopw [5, 6] (fun x i wr => ∃ (i' : Nat) (aw : Option Addr) (cw : Nat), i' ≤ zs.length ∧ i = .int .i64 i' ∧ x = .slice aw i' cw ∧ OwnC wr (.slice aw i' cw) (scode L) (len L) i' ∧ Keep [] w wr ∧ Hid (∀ b, (Value.slice aw i' cw).ownBlock = some b → w.heap.size ≤ b)) (fun _ i _ => zs.length - (intOf i).toNat)
  case atStart => exact ⟨0, none, 0, by omega, rfl, rfl, OwnC.nil _ _ _, (Keep.refl _ _).drewN _, fun b hb => by simp [Value.ownBlock] at hb⟩
  case round =>
    obtain ⟨i, aw, cw, hi, rfl, rfl, hO, hK, hB⟩ := hrel
    by_cases hlt : i < zs.length
    · have hai := HAT.out i hlt
      go_wp2_with fail
      go_loopw [7, 8] (fun x j w2 => ∃ (k y n : Nat), k ≤ zs.length ∧ j = .int .i64 k ∧ x = .int .i64 y ∧ y ≤ 65536 ∧ Hid (y = sm (fun k => if ahd L i k then wd16 L k else 0) k) ∧ w2 = wr.drewN n) (fun _ j _ => zs.length - (intOf j).toNat)
      case atStart => exact ⟨0, 0, 0, by omega, rfl, rfl, by omega, rfl, rfl⟩
      case round =>
        obtain ⟨k, y, n, hk, rfl, rfl, hy, HY, rfl⟩ := hrel
        by_cases hltk : k < zs.length
        · obtain ⟨gi1, gi2, b, off, cap', hv, ei⟩ := HG.out _ hK i hlt
          simp only [Value.slice.injEq] at hv
          obtain ⟨h1, h2, rfl⟩ := hv
          clear h2
          subst h1
          obtain ⟨gk1, gk2, b', off', cap'', hv, ek⟩ := HG.out _ hK k hltk
          simp only [Value.slice.injEq] at hv
          obtain ⟨h1, h2, rfl⟩ := hv
          clear h2
          injection h1 with h1
          injection h1 with h1 h2 _
          subst h1 h2
          have hstep : Hid (sm (fun k => if ahd L i k then wd16 L k else 0) (k + 1) = y + if ahd L i k then wd16 L k else 0) := by unfold Hid; rw [sm, HY.out]
          have hbd := HAS.out i (k + 1) (by omega)
          rw [hstep.out] at hbd
          have hiff := Lib.hid (ahd_iff L i k)
          have hwd : wd16 L k = 2 ^ (16 - len L k) := rfl
          rw [hwd] at hstep hbd
          have HT2 := Lib.hid (fun w' => sftwo_c w' (16 - len L k) (by omega))
          have hsub2 : (16 - ((len L k : Nat) : Int)) = ((16 - len L k : Nat) : Int) := by omega
          generalize 2 ^ (16 - len L k) = q at *
          generalize 16 - len L k = z at *
          generalize len L k = lk at *
          generalize len L i = li at *
          by_cases c1 : li < lk
          · have ha : ahd L i k = true := hiff.out.2 (.inl c1)
            rw [ha, if_pos rfl] at hstep hbd
            have d1 : decide (li < lk) = true := by simpa using c1
            clear ha hiff hwd
            go_wp2_with fail
            go_quiet (fail)
            go_wp2_with fail
            refine (HT2.out _).mono ?_; rintro e w3 ⟨rfl, m3, rfl⟩
            go_wp2_with fail
            go_roundw
            case rel => exact ⟨k + 1, y + q, _, by omega, by go_num, by go_num, by omega, by unfold Hid; rw [hstep.out], rfl⟩
            case measure => simp [intOf]; omega
          · have d1 : decide (li < lk) = false := by rw [decide_eq_false_iff_not]; exact c1
            by_cases c2 : lk = li
            · have d2 : ((lk : Int) == li) = true := by simp; omega
              by_cases c3 : i < k
              · have ha : ahd L i k = true := hiff.out.2 (.inr ⟨c2, c3⟩)
                rw [ha, if_pos rfl] at hstep hbd
                have d3 : decide (i < k) = true := by simpa using c3
                clear ha hiff hwd c2
                go_wp2_with fail
                go_quiet (fail)
                go_wp2_with fail
                refine (HT2.out _).mono ?_; rintro e w3 ⟨rfl, m3, rfl⟩
                go_wp2_with fail
                go_roundw
                case rel => exact ⟨k + 1, y + q, _, by omega, by go_num, by go_num, by omega, by unfold Hid; rw [hstep.out], rfl⟩
                case measure => simp [intOf]; omega
              · have ha : ahd L i k = false := by rw [Bool.eq_false_iff]; intro hh; have := hiff.out.1 hh; omega
                rw [ha, if_neg (by simp)] at hstep
                have d3 : decide (i < k) = false := by rw [decide_eq_false_iff_not]; exact c3
                clear ha hiff hwd c2 hbd
                go_wp2_with fail
                go_quiet (fail)
                go_wp2_with fail
                go_roundw
                case rel => exact ⟨k + 1, y, _, by omega, by go_num, rfl, hy, by unfold Hid; rw [hstep.out]; rfl, rfl⟩
                case measure => simp [intOf]; omega
            · have ha : ahd L i k = false := by rw [Bool.eq_false_iff]; intro hh; have := hiff.out.1 hh; omega
              rw [ha, if_neg (by simp)] at hstep
              have d2 : ((lk : Int) == li) = false := by simp; omega
              clear ha hiff hwd hbd
              go_wp2_with fail
              go_quiet (fail)
              go_wp2_with fail
              go_roundw
              case rel => exact ⟨k + 1, y, _, by omega, by go_num, rfl, hy, by unfold Hid; rw [hstep.out]; rfl, rfl⟩
              case measure => simp [intOf]; omega
        · obtain rfl : k = zs.length := by omega
          rw [← HAH.out i] at HY
          obtain ⟨gi1, gi2, b, off, cap', hv, ei⟩ := HG.out _ hK i hlt
          simp only [Value.slice.injEq] at hv
          obtain ⟨h1, h2, rfl⟩ := hv
          clear h2
          subst h1
          have hwd : wd16 L i = 2 ^ (16 - len L i) := rfl
          have hsw : Hid (sw L i = y / 2 ^ (16 - len L i)) := by unfold Hid sw; rw [hwd, HY.out]
          have hcode : Hid (scode L i = tr (len L i) (y / 2 ^ (16 - len L i)) 0) := by unfold Hid scode; rw [hsw.out]
          have HT2 := Lib.hid (fun w' => sftwo_c w' (16 - len L i) (by omega))
          have hsub2 : (16 - ((len L i : Nat) : Int)) = ((16 - len L i : Nat) : Int) := by omega
          have hq : 0 < 2 ^ (16 - len L i) := Nat.pow_pos (by decide)
          have hO2 := hO.keep ((Keep.refl [] wr).drewN n) (by simp)
          have hK2 := hK.drewN n
          have ei := ((Keep.refl [] wr).drewN n).cellW ei
          have HLI := Lib.hid (show len L i = len L i from rfl)
          generalize hli : len L i = li at *
          have HLE := Lib.hid hli
          generalize 16 - li = z at *
          have hdiv : (y : Int) / ((2 ^ z : Nat) : Int) = ((y / 2 ^ z : Nat) : Int) := by simp
          have hdle : y / 2 ^ z ≤ 65536 := Nat.le_trans (Nat.div_le_self _ _) hy
          have HTU := Lib.hid (fun w4 => turnref_c (y / 2 ^ z) (li : Int) w4 (by omega))
          rw [turn_code6 _ li gi2, ← hcode.out] at HTU
          generalize 2 ^ z = q at *
          generalize y / q = dv at *
          generalize wr.drewN n = w4 at hO2 hK2 ei ⊢
          clear hcode hsw hO hK hwd HY HAH HAS HAT HC HLI hli
          go_wp2_with fail
          refine (HT2.out _).mono ?_; rintro e w5 ⟨rfl, m5, rfl⟩
          have hO3 := hO2.keep ((Keep.refl [] w4).drewN m5) (by simp)
          have hK3 := hK2.drewN m5
          have ei3 := ((Keep.refl [] w4).drewN m5).cellW ei
          generalize w4.drewN m5 = w6 at hO3 hK3 ei3 ⊢
          have eiA : ∀ o, (w6.alloc o).cell? ⟨b, off + i, none⟩ = some (.int .i64 (li : Int)) := fun o => ((Keep.refl [] w6).alloc o).cellW ei3
          clear hO2 hK2 ei HT2
          go_wp2_with fail
          go_region_law (first
            | ((refine step_appendC (.tmp 69) (.tmp 81) rfl rfl (.slice aw i cw) (scode L) (len L) i rfl (hO3.keep (S := []) (by repeat (first | exact Keep.refl _ _ | refine Keep.alloc ?_ _ | refine Keep.drew ?_)) (by simp)) w6.heap.size rfl (by rw [HLE.out]; exact Blk.new _ _ _) (by omega) ?_); (intro v7 w7 ho7 hk7 hb7))
            | (go_simp; go_at_call 30; (refine (HTU.out _).mono ?_); (rintro e w' ⟨rfl, rfl⟩)))
          all_goals
            have K7 : Keep [] w w7 := by
              refine Keep.trans (hK3.trans (S' := []) ?_ (by simp)) hk7 ?_
              · repeat (first | exact Keep.refl _ _ | refine Keep.alloc ?_ _ | refine Keep.drew ?_)
              · intro b hb; right; exact hB.out b (by simpa using hb)
            have B7 : Hid (∀ b, v7.ownBlock = some b → w.heap.size ≤ b) := by
              intro b hb
              rcases hb7 b hb with h | h
              · exact hB.out b h
              · have := hK3.size; subst h; simp; omega
            obtain ⟨a7, c7, rfl, _⟩ := ho7.sts
            clear hO3 hK3 hk7 hb7 ei3 eiA
            go_wp2_with fail
            go_roundw
            case rel => exact ⟨i + 1, a7, c7, by omega, by go_num, rfl, ho7, K7, B7⟩
            case measure => simp [intOf]; omega
    · obtain rfl : i = zs.length := by omega
      have hs := hO.sts
      go_wp2_with fail
      go_ret2
      exact ⟨_, rfl, by unfold Cds6; rw [HN.out]; exact hs, hK, hB.out⟩
theorem sfwords_err (w : World) (v : Value) (zs : List Int) (h : Is .i64 w v zs) (h0 : schk zs ≠ 0) : Calls Try.prog 11 #[v] w fun e w' => e = .returned (.tuple #[.slice none 0 0, .int .i64 (schk zs)]) ∧ Keep [] w w' := by
  have HC := Lib.hid (sfcheck_c w v zs h)
  obtain ⟨a, cap, rfl, _⟩ := h.sh
  have hb : (((schk zs : Nat) : Int) != 0) = true := by simp; omega
  generalize schk zs = ck at *
  clear h
  go_enter Try.func11, Try.ntmps11
  go_wp2_with fail
  refine HC.out.mono ?_; rintro e w1 ⟨rfl, m1, rfl⟩
  go_wp2_with fail
  go_ret2
  exact ⟨rfl, (Keep.refl _ _).drewN _⟩
/-- lengths whose words are asked for: none where there is an error -/
def Ls (zs : List Int) : List Nat := if schk zs = 0 then Ln zs else []
theorem Cds6.nix (w : World) : Cds6 w (.slice none 0 0) [] := ⟨none, 0, rfl, by simp, by simp, fun _ => rfl, fun x hx => nomatch hx⟩
theorem sfwords_c (w : World) (v : Value) (zs : List Int) (h : Is .i64 w v zs) : Calls Try.prog 11 #[v] w fun e w' => ∃ v', e = .returned (.tuple #[v', .int .i64 (schk zs)]) ∧ Cds6 w' v' (Ls zs) ∧ Keep [] w w' ∧ (∀ b, v'.ownBlock = some b → w.heap.size ≤ b) ∧ (schk zs ≠ 0 → v' = .slice none 0 0) := by
  unfold Ls
  by_cases h0 : schk zs = 0
  · rw [if_pos h0]
    refine (sfwords_ok w v zs h h0).mono ?_
    rintro e w' ⟨v', rfl, a, b, c⟩
    exact ⟨v', by rw [h0]; rfl, a, b, c, fun h => absurd h0 h⟩
  · rw [if_neg h0]
    refine (sfwords_err w v zs h h0).mono ?_
    rintro e w' ⟨rfl, a⟩
    exact ⟨_, rfl, Cds6.nix _, a, by simp [Value.ownBlock], fun _ => rfl⟩
end Go.Proofs.Ytblogjpoijfpbaa
