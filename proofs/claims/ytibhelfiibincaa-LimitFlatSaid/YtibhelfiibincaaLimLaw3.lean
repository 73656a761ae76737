/- The walk of the law LimitLengths: it returns true at every input. -/
import Derived.Test.YtibhelfiibincaaLimLaw2
namespace Go.Proofs.Ytibhelfiibincaa
set_option linter.unusedVariables false
set_option linter.unusedSimpArgs false
open Go.ChangeShapes Go.WideShapes Go.ChangeAt Go.RowKit

theorem BestL.cells {w : World} {v : Value} {zs ls : List Int} {most : Int} (h : BestL zs ls most) (hi : Is .i64 w v ls) (i : Nat) (hlt : i < zs.length) : ∃ b off cap, v = .slice (some ⟨b, off, none⟩) zs.length cap ∧ w.cell? ⟨b, off + i, none⟩ = some (.int .i64 (fn ls i : Nat)) := by
  obtain ⟨b, off, cap, h1, h2⟩ := hi.at i (by rw [h.1]; exact hlt)
  have h3 := h.2.1 (ls[i]'(by rw [h.1]; exact hlt)) (List.getElem_mem _)
  refine ⟨b, off, cap, by rw [h1, h.1], ?_⟩
  rw [h2, fn_get ls i (by rw [h.1]; exact hlt)]
  congr 2; omega
theorem BestL.lenOK {zs ls : List Int} {most : Int} (h : BestL zs ls most) (h1 : 1 ≤ most) : LenOK zs ls most.toNat zs.length := by
  intro i hi hF
  have a := (h.2.2.zero i hi)
  have b := h.2.2.le i hi
  have h3 := h.2.1 (ls[i]'(by rw [h.1]; exact hi)) (List.getElem_mem _)
  have c : fn ls i ≠ 0 := fun e => hF (a.1 e)
  rw [zn_get ls i (by rw [h.1]; exact hi)]
  rw [fn_get ls i (by rw [h.1]; exact hi)] at b c
  exact ⟨by rw [h.1]; exact hi, by omega, by omega⟩
set_option maxRecDepth 100000 in
set_option maxHeartbeats 4000000 in
theorem lengths_w (W : World) (v0 : Value) (zs0 : List Int) (h0 : Is .i64 W v0 zs0) (most : Int) (hmw : (Lit.int .i64 most).wf = true) : Calls Try.prog 3 #[v0, .int .i64 most] W fun e w' => e = .returned (.bool true) ∧ Keep [] W w' := by
  go_enter Try.func3, Try.ntmps3
  go_wp2_with fail
  refine (few_c W v0 zs0 300 (by omega) h0).mono ?_; rintro e w1 ⟨va, rfl, ha, rfl⟩
  have hlz : (zs0.take 300).length ≤ 300 := by rw [List.length_take]; omega
  generalize zs0.take 300 = zs at ha hlz
  clear h0
  go_wp2_with (at_builtin; (refine wpList_appendI (.tmp 14) (.tmp 15) rfl rfl (.slice none 0 0) [] rfl (OwnI.nil _) va zs rfl ha (by simp; omega) ?_); (intro v3 w3 ho3 hk3 hb3 hz3))
  have K3 : Keep [] W w3 := by simpa [Value.ownBlock] using hk3
  have h3 : Is .i64 w3 v3 zs := by simpa using ho3.is
  clear ho3 hk3 hb3 hz3
  go_wp2_with fail
  refine (lim_lengths w3 v3 zs most h3 hmw).mono ?_; rintro e w4 ⟨vl, ls, er, rfl, hls, k4, hnil, hbest⟩
  have K4 := K3.trans k4 (by simp)
  go_wp2_with fail
  refine (refmay_c w4 va zs most (ha.keep K4 (by simp))).mono ?_; rintro e w5 ⟨rfl, n5, rfl⟩
  by_cases hmay : mayF zs most = true
  · obtain ⟨rfl, hB⟩ := hbest hmay
    obtain ⟨hm1, hm2, _, hokf, _⟩ := (mayF_iff zs most).1 hmay
    rw [hmay]
    obtain ⟨M, rfl⟩ : ∃ M : Nat, most = M := ⟨most.toNat, by omega⟩
    have HSI := Lib.hid (fun w' (k : Keep [] w4 w') => sameints_c w' v3 va zs ((h3.keep k4 (by simp)).keep k (by simp)) (ha.keep (K4.trans k (by simp)) (by simp)))
    have HUS := Lib.hid (fun w' (k : Keep [] w4 w') => refused_c w' va zs (ha.keep (K4.trans k (by simp)) (by simp)))
    have HWT := Lib.hid (fun w' (k : Keep [] w4 w') => refweight_c w' va vl zs ls M (by omega) hokf (by omega) (ha.keep (K4.trans k (by simp)) (by simp)) (hls.keep k (by simp)))
    have HL : Hid (∀ w' (k : Keep [] w4 w') i (hi : i < zs.length), ∃ b off cap, vl = .slice (some ⟨b, off, none⟩) zs.length cap ∧ w'.cell? ⟨b, off + i, none⟩ = some (.int .i64 (fn ls i : Nat))) :=
      fun w' k i hi => hB.cells (hls.keep k (by simp)) i hi
    have HZ : Hid (∀ w' (k : Keep [] w4 w') i (hi : i < zs.length), ∃ b off cap, va = .slice (some ⟨b, off, none⟩) zs.length cap ∧ w'.cell? ⟨b, off + i, none⟩ = some (.int .i64 (fn zs i : Nat))) := by
      intro w' k i hi
      rw [← (okF_get hokf i hi).1]
      exact (ha.keep (K4.trans k (by simp)) (by simp)).at i hi
    have HOK := Lib.hid (hB.lenOK hm1)
    have HG := Lib.hid hB.2.2
    obtain ⟨a0, cap0, rfl, _⟩ := ha.sh
    obtain ⟨al, capl, rfl, _⟩ := hls.sh
    have hll := hB.1
    rw [hll] at HWT HL ⊢
    clear hbest hmay hB hokf ha h3 hls hmw hnil hll
    go_wp2_with fail
    refine (HSI.out _ ((Keep.refl _ _).drewN n5)).mono ?_; rintro e w6 ⟨rfl, n6, rfl⟩
    go_wp2_with fail
    refine (HUS.out _ ((Keep.refl _ _).drewN _)).mono ?_; rintro e w7 ⟨rfl, n7, rfl⟩
    generalize hu : usedN zs.length (fn zs) = u
    have HU := Lib.hid hu
    clear hu HSI HUS
    go_wp2_with fail
    go_loopw [9] (fun y wr => ∃ i : Nat, i ≤ zs.length ∧ y = .int .i64 i ∧ Keep [] w4 wr) (fun y _ => zs.length - (intOf y).toNat)
    case atStart => exact ⟨0, by omega, rfl, (Keep.refl _ _).drewN _⟩
    case round =>
      obtain ⟨i, hi, rfl, KR⟩ := hrel
      by_cases hlt : i < zs.length
      · have hzero := HG.out.zero i hlt
        have hone := fun h => HG.out.one (HU.out.trans h) i hlt
        obtain ⟨bel, oel, cpel, hv, el⟩ := HL.out _ KR i hlt
        simp only [Value.slice.injEq] at hv
        obtain ⟨h1, h2, rfl⟩ := hv
        clear h2
        subst h1
        obtain ⟨bef, oef, cpef, hv, ef⟩ := HZ.out _ KR i hlt
        simp only [Value.slice.injEq] at hv
        obtain ⟨h1, h2, rfl⟩ := hv
        clear h2
        subst h1
        by_cases hF : fn zs i = 0
        · have hGz := hzero.2 hF
          have HFZ := Lib.hid hF
          rw [hF] at ef
          rw [hGz] at el
          clear hone hzero hF hGz
          by_cases hu1 : u = 1
          · have du : ((u : Int) == 1) = true := by simp; omega
            clear hu1
            go_wp2_with fail
            go_quiet (fail)
            have KQ := KR.drewN nq
            generalize wr.drewN nq = wq at KQ ⊢
            clear el ef KR
            go_wp2_with fail
            go_loopw [10] (fun y w8 => ∃ k : Nat, k ≤ zs.length ∧ y = .int .i64 k ∧ Keep [] w4 w8) (fun y _ => zs.length - (intOf y).toNat)
            case atStart => exact ⟨0, by omega, rfl, KQ⟩
            case round =>
              clear KQ
              obtain ⟨k, hk, rfl, KS⟩ := hrel
              by_cases hltk : k < zs.length
              · have hmono := HG.out.mono i k hlt hltk
                obtain ⟨bei, oei, cpei, hv, ei⟩ := HZ.out _ KS i hlt
                simp only [Value.slice.injEq] at hv
                obtain ⟨h1, h2, rfl⟩ := hv
                clear h2
                injection h1 with h1
                injection h1 with h1 h2 _
                subst h1 h2
                obtain ⟨bgi, ogi, cpgi, hv, gi⟩ := HL.out _ KS i hlt
                simp only [Value.slice.injEq] at hv
                obtain ⟨h1, h2, rfl⟩ := hv
                clear h2
                injection h1 with h1
                injection h1 with h1 h2 _
                subst h1 h2
                obtain ⟨bek, oek, cpek, hv, ek⟩ := HZ.out _ KS k hltk
                simp only [Value.slice.injEq] at hv
                obtain ⟨h1, h2, rfl⟩ := hv
                clear h2
                injection h1 with h1
                injection h1 with h1 h2 _
                subst h1 h2
                obtain ⟨bgk, ogk, cpgk, hv, gk⟩ := HL.out _ KS k hltk
                simp only [Value.slice.injEq] at hv
                obtain ⟨h1, h2, rfl⟩ := hv
                clear h2
                injection h1 with h1
                injection h1 with h1 h2 _
                subst h1 h2
                have HM := Lib.hid hmono
                clear hmono
                generalize fn zs i = Fi at *
                generalize fn zs k = Fk at *
                generalize fn ls i = Gi at *
                generalize fn ls k = Gk at *
                by_cases c1 : Fk < Fi
                · by_cases c2 : 0 < Fk
                  · have c3 : Gi ≤ Gk := HM.out c1 c2
                    have d1 : decide (Fk < Fi) = true := by simpa using c1
                    have d3 : decide (Gk < Gi) = false := by simp; omega
                    go_wp2_with fail
                    go_quiet (fail)
                    go_wp2_with fail
                    go_roundw
                    case rel => exact ⟨k + 1, by omega, by go_num, KS.drewN _⟩
                    case measure => simp [intOf]; omega
                  · have c2' : Fk = 0 := by omega
                    subst c2'
                    go_wp2_with fail
                    go_quiet (fail)
                    go_wp2_with fail
                    go_roundw
                    case rel => exact ⟨k + 1, by omega, by go_num, KS.drewN _⟩
                    case measure => simp [intOf]; omega
                · have d1 : decide (Fk < Fi) = false := by simp; omega
                  go_wp2_with fail
                  go_quiet (fail)
                  go_wp2_with fail
                  go_roundw
                  case rel => exact ⟨k + 1, by omega, by go_num, KS.drewN _⟩
                  case measure => simp [intOf]; omega
              · obtain rfl : k = zs.length := by omega
                go_wp2_with fail
                go_roundw
                case rel => exact ⟨i + 1, by omega, by go_num, KS⟩
                case measure => simp [intOf]; omega
          · have du : ((u : Int) == 1) = false := by simp; omega
            clear hu1
            go_wp2_with fail
            go_quiet (fail)
            have KQ := KR.drewN nq
            generalize wr.drewN nq = wq at KQ ⊢
            clear el ef KR
            go_wp2_with fail
            go_loopw [10] (fun y w8 => ∃ k : Nat, k ≤ zs.length ∧ y = .int .i64 k ∧ Keep [] w4 w8) (fun y _ => zs.length - (intOf y).toNat)
            case atStart => exact ⟨0, by omega, rfl, KQ⟩
            case round =>
              clear KQ
              obtain ⟨k, hk, rfl, KS⟩ := hrel
              by_cases hltk : k < zs.length
              · have hmono := HG.out.mono i k hlt hltk
                obtain ⟨bei, oei, cpei, hv, ei⟩ := HZ.out _ KS i hlt
                simp only [Value.slice.injEq] at hv
                obtain ⟨h1, h2, rfl⟩ := hv
                clear h2
                injection h1 with h1
                injection h1 with h1 h2 _
                subst h1 h2
                obtain ⟨bgi, ogi, cpgi, hv, gi⟩ := HL.out _ KS i hlt
                simp only [Value.slice.injEq] at hv
                obtain ⟨h1, h2, rfl⟩ := hv
                clear h2
                injection h1 with h1
                injection h1 with h1 h2 _
                subst h1 h2
                obtain ⟨bek, oek, cpek, hv, ek⟩ := HZ.out _ KS k hltk
                simp only [Value.slice.injEq] at hv
                obtain ⟨h1, h2, rfl⟩ := hv
                clear h2
                injection h1 with h1
                injection h1 with h1 h2 _
                subst h1 h2
                obtain ⟨bgk, ogk, cpgk, hv, gk⟩ := HL.out _ KS k hltk
                simp only [Value.slice.injEq] at hv
                obtain ⟨h1, h2, rfl⟩ := hv
                clear h2
                injection h1 with h1
                injection h1 with h1 h2 _
                subst h1 h2
                have HM := Lib.hid hmono
                clear hmono
                generalize fn zs i = Fi at *
                generalize fn zs k = Fk at *
                generalize fn ls i = Gi at *
                generalize fn ls k = Gk at *
                by_cases c1 : Fk < Fi
                · by_cases c2 : 0 < Fk
                  · have c3 : Gi ≤ Gk := HM.out c1 c2
                    have d1 : decide (Fk < Fi) = true := by simpa using c1
                    have d3 : decide (Gk < Gi) = false := by simp; omega
                    go_wp2_with fail
                    go_quiet (fail)
                    go_wp2_with fail
                    go_roundw
                    case rel => exact ⟨k + 1, by omega, by go_num, KS.drewN _⟩
                    case measure => simp [intOf]; omega
                  · have c2' : Fk = 0 := by omega
                    subst c2'
                    go_wp2_with fail
                    go_quiet (fail)
                    go_wp2_with fail
                    go_roundw
                    case rel => exact ⟨k + 1, by omega, by go_num, KS.drewN _⟩
                    case measure => simp [intOf]; omega
                · have d1 : decide (Fk < Fi) = false := by simp; omega
                  go_wp2_with fail
                  go_quiet (fail)
                  go_wp2_with fail
                  go_roundw
                  case rel => exact ⟨k + 1, by omega, by go_num, KS.drewN _⟩
                  case measure => simp [intOf]; omega
              · obtain rfl : k = zs.length := by omega
                go_wp2_with fail
                go_roundw
                case rel => exact ⟨i + 1, by omega, by go_num, KS⟩
                case measure => simp [intOf]; omega
        · have hG : fn ls i ≠ 0 := fun e => hF (hzero.1 e)
          have dF : ((fn zs i : Nat) : Int) ≠ 0 := by omega
          have dG : ((fn ls i : Nat) : Int) ≠ 0 := by omega
          have dF2 : (((fn zs i : Nat) : Int) == 0) = false := by simp; omega
          have dG2 : (((fn ls i : Nat) : Int) == 0) = false := by simp; omega
          have dn : decide (((fn ls i : Nat) : Int) < 0) = false := by rw [decide_eq_false_iff_not]; omega
          by_cases hu1 : u = 1
          · have du : ((u : Int) == 1) = true := by simp; omega
            have h1 := hone hu1
            have dl : decide ((1 : Int) < ((fn ls i : Nat) : Int)) = false := by simp; omega
            have dl2 : decide (1 < fn ls i) = false := by simp; omega
            clear hone hzero hu1 h1 dF dG hF hG
            go_wp2_with fail
            go_quiet (fail)
            have KQ := KR.drewN nq
            generalize wr.drewN nq = wq at KQ ⊢
            clear el ef KR
            go_wp2_with fail
            go_loopw [10] (fun y w8 => ∃ k : Nat, k ≤ zs.length ∧ y = .int .i64 k ∧ Keep [] w4 w8) (fun y _ => zs.length - (intOf y).toNat)
            case atStart => exact ⟨0, by omega, rfl, KQ⟩
            case round =>
              clear KQ
              obtain ⟨k, hk, rfl, KS⟩ := hrel
              by_cases hltk : k < zs.length
              · have hmono := HG.out.mono i k hlt hltk
                obtain ⟨bei, oei, cpei, hv, ei⟩ := HZ.out _ KS i hlt
                simp only [Value.slice.injEq] at hv
                obtain ⟨h1, h2, rfl⟩ := hv
                clear h2
                injection h1 with h1
                injection h1 with h1 h2 _
                subst h1 h2
                obtain ⟨bgi, ogi, cpgi, hv, gi⟩ := HL.out _ KS i hlt
                simp only [Value.slice.injEq] at hv
                obtain ⟨h1, h2, rfl⟩ := hv
                clear h2
                injection h1 with h1
                injection h1 with h1 h2 _
                subst h1 h2
                obtain ⟨bek, oek, cpek, hv, ek⟩ := HZ.out _ KS k hltk
                simp only [Value.slice.injEq] at hv
                obtain ⟨h1, h2, rfl⟩ := hv
                clear h2
                injection h1 with h1
                injection h1 with h1 h2 _
                subst h1 h2
                obtain ⟨bgk, ogk, cpgk, hv, gk⟩ := HL.out _ KS k hltk
                simp only [Value.slice.injEq] at hv
                obtain ⟨h1, h2, rfl⟩ := hv
                clear h2
                injection h1 with h1
                injection h1 with h1 h2 _
                subst h1 h2
                have HM := Lib.hid hmono
                clear hmono
                generalize fn zs i = Fi at *
                generalize fn zs k = Fk at *
                generalize fn ls i = Gi at *
                generalize fn ls k = Gk at *
                by_cases c1 : Fk < Fi
                · by_cases c2 : 0 < Fk
                  · have c3 : Gi ≤ Gk := HM.out c1 c2
                    have d1 : decide (Fk < Fi) = true := by simpa using c1
                    have d3 : decide (Gk < Gi) = false := by simp; omega
                    go_wp2_with fail
                    go_quiet (fail)
                    go_wp2_with fail
                    go_roundw
                    case rel => exact ⟨k + 1, by omega, by go_num, KS.drewN _⟩
                    case measure => simp [intOf]; omega
                  · have c2' : Fk = 0 := by omega
                    subst c2'
                    go_wp2_with fail
                    go_quiet (fail)
                    go_wp2_with fail
                    go_roundw
                    case rel => exact ⟨k + 1, by omega, by go_num, KS.drewN _⟩
                    case measure => simp [intOf]; omega
                · have d1 : decide (Fk < Fi) = false := by simp; omega
                  go_wp2_with fail
                  go_quiet (fail)
                  go_wp2_with fail
                  go_roundw
                  case rel => exact ⟨k + 1, by omega, by go_num, KS.drewN _⟩
                  case measure => simp [intOf]; omega
              · obtain rfl : k = zs.length := by omega
                go_wp2_with fail
                go_roundw
                case rel => exact ⟨i + 1, by omega, by go_num, KS⟩
                case measure => simp [intOf]; omega
          · have du : ((u : Int) == 1) = false := by simp; omega
            clear hone hzero hu1 dF dG hF hG
            go_wp2_with fail
            go_quiet (fail)
            have KQ := KR.drewN nq
            generalize wr.drewN nq = wq at KQ ⊢
            clear el ef KR
            go_wp2_with fail
            go_loopw [10] (fun y w8 => ∃ k : Nat, k ≤ zs.length ∧ y = .int .i64 k ∧ Keep [] w4 w8) (fun y _ => zs.length - (intOf y).toNat)
            case atStart => exact ⟨0, by omega, rfl, KQ⟩
            case round =>
              clear KQ
              obtain ⟨k, hk, rfl, KS⟩ := hrel
              by_cases hltk : k < zs.length
              · have hmono := HG.out.mono i k hlt hltk
                obtain ⟨bei, oei, cpei, hv, ei⟩ := HZ.out _ KS i hlt
                simp only [Value.slice.injEq] at hv
                obtain ⟨h1, h2, rfl⟩ := hv
                clear h2
                injection h1 with h1
                injection h1 with h1 h2 _
                subst h1 h2
                obtain ⟨bgi, ogi, cpgi, hv, gi⟩ := HL.out _ KS i hlt
                simp only [Value.slice.injEq] at hv
                obtain ⟨h1, h2, rfl⟩ := hv
                clear h2
                injection h1 with h1
                injection h1 with h1 h2 _
                subst h1 h2
                obtain ⟨bek, oek, cpek, hv, ek⟩ := HZ.out _ KS k hltk
                simp only [Value.slice.injEq] at hv
                obtain ⟨h1, h2, rfl⟩ := hv
                clear h2
                injection h1 with h1
                injection h1 with h1 h2 _
                subst h1 h2
                obtain ⟨bgk, ogk, cpgk, hv, gk⟩ := HL.out _ KS k hltk
                simp only [Value.slice.injEq] at hv
                obtain ⟨h1, h2, rfl⟩ := hv
                clear h2
                injection h1 with h1
                injection h1 with h1 h2 _
                subst h1 h2
                have HM := Lib.hid hmono
                clear hmono
                generalize fn zs i = Fi at *
                generalize fn zs k = Fk at *
                generalize fn ls i = Gi at *
                generalize fn ls k = Gk at *
                by_cases c1 : Fk < Fi
                · by_cases c2 : 0 < Fk
                  · have c3 : Gi ≤ Gk := HM.out c1 c2
                    have d1 : decide (Fk < Fi) = true := by simpa using c1
                    have d3 : decide (Gk < Gi) = false := by simp; omega
                    go_wp2_with fail
                    go_quiet (fail)
                    go_wp2_with fail
                    go_roundw
                    case rel => exact ⟨k + 1, by omega, by go_num, KS.drewN _⟩
                    case measure => simp [intOf]; omega
                  · have c2' : Fk = 0 := by omega
                    subst c2'
                    go_wp2_with fail
                    go_quiet (fail)
                    go_wp2_with fail
                    go_roundw
                    case rel => exact ⟨k + 1, by omega, by go_num, KS.drewN _⟩
                    case measure => simp [intOf]; omega
                · have d1 : decide (Fk < Fi) = false := by simp; omega
                  go_wp2_with fail
                  go_quiet (fail)
                  go_wp2_with fail
                  go_roundw
                  case rel => exact ⟨k + 1, by omega, by go_num, KS.drewN _⟩
                  case measure => simp [intOf]; omega
              · obtain rfl : k = zs.length := by omega
                go_wp2_with fail
                go_roundw
                case rel => exact ⟨i + 1, by omega, by go_num, KS⟩
                case measure => simp [intOf]; omega
      · obtain rfl : i = zs.length := by omega
        go_wp2_with fail
        refine (HWT.out _ KR).mono ?_; rintro e w8 ⟨y, rfl, hy, n8, rfl⟩
        have hy2 : y = (pw zs ls zs.length : Nat) := by
          rcases hy with ⟨_, h⟩ | ⟨h, _⟩
          · exact h
          · exact absurd HOK.out h
        have hfull := fun h => HG.out.full (by rw [HU.out]; exact h)
        rw [← pw_all] at hfull
        have HFU := Lib.hid hfull
        clear hfull hy
        generalize pw zs ls zs.length = p at *
        subst hy2
        by_cases hu2 : 2 ≤ u
        · have hp := HFU.out hu2
          subst hp
          have du : ¬ (u < 2) := by omega
          go_wp2_with fail
          refine (lives_c _).mono ?_; rintro e w12 ⟨rfl, k12⟩
          go_wp2_with fail
          go_ret
          exact ⟨rfl, (K4.trans (KR.drewN n8) (by simp)).trans k12 (by simp)⟩
        · have du : u < 2 := by omega
          go_wp2_with fail
          refine (lives_c _).mono ?_; rintro e w12 ⟨rfl, k12⟩
          go_wp2_with fail
          go_ret
          exact ⟨rfl, (K4.trans (KR.drewN n8) (by simp)).trans k12 (by simp)⟩
  · have hf : mayF zs most = false := by simpa using hmay
    obtain ⟨rfl, rfl⟩ := hnil hf
    obtain ⟨al, capl, rfl, _⟩ := hls.sh
    rw [hf]
    clear hbest hmay hnil hf
    go_wp2_with fail
    refine (lives_c _).mono ?_; rintro e w12 ⟨rfl, k12⟩
    go_wp2_with fail
    go_ret
    exact ⟨rfl, (K4.drewN n5).trans k12 (by simp)⟩
end Go.Proofs.Ytibhelfiibincaa
