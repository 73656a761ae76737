/- The walk of the law LimitBest: it returns true at every input. -/
import Derived.Test.YtibhelfiibincaaLimLaw1
namespace Go.Proofs.Ytibhelfiibincaa
set_option linter.unusedVariables false
set_option linter.unusedSimpArgs false
open Go.ChangeShapes Go.WideShapes Go.ChangeAt Go.RowKit

/-- other lengths, and none where a symbol does not come -/
def ms (zs os : List Int) (k : Nat) : List Int := (List.range k).map fun i => if fn zs i = 0 then 0 else zn os i
theorem ms_succ (zs os : List Int) (k : Nat) : ms zs os (k + 1) = ms zs os k ++ [if fn zs k = 0 then 0 else zn os k] := by simp [ms, List.range_succ]
theorem ms_len (zs os : List Int) (k : Nat) : (ms zs os k).length = k := by simp [ms]
theorem zn_ms (zs os : List Int) (k i : Nat) (h : i < k) : zn (ms zs os k) i = if fn zs i = 0 then 0 else zn os i := by
  simp [zn, ms, h]
theorem fn_ms (zs os : List Int) (k i : Nat) (h : i < k) : fn (ms zs os k) i = if fn zs i = 0 then 0 else fn os i := by
  have := zn_ms zs os k i h
  show (zn (ms zs os k) i).toNat = _
  rw [this]
  by_cases h0 : fn zs i = 0
  · rw [if_pos h0, if_pos h0]; rfl
  · rw [if_neg h0, if_neg h0]; rfl
theorem own_step {w1 wr w7 : World} {nv nv7 : Value} (o : Obj) (hK : Keep [] w1 wr) (hB : ∀ b, nv.ownBlock = some b → w1.heap.size ≤ b) (k7 : Keep nv.ownBlock.toList (wr.alloc o) w7) (hp7 : ∀ b, nv7.ownBlock = some b → nv.ownBlock = some b ∨ b = (wr.alloc o).heap.size) :
    Keep [] w1 w7 ∧ ∀ b, nv7.ownBlock = some b → w1.heap.size ≤ b := by
  refine ⟨(hK.alloc o).trans k7 (fun b hb => .inr (hB b (by simpa using hb))), fun b hb => ?_⟩
  rcases hp7 b hb with h | h
  · exact hB b h
  · subst h; have := hK.size; simp; omega
theorem best_cmp (zs ls os : List Int) (most : Int) (hmost : 1 ≤ most ∧ most ≤ 16) (hf : okF zs = true) (hN : zs.length ≤ 60) (hb : BestL zs ls most) (ho : LenOK zs os most.toNat zs.length) (hw : pw zs os zs.length ≤ 65536) :
    IntKind.i64.wrap (isum zs ls zs.length) ≤ IntKind.i64.wrap (isum zs (ms zs os zs.length) zs.length) := by
  obtain ⟨hll, hlz, hg⟩ := hb
  have hz : ∀ i, i < zs.length → 0 ≤ zn zs i ∧ fn zs i ≤ 1099511627776 := fun i hi => by
    have := okF_get hf i hi
    rw [zn_get zs i hi]; omega
  have hl : ∀ i, i < zs.length → 0 ≤ zn ls i ∧ fn ls i ≤ 16 := fun i hi => by
    have h1 := hlz (ls[i]'(by omega)) (List.getElem_mem _)
    rw [zn_get ls i (by omega), fn_get ls i (by omega)]; omega
  have hm : ∀ i, i < zs.length → 0 ≤ zn (ms zs os zs.length) i ∧ fn (ms zs os zs.length) i ≤ 16 := fun i hi => by
    rw [zn_ms _ _ _ _ hi, fn_ms _ _ _ _ hi]
    by_cases h0 : fn zs i = 0
    · rw [if_pos h0, if_pos h0]; omega
    · rw [if_neg h0, if_neg h0]
      have := (ho i hi h0).2
      unfold fn zn at *; omega
  rw [isum_nat zs ls _ (fun i hi => (hz i hi).1) (fun i hi => (hl i hi).1), isum_nat zs _ _ (fun i hi => (hz i hi).1) (fun i hi => (hm i hi).1)]
  have b1 := cost_bound zs ls _ hN (fun i hi => (hz i hi).2) (fun i hi => (hl i hi).2)
  have b2 := cost_bound zs (ms zs os zs.length) _ hN (fun i hi => (hz i hi).2) (fun i hi => (hm i hi).2)
  have hc : cost zs.length (fn zs) (fn ls) ≤ cost zs.length (fn zs) (fn os) := hg.best (fn os) (fun i hi hF => by
    have := (ho i hi hF).2
    unfold fn zn at *; omega) hw
  have he : cost zs.length (fn zs) (fn (ms zs os zs.length)) = cost zs.length (fn zs) (fn os) := by
    unfold cost
    refine sm_congr _ _ _ (fun i hi => ?_)
    rw [fn_ms _ _ _ _ hi]
    by_cases h0 : fn zs i = 0
    · rw [h0]; simp
    · rw [if_neg h0]
  rw [he] at b2 ⊢
  rw [IntKind.wrap_i64, IntKind.wrap_i64]
  omega
set_option maxRecDepth 100000 in
set_option maxHeartbeats 2000000 in
theorem best_w (W : World) (v0 : Value) (zs0 : List Int) (h0 : Is .i64 W v0 zs0) (most : Int) (hmw : (Lit.int .i64 most).wf = true) (v1 : Value) (os : List Int) (h1 : Is .i64 W v1 os) : Calls Try.prog 4 #[v0, .int .i64 most, v1] W fun e w' => e = .returned (.bool true) ∧ Keep [] W w' := by
  go_enter Try.func4, Try.ntmps4
  go_wp2_with fail
  refine (few_c W v0 zs0 60 (by omega) h0).mono ?_; rintro e w1 ⟨va, rfl, ha, rfl⟩
  have hlz : (zs0.take 60).length ≤ 60 := by rw [List.length_take]; omega
  generalize zs0.take 60 = zs at ha hlz
  clear h0
  go_wp2_with fail
  refine (lim_lengths W va zs most ha hmw).mono ?_; rintro e w1 ⟨vl, ls, er, rfl, hls, k1, hnil, hbest⟩
  by_cases hmay : mayF zs most = true
  · obtain ⟨rfl, hB⟩ := hbest hmay
    obtain ⟨hm1, hm2, _, hokf, _⟩ := (mayF_iff zs most).1 hmay
    obtain ⟨M, rfl⟩ : ∃ M : Nat, most = M := ⟨most.toNat, by omega⟩
    have HW := Lib.hid (refweight_c w1 va v1 zs os M (by omega) hokf (by omega) (ha.keep k1 (by simp)) (h1.keep k1 (by simp)))
    have HCMP := Lib.hid (best_cmp zs ls os M ⟨hm1, hm2⟩ hokf hlz hB)
    have HCL := Lib.hid (fun w' (k : Keep [] w1 w') => lim_cost w' va vl zs ls (ha.keep (k1.trans k (by simp)) (by simp)) (hls.keep k (by simp)))
    have HCM := Lib.hid (fun w' (k : Keep [] w1 w') vm hm => lim_cost w' va vm zs (ms zs os zs.length) (ha.keep (k1.trans k (by simp)) (by simp)) hm)
    have HZ : Hid (∀ w' (k : Keep [] w1 w') i (hi : i < zs.length), ∃ b off cap, va = .slice (some ⟨b, off, none⟩) zs.length cap ∧ w'.cell? ⟨b, off + i, none⟩ = some (.int .i64 (fn zs i : Nat))) := by
      intro w' k i hi
      rw [← (okF_get hokf i hi).1]
      exact (ha.keep (k1.trans k (by simp)) (by simp)).at i hi
    have HO : Hid (∀ w' (k : Keep [] w1 w') i (hi : i < os.length), ∃ b off cap, v1 = .slice (some ⟨b, off, none⟩) os.length cap ∧ w'.cell? ⟨b, off + i, none⟩ = some (.int .i64 (zn os i)) ∧ (Lit.int .i64 (zn os i)).wf = true) := by
      intro w' k i hi
      rw [zn_get os i hi]
      obtain ⟨b, off, cap, e1, e2⟩ := (h1.keep (k1.trans k (by simp)) (by simp)).at i hi
      obtain ⟨_, _, _, _, _, _, _, h6⟩ := h1
      exact ⟨b, off, cap, e1, e2, h6 _ (List.getElem_mem hi)⟩
    obtain ⟨a0, cap0, rfl, _⟩ := ha.sh
    obtain ⟨a1, cap1, rfl, hol⟩ := h1.sh
    clear hbest hnil hmay hB hokf ha h1 hls hmw
    go_wp2_with fail
    refine HW.out.mono ?_; rintro e w2 ⟨y, rfl, hy, n2, rfl⟩
    by_cases hin : LenOK zs os M zs.length ∧ pw zs os zs.length ≤ 65536
    · obtain ⟨hL, hp⟩ := hin
      have hy2 : y = (pw zs os zs.length : Nat) := by
        rcases hy with ⟨_, h⟩ | ⟨h, _⟩
        · exact h
        · exact absurd hL h
      have HL := Lib.hid hL
      have HC2 := Lib.hid (HCMP.out hL hp)
      generalize pw zs os zs.length = p at hp hy2
      clear hy hL HW HCMP
      subst hy2
      have K0 : Keep [] w1 (w1.drewN n2) := (Keep.refl _ _).drewN _
      go_wp2_with fail
      go_loopw [10, 11] (fun x i wr => ∃ (k : Nat) (am : Option Addr) (cm : Nat), k ≤ zs.length ∧ i = .int .i64 k ∧ x = .slice am k cm ∧ OwnI wr (.slice am k cm) (ms zs os k) ∧ Keep [] w1 wr ∧ ∀ b, (Value.slice am k cm).ownBlock = some b → w1.heap.size ≤ b) (fun _ i _ => zs.length - (intOf i).toNat)
      case atStart => exact ⟨0, none, 0, by omega, rfl, rfl, OwnI.nil _, K0, fun b hb => by simp [Value.ownBlock] at hb⟩
      case round =>
        clear K0
        obtain ⟨k, am, cm, hk, rfl, rfl, hO, hK, hB⟩ := hrel
        by_cases hlt : k < zs.length
        · obtain ⟨b, off, cap, hv, e1⟩ := HZ.out _ hK k hlt
          simp only [Value.slice.injEq] at hv
          obtain ⟨h1, h2, rfl⟩ := hv
          clear h2
          subst h1
          have hms := ms_succ zs os k
          by_cases hF : fn zs k = 0
          · rw [if_pos hF] at hms
            have HMS := Lib.hid hms
            rw [hF] at e1
            clear hF hms
            have HML := Lib.hid (ms_len zs os (k + 1))
            go_wp2_with (at_builtin; ((refine wpList_appendI (.tmp 45) (.tmp 46) rfl rfl (.slice am k cm) (ms zs os k) (by first | rfl | simp) (hO.keep ((Keep.refl [] _).alloc _) (by simp)) _ [0] rfl (Is.lit _ [0] #[.int .i64 0] 1 rfl rfl (by decide) (by decide)) (by rw [ms_len]; simp; omega) ?_); (intro nv7 w7 E2 k7 hp7 _); (obtain ⟨K7, B7⟩ := own_step _ hK hB k7 hp7); (rw [← HMS.out] at E2); (obtain ⟨a7, c7, rfl, _⟩ := E2.is.sh); (rw [HML.out] at E2 B7); (clear k7 hp7 hO hK hB)))
            rw [HML.out]
            go_roundw
            case rel => exact ⟨k + 1, a7, c7, by omega, by go_num, rfl, E2, K7, B7⟩
            case measure => simp [intOf]; omega
          · rw [if_neg hF] at hms
            have HMS := Lib.hid hms
            have hlo := (HL.out k hlt hF).1
            obtain ⟨b', off', cap', hv, e2, hwf⟩ := HO.out _ hK k hlo
            simp only [Value.slice.injEq] at hv
            obtain ⟨h1, h2, rfl⟩ := hv
            clear h2
            subst h1
            have hne : ((fn zs k : Nat) : Int) ≠ 0 := by omega
            generalize zn os k = z at *
            generalize fn zs k = fz at *
            clear hF hms
            have HML := Lib.hid (ms_len zs os (k + 1))
            go_wp2_with (at_builtin; ((refine wpList_appendI (.tmp 48) (.tmp 53) rfl rfl (.slice am k cm) (ms zs os k) (by first | rfl | simp) (hO.keep ((Keep.refl [] _).alloc _) (by simp)) _ [z] rfl (Is.lit _ [z] #[.int .i64 z] 1 rfl rfl (by decide) (by simpa using hwf)) (by rw [ms_len]; simp; omega) ?_); (intro nv7 w7 E2 k7 hp7 _); (obtain ⟨K7, B7⟩ := own_step _ hK hB k7 hp7); (rw [← HMS.out] at E2); (obtain ⟨a7, c7, rfl, _⟩ := E2.is.sh); (rw [HML.out] at E2 B7); (clear k7 hp7 hO hK hB)))
            rw [HML.out]
            go_roundw
            case rel => exact ⟨k + 1, a7, c7, by omega, by go_num, rfl, E2, K7, B7⟩
            case measure => simp [intOf]; omega
        · obtain rfl : k = zs.length := by omega
          go_wp2_with fail
          refine (HCL.out _ hK).mono ?_; rintro e w3 ⟨rfl, n3, rfl⟩
          have hI := (hO.is).keep ((Keep.refl [] _).drewN n3) (by simp)
          go_wp2_with fail
          refine (HCM.out _ (hK.drewN n3) _ hI).mono ?_; rintro e w4 ⟨rfl, n4, rfl⟩
          have hle := HC2.out
          generalize IntKind.i64.wrap (isum zs ls zs.length) = x1 at *
          generalize IntKind.i64.wrap (isum zs (ms zs os zs.length) zs.length) = x2 at *
          clear hO hI
          go_wp2_with fail
          refine (lives_c _).mono ?_; rintro e w12 ⟨rfl, k12⟩
          go_wp2_with fail
          go_ret
          exact ⟨rfl, (k1.trans (hK.drewN _) (by simp)).trans k12 (by simp)⟩
    · have hbad : y < 0 ∨ 65536 < y := by
        rcases hy with ⟨a, b⟩ | ⟨a, b⟩
        · right
          have hgt : ¬ pw zs os zs.length ≤ 65536 := fun h => hin ⟨a, h⟩
          omega
        · left; omega
      clear hy hin HW HCMP HCL HCM HZ HO
      by_cases hneg : y < 0
      · clear hbad
        go_wp2_with fail
        refine (lives_c _).mono ?_; rintro e w12 ⟨rfl, k12⟩
        go_wp2_with fail
        go_ret
        exact ⟨rfl, (k1.drewN n2).trans k12 (by simp)⟩
      · have hbig : 65536 < y := by omega
        clear hbad
        go_wp2_with fail
        refine (lives_c _).mono ?_; rintro e w12 ⟨rfl, k12⟩
        go_wp2_with fail
        go_ret
        exact ⟨rfl, (k1.drewN n2).trans k12 (by simp)⟩
  · have hf : mayF zs most = false := by simpa using hmay
    obtain ⟨rfl, _⟩ := hnil hf
    clear hbest hmay hnil hf
    go_wp2_with fail
    refine (lives_c _).mono ?_; rintro e w12 ⟨rfl, k12⟩
    go_wp2_with fail
    go_ret
    exact ⟨rfl, k1.trans k12 (by simp)⟩
end Go.Proofs.Ytibhelfiibincaa
