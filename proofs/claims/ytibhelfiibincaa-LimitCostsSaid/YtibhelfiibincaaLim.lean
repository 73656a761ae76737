/- Contracts of limit's calls, as the laws use them: Lengths answers best lengths. -/
import Derived.Test.YtibhelfiibincaaLim7
namespace Go.Proofs.Ytibhelfiibincaa
set_option linter.unusedVariables false
set_option linter.unusedSimpArgs false
open Go.ChangeShapes Go.WideShapes Go.ChangeAt Go.RowKit

/-- ls are best lengths of the frequencies zs -/
def BestL (zs ls : List Int) (most : Int) : Prop := ls.length = zs.length ∧ (∀ z ∈ ls, 0 ≤ z ∧ z ≤ 16) ∧ Good zs.length (fn zs) most.toNat (fn ls)
/-- how many of a row are taken, from the last row on -/
def Kd (n L : Nat) (c : Nat → Nat → Nat) : Nat → Nat
  | 0 => 2 * n - 2
  | i + 1 => 2 * (Kd n L c i - c (L - i) (Kd n L c i))
theorem pck_made (n L : Nat) (c : Nat → Nat → Nat) : Pck n L c (fun j => Kd n L c (L - j)) := by
  refine ⟨by simp [Kd], fun j hj => ?_⟩
  show Kd n L c (L - j) = 2 * (Kd n L c (L - (j + 1)) - c (j + 1) (Kd n L c (L - (j + 1))))
  rw [show L - j = (L - (j + 1)) + 1 by omega, Kd, show L - (L - (j + 1)) = j + 1 by omega]
/-- the symbols in os, the seldomest first -/
def ordOf (os : List Int) : List Nat := os.map Int.toNat
theorem ordOf_get (os : List Int) (r : Nat) (h : r < os.length) : (ordOf os).getD r 0 = oi os r := by
  unfold ordOf oi zn
  simp [List.getD_eq_getElem?_getD, h]
theorem ordOf_len (os : List Int) : (ordOf os).length = os.length := by simp [ordOf]
theorem ordOf_row {zs os : List Int} (h : os.Perm (ords zs zs.length)) : RowOf zs.length (fn zs) (ordOf os) := by
  have hp : (ordOf os).Perm ((List.range zs.length).filter fun i => decide (fn zs i ≠ 0)) := by
    have := h.map Int.toNat
    unfold ords at this
    rw [List.map_map] at this
    have e : (Int.toNat ∘ Int.ofNat) = id := by funext x; simp
    rw [e, List.map_id] at this
    exact this
  have hm := RowOf.made zs.length (fn zs)
  exact ⟨hp.nodup_iff.2 hm.1, fun i => by rw [hp.mem_iff]; exact hm.2 i⟩
section
variable {zs os : List Int}
theorem os_at (h : os.Perm (ords zs zs.length)) (r : Nat) (hr : r < os.length) : zn os r = (oi os r : Int) ∧ oi os r < zs.length := by
  have hm := ords_mem zs zs.length (zn os r) (h.mem_iff.1 (by rw [zn_get os r hr]; exact List.getElem_mem hr))
  unfold oi; omega
theorem os_inj (h : os.Perm (ords zs zs.length)) (r r' : Nat) (hr : r < os.length) (hr' : r' < os.length) (he : oi os r = oi os r') : r = r' := by
  have hn := (ordOf_row h).1
  have h1 := ordOf_get os r hr
  have h2 := ordOf_get os r' hr'
  have hl := ordOf_len os
  rw [List.getD_eq_getElem?_getD, List.getElem?_eq_getElem (by omega)] at h1 h2
  simp only [Option.getD_some] at h1 h2
  have hpw := List.pairwise_iff_getElem.1 hn
  rcases Nat.lt_trichotomy r r' with h3 | h3 | h3
  · exact absurd (by rw [h1, h2, he]) (hpw r r' (by omega) (by omega) h3)
  · exact h3
  · exact absurd (by rw [h1, h2, he]) (hpw r' r (by omega) (by omega) h3)
theorem zn_oi_out (h : os.Perm (ords zs zs.length)) (i : Nat) (hi : i < zs.length) (h0 : fn zs i = 0) : ∀ r, r < os.length → oi os r ≠ i := by
  intro r hr e
  have hm := (ordOf_row h).mem r (by rw [ordOf_len]; exact hr)
  rw [ordOf_get os r hr, e] at hm
  exact hm.2 h0
theorem best_few {ls : List Int} {M : Nat} (hM1 : 1 ≤ M) (hP : os.Perm (ords zs zs.length)) (hn : os.length ≤ 1) (hll : ls.length = zs.length) (hl : ∀ i, i < zs.length → zn ls i = if fn zs i = 0 then 0 else 1) : BestL zs ls M := by
  refine ⟨hll, fun z hz => ?_, ?_⟩
  · obtain ⟨i, hi, rfl⟩ := List.getElem_of_mem hz
    rw [← zn_get ls i hi, hl i (by omega)]
    split <;> omega
  · refine Good.of_few (by simpa using hM1) ?_ (fun i hi => ?_)
    · rw [(ordOf_row hP).used, ordOf_len]; exact hn
    · have := hl i hi
      by_cases h0 : fn zs i = 0
      · rw [if_pos h0] at this ⊢; exact fn_of_zn ls i 0 this
      · rw [if_neg h0] at this ⊢; exact fn_of_zn ls i 1 this
theorem best_pm {ls ws : List Int} {M : Nat} (hM : M ≤ 16) (hP : os.Perm (ords zs zs.length)) (hn : 2 ≤ os.length) (hn2 : os.length ≤ 2 ^ M) (hok : okF zs = true) (hS : Srt (fun x => zn zs x.toNat) os 0 os.length)
    (hwl : ws.length = os.length) (hw : ∀ i, i < os.length → zn ws i = zn zs (zn os i).toNat) :
    Lvs (fun r => fn zs ((ordOf os).getD r 0)) os.length M (lvW (fn ws) ws.length) (lvC (fn ws) ws.length) (lvT ws.length) ∧
    (ls.length = zs.length → Lk os ls (pmLen (lvC (fn ws) ws.length) (fun j => Kd os.length M (lvC (fn ws) ws.length) (M - j)) M) → BestL zs ls M) := by
  have hrow := ordOf_row hP
  have hzz : ∀ i, i < zs.length → zn zs i = (fn zs i : Int) := fun i hi => by rw [zn_get zs i hi]; exact (okF_get hok i hi).1
  have hL : Lvs (fun r => fn zs ((ordOf os).getD r 0)) os.length M (lvW (fn ws) ws.length) (lvC (fn ws) ws.length) (lvT ws.length) := by
    rw [hwl]
    refine lvs_made _ _ _ _ (fun i hi => ?_) (fun i j hij hj => ?_) (fun r hr => ?_)
    · show fn ws i = fn zs ((ordOf os).getD i 0)
      rw [ordOf_get os i hi]
      refine fn_of_zn ws i _ ?_
      rw [hw i hi]
      exact hzz _ (os_at hP i hi).2
    · show fn zs ((ordOf os).getD i 0) ≤ fn zs ((ordOf os).getD j 0)
      rw [ordOf_get os i (by omega), ordOf_get os j hj]
      have h1 := hS i j (Nat.zero_le _) hij hj
      have h2 := hzz _ (os_at hP i (by omega)).2
      have h3 := hzz _ (os_at hP j hj).2
      have h4 : zn zs (oi os i) ≤ zn zs (oi os j) := h1
      omega
    · have := (hrow.mem r (by rw [ordOf_len]; exact hr)).2
      show 0 < fn zs ((ordOf os).getD r 0)
      omega
  refine ⟨hL, fun hll hk => ?_⟩
  have hp := pck_made os.length M (lvC (fn ws) ws.length)
  refine ⟨hll, fun z hz => ?_, ?_⟩
  · obtain ⟨i, hi, rfl⟩ := List.getElem_of_mem hz
    rw [← zn_get ls i hi]
    by_cases h : ∃ r, r < os.length ∧ oi os r = i
    · obtain ⟨r, hr, rfl⟩ := h
      rw [hk.at_ r hr]
      have := pmLen_le (c := lvC (fn ws) ws.length) (K := fun j => Kd os.length M (lvC (fn ws) ws.length) (M - j)) (L := M) r
      omega
    · rw [hk.out i (fun r hr e => h ⟨r, hr, e⟩)]; omega
  · have hl2 : os.length = (ordOf os).length := (ordOf_len os).symm
    refine Good.of_pm (ordOf os) hrow (by simpa using hM) (by omega) (by simpa [← hl2] using hn2) _ _ _ _ (by rw [← hl2]; exact hL) (by rw [← hl2]; exact hp) (fun i hi h0 => ?_) (fun r hr => ?_)
    · exact fn_of_zn ls i 0 (hk.out i (zn_oi_out hP i hi h0))
    · rw [ordOf_get os r (by omega)]
      exact fn_of_zn ls _ _ (hk.at_ r (by omega))
end
set_option maxRecDepth 100000 in
set_option maxHeartbeats 4000000 in
theorem lim_lengths (w : World) (v : Value) (zs : List Int) (most : Int) (h : Is .i64 w v zs) (hmost : (Lit.int .i64 most).wf = true) : Calls Try.prog 9 #[v, .int .i64 most] w fun e w' => ∃ v' ls er, e = .returned (.tuple #[v', .int .i64 er]) ∧ Is .i64 w' v' ls ∧ Keep [] w w' ∧ (mayF zs most = false → er = 2 ∧ ls = []) ∧ (mayF zs most = true → er = 0 ∧ BestL zs ls most) := by
  have HIS := Lib.hid (fun w' (k : Keep [] w w') => h.keep k (by simp))
  obtain ⟨a, cap, rfl, hl⟩ := h.sh
  have HMB := Lib.hid (maybe_c w _ zs most h)
  clear h
  cases hmay : mayF zs most with
  | false =>
    rw [hmay] at HMB
    go_enter Try.func9, Try.ntmps9
    go_wp2_with fail
    refine HMB.out.mono ?_; rintro e w1 ⟨rfl, n1, rfl⟩
    go_wp2_with fail
    go_ret2
    exact ⟨_, [], 2, rfl, ⟨none, 0, rfl, by simp, by simp, fun _ => rfl, (fun x hx => nomatch hx), by simp⟩, (Keep.refl [] w).drewN _, fun _ => ⟨rfl, rfl⟩, fun h => by simp at h⟩
  | true =>
    rw [hmay] at HMB
    obtain ⟨m1, m2, m3, hok, m5⟩ := (mayF_iff zs most).1 hmay
    obtain ⟨M, rfl⟩ : ∃ M : Nat, most = M := ⟨most.toNat, by omega⟩
    simp only [Int.toNat_natCast] at m5
    have HOK := Lib.hid hok
    have HU := Lib.hid m5
    have hmk := fun w' => run_make_intsC w' zs.length zs.length (Nat.le_refl _) (by omega)
    clear hok m5 hmost hmay
    go_enter Try.func9, Try.ntmps9
    go_wp2_with fail
    refine HMB.out.mono ?_; rintro e w1 ⟨rfl, n1, rfl⟩
    clear HMB
    go_wp2_with fail
    clear hmk
    have K0 : Keep [] w ((w.drewN n1).alloc (.cells (madeCells #[.int .i64 0] zs.length) 3)) := ((Keep.refl [] w).drewN _).alloc _
    have hO := OwnI.made (w.drewN n1) zs.length (by omega)
    rw [show (w.drewN n1).heap.size = w.heap.size from rfl] at hO
    have HSZ : Hid (((w.drewN n1).alloc (.cells (madeCells #[.int .i64 0] zs.length) 3)).heap.size = w.heap.size + 1) := by
      have : (w.drewN n1).heap.size = w.heap.size := rfl
      unfold Hid; simp [this]
    generalize (w.drewN n1).alloc (.cells (madeCells #[.int .i64 0] zs.length) 3) = w2 at K0 hO HSZ ⊢
    obtain ⟨gl, hgl⟩ : ∃ x, w.heap.size = x := ⟨_, rfl⟩
    rw [hgl] at hO ⊢
    have HGL := Lib.hid hgl
    have HRI := Lib.hid (rising_c w2 _ zs m3 (HIS.out w2 K0))
    clear hgl
    refine HRI.out.mono ?_
    rintro e w3 ⟨go, co, os, rfl, O3, K3, hgo, P3, S3⟩
    have K03 : Keep [] w w3 := K0.trans K3 (by simp)
    have hO3 := hO.keep K3 (by simp)
    have HP := Lib.hid P3
    have HS := Lib.hid S3
    have HSL := Lib.hid O3.sl
    have hug : os.length ≤ 2 ^ M := by
      have h1 := (ordOf_row P3).used
      rw [ordOf_len] at h1
      have := HU.out; omega
    have hon : os.length ≤ 4096 := by
      have h1 := P3.length_eq
      have h2 := ords_len zs zs.length
      omega
    have hgne : gl ≠ go := by have := HSZ.out; have := HGL.out; omega
    have HUG := Lib.hid hug
    clear hug hO K0 K3 HRI P3 S3 HU
    by_cases hn0 : os.length = 0
    · have hb1 : ((os.length : Int) == 1) = false := by rw [beq_eq_false_iff_ne]; omega
      have hb2 : ¬ (os.length : Int) > 1 := by omega
      have HB : Hid (BestL zs (List.replicate zs.length 0) M) := best_few (by omega) HP.out (by omega) (by simp) (fun i hi => by
        rw [zn_rep]
        by_cases h0 : fn zs i = 0
        · rw [if_pos h0]
        · exfalso
          have hm := ((ordOf_row HP.out).2 i).2 ⟨hi, h0⟩
          have : ordOf os = [] := by rw [← List.length_eq_zero_iff, ordOf_len]; exact hn0
          rw [this] at hm; cases hm)
      have HI := Lib.hid hO3.is
      go_wp2_with fail
      go_ret2
      exact ⟨_, _, 0, rfl, HI.out, K03, fun h => by simp at h, fun _ => ⟨rfl, HB.out⟩⟩
    · by_cases hn1 : os.length = 1
      · obtain ⟨q1, q2⟩ := os_at HP.out 0 (by omega)
        have hb1 : ((os.length : Int) == 1) = true := by rw [beq_iff_eq]; omega
        have hb2 : ¬ (os.length : Int) > 1 := by omega
        have d1 := O3.cell 0 (by omega)
        rw [q1] at d1
        have d2 := hO3.cell (oi os 0) (by simpa using q2)
        have d3 := hO3.free (oi os 0)
        have HB : Hid (BestL zs ((List.replicate zs.length 0).set (oi os 0) 1) M) := best_few (by omega) HP.out (by omega) (by simp) (fun i hi => by
          rw [zn_set _ _ _ _ (by simpa using q2), zn_rep]
          by_cases h0 : fn zs i = 0
          · rw [if_pos h0, if_neg (fun e => zn_oi_out HP.out i hi h0 0 (by omega) e.symm)]
          · rw [if_neg h0]
            have hm := ((ordOf_row HP.out).2 i).2 ⟨hi, h0⟩
            obtain ⟨r, hr, e⟩ := List.getElem_of_mem hm
            rw [ordOf_len] at hr
            have h1 := ordOf_get os r hr
            rw [List.getD_eq_getElem?_getD, List.getElem?_eq_getElem (by rw [ordOf_len]; exact hr), Option.getD_some, e, show r = 0 by omega] at h1
            rw [if_pos h1])
        have HI := Lib.hid (hO3.store (oi os 0) 1 (by decide)).is
        have K4 : Keep [] w (w3.setCell ⟨gl, oi os 0, none⟩ (.int .i64 1)) := K03.setCell (.inr (by have := HGL.out; simp; omega)) _
        have q2z : ((oi os 0 : Nat) : Int) < (zs.length : Int) := by omega
        have hn1z : (0 : Int) < (os.length : Int) := by omega
        generalize oi os 0 = s at *
        clear q1 hO3 O3 hn0
        go_wp2_with fail
        go_ret2
        exact ⟨_, _, 0, rfl, HI.out, K4, fun h => by simp at h, fun _ => ⟨rfl, HB.out⟩⟩
      · have hb1 : ((os.length : Int) == 1) = false := by rw [beq_eq_false_iff_ne]; omega
        have hb2 : (os.length : Int) > 1 := by omega
        have HW := Lib.hid (weights_c w3 _ _ zs os (by omega) (HIS.out w3 K03) O3.is (fun i hi => by have := os_at HP.out i hi; omega))
        have HK03 := Lib.hid K03
        have HO3 := Lib.hid O3
        have HL3 := Lib.hid hO3
        clear K03 O3 hO3
        go_wp2_with fail
        refine HW.out.mono ?_
        rintro e w4 ⟨gw, ws, rfl, O4, K4, hgw, E4⟩
        have hwl : ws.length = os.length := O4.sl.1.symm
        have HF : Hid (∀ i, 0 ≤ zn ws i ∧ zn ws i ≤ 1099511627776) := fun i => by
          by_cases hi : i < os.length
          · rw [E4 i hi]
            have h1 := (os_at HP.out i hi).2
            have h2 := okF_get HOK.out (oi os i) h1
            rw [← zn_get zs _ h1] at h2
            have h3 : zn zs (zn os i).toNat = zn zs (oi os i) := rfl
            rw [h3]; omega
          · rw [zn_out ws i (by omega)]; omega
        have HRW := Lib.hid (rows_c w4 _ ws M (by omega) (by omega) O4.is HF.out)
        have HK4 : Hid (Keep [] w w4) := HK03.out.trans K4 (by simp)
        have HO4 := Lib.hid (HO3.out.keep K4 (by simp))
        have HL4 := Lib.hid (HL3.out.keep K4 (by simp))
        have HPM := Lib.hid (fun ls => best_pm (ls := ls) (M := M) (by omega) HP.out (by omega) HUG.out HOK.out HS.out hwl E4)
        have hwz : (ws.length : Int) = (os.length : Int) := by omega
        have HWL := Lib.hid hwl
        have hgc3 : w3.heap.size ≤ w4.heap.size := K4.size
        have HGC : Hid (w2.heap.size ≤ w4.heap.size) := by
          have := HSZ.out; have h2 := HL4.out.sl.2.2.2; have := HGL.out; unfold Hid; omega
        clear O4 K4 E4 HW HK03 HO3 HL3 hgw hwl hgc3 HF hwz
        go_wp2_with fail
        refine HRW.out.mono ?_
        rintro e w5 ⟨gc, rfl, C5, K5, hgc⟩
        have hLv := (HPM.out []).1
        have hPk := pck_made os.length M (lvC (fn ws) ws.length)
        have HTK := Lib.hid (take_c w5 gl go gc zs.length co M os (lvT ws.length) (lvC (fn ws) ws.length) (fun j => Kd os.length M (lvC (fn ws) ws.length) (M - j)) (by omega) (by omega) (by omega) hon HSL.out.2.1
          (HL4.out.keep K5 (by simp)) (HO4.out.keep K5 (by simp)) C5 hgne (by have := HL4.out.sl.2.2.2; omega) (fun r hr => os_at HP.out r hr) (fun r r' h1 h2 h3 => os_inj HP.out r r' h1 h2 h3)
          hPk.top hPk.down (fun j hj => by
            have h1 := hPk.le' hLv HUG.out (j + 1) (by omega)
            have h2 := hPk.vn hLv HUG.out j hj
            have h3 := lvT_le ws.length (j + 1)
            have := HWL.out
            exact ⟨h1, h2.1, h2.2, by omega⟩))
        have HK5 : Hid (Keep [] w w5) := HK4.out.trans K5 (by simp)
        clear C5 K5 hgc hLv hPk HRW HK4 HO4 HL4
        go_wp2_with fail
        refine HTK.out.mono ?_
        rintro e w6 ⟨rfl, ls, O6, K6, L6⟩
        have HBF : Hid (BestL zs ls M) := (HPM.out ls).2 O6.sl.1.symm L6
        have HI6 := Lib.hid O6.is
        have hl6 : ls.length = zs.length := O6.sl.1.symm
        have HK6 : Hid (Keep [] w w6) := HK5.out.trans K6 (fun x hx => .inr (by have := HGL.out; simp at hx; omega))
        clear O6 K6 L6 hl6 HTK HPM
        go_wp2_with fail
        go_ret2
        exact ⟨_, ls, 0, rfl, HI6.out, HK6.out, fun h => by simp at h, fun _ => ⟨rfl, HBF.out⟩⟩
end Go.Proofs.Ytibhelfiibincaa
