/- Contracts of internal/bytealg.hashStrRev and LastIndexRabinKarp of bytes, of bytes.Equal and bytes.LastIndex of two bytes or more. -/
import Derived.Test.YtgohdhpokehflaaText
import Derived.Test.YtgohdhpokehflaaCutB
import Derived.Lib.LastIndexLaws
namespace Go.Proofs.Ytgohdhpokehflaa
set_option linter.unusedVariables false
set_option linter.unusedSimpArgs false
open Go.ChangeShapes Go.WideShapes Go.ChangeAt Go.RowKit

theorem hrev_step (l : List UInt8) (k : Nat) (hk : k < l.length) {h : Int} (hh : h = Lib.RK.H (l.drop (k + 1)).reverse % 4294967296) :
    (h * 16777619 % 4294967296 + ((l[k].toNat : Nat) : Int) % 4294967296) % 4294967296 = Lib.RK.H (l.drop k).reverse % 4294967296 := by
  rw [Lib.RK.step_mod l[k] hh, ← Lib.RK.H_snoc, List.drop_eq_getElem_cons hk, List.reverse_cons]
theorem rrev_step (l : List UInt8) (n j : Nat) (hn : 1 ≤ n) (hj : j + n < l.length) {g pw : Int} (hh : g = Lib.RK.H (Lib.RK.win l (j + 1) n).reverse % 4294967296) (hp : pw = 16777619 ^ n % 4294967296) :
    (g * 16777619 + ((l[j].toNat : Nat) : Int) - pw * (((l[j + n].toNat : Nat) : Int) % 4294967296)) % 4294967296 = Lib.RK.H (Lib.RK.win l j n).reverse % 4294967296 := by
  obtain ⟨m, rfl⟩ : ∃ m, n = m + 1 := ⟨n - 1, by omega⟩
  have e1 : Lib.RK.win l (j + 1) (m + 1) = Lib.RK.win l (j + 1) m ++ [l[j + (m + 1)]] := by
    have := Lib.RK.win_snoc l (j + 1) m (by omega)
    rw [this]; congr 2; congr 1; omega
  have e2 : Lib.RK.win l j (m + 1) = l[j] :: Lib.RK.win l (j + 1) m := Lib.RK.win_cons l j m (by omega)
  rw [e1, List.reverse_append] at hh
  rw [e2, List.reverse_cons]
  exact Lib.RK.roll_mod _ _ _ hh (by rw [List.length_reverse, Lib.RK.win_length _ _ _ (by omega)]; exact hp)

set_option maxHeartbeats 4000000 in
theorem hashrev_c (w : World) (v : Value) (d : List UInt8) (hd : d.length ≤ 140737488355328) (hpos : d ≠ []) (h : Bs w v d) : Calls Try.prog 43 #[v] w fun e w' => e = .returned (.tuple #[.int .u32 (Lib.RK.H d.reverse % 4294967296), .int .u32 (16777619 ^ d.length % 4294967296)]) ∧ w = w' := by
  rcases h.cases with ⟨h0, _⟩ | ⟨hp, b, off, cap, rfl, h1, h2, hb, hc⟩
  · exact absurd h0 hpos
  · unfold maxLen at h2
    clear h hpos
    go_enter Try.func43, Try.ntmps43
    go_wp2
    go_loop [4, 5] (fun vh vi => ∃ (k : Nat) (g : Int), k ≤ d.length ∧ vi = .int .i64 ((k : Int) - 1) ∧ vh = .int .u32 g ∧ Hid (g = Lib.RK.H (d.drop k).reverse % 4294967296)) (fun _ vi => (intOf vi + 1).toNat)
    case atStart => exact ⟨d.length, 0, Nat.le_refl _, rfl, rfl, by show (0 : Int) = _; rw [List.drop_of_length_le (Nat.le_refl _)]; rfl⟩
    case round =>
      obtain ⟨k, g, hk, rfl, rfl, hh⟩ := hrel
      by_cases hlt : 0 < k
      · obtain ⟨j, rfl⟩ : ∃ j, k = j + 1 := ⟨k - 1, by omega⟩
        have hj : j < d.length := by omega
        have e1 := hc j hj
        have e3 : ((j + 1 : Nat) : Int) - 1 = j := by omega
        rw [e3]
        have HS := Lib.hid (hrev_step d j hj hh.out)
        generalize d[j].toNat = x at e1 HS
        clear hc e3 hh
        go_wp2
        go_round
        case rel => exact ⟨j, _, by omega, rfl, rfl, HS⟩
        case measure => simp [intOf]
      · obtain rfl : k = 0 := by omega
        clear hc
        go_wp2
        go_loop [6, 7, 8] (fun vp vq vi => ∃ (i : Nat) (pw sq : Int), vi = .int .i64 i ∧ vp = .int .u32 pw ∧ vq = .int .u32 sq ∧ 0 ≤ pw ∧ pw < 4294967296 ∧ i ≤ d.length ∧ Hid (Lib.RK.PowInv d.length i pw sq)) (fun _ _ vi => (intOf vi).toNat)
        case atStart => exact ⟨d.length, 1, 16777619, rfl, rfl, rfl, by omega, by omega, Nat.le_refl _, Lib.RK.pow_start _⟩
        case round =>
          obtain ⟨i, pw, sq, rfl, rfl, rfl, p0, p1, hi, hinv⟩ := hrel
          have ea := and_one i (by omega)
          go_wp2
          · have ht : ((i : Int) % 2 != 0) = true := by assumption
            have ho : i % 2 = 1 := by simp at ht; omega
            go_round
            case rel => exact ⟨i / 2, _, _, by first | go_num | (congr 1; omega), rfl, rfl, by omega, by omega, by omega, Lib.RK.pow_odd hinv.out ho⟩
            case measure => simp [intOf]; omega
          · have ht : ((i : Int) % 2 != 0) = false := by assumption
            have he : i % 2 = 0 := by simp at ht; omega
            go_round
            case rel => exact ⟨i / 2, _, _, by first | go_num | (congr 1; omega), rfl, rfl, p0, p1, by omega, Lib.RK.pow_even hinv.out he⟩
            case measure => simp [intOf]; omega
          · have hi0 : i = 0 := by omega
            subst hi0
            have e1 : g = Lib.RK.H d.reverse % 4294967296 := by
              have := hh.out
              rwa [List.drop_zero] at this
            have e2 := Lib.RK.pow_end hinv.out p0 p1
            go_ret2
            rw [← e1, ← e2]
            exact ⟨rfl, rfl⟩
theorem equal_c (w : World) (v v' : Value) (l l' : List UInt8) (h : Bs w v l) (h' : Bs w v' l') : Calls Try.prog 41 #[v, v'] w fun e w' => e = .returned (.bool (decide (l = l'))) ∧ w = w' := by
  have t1 := h.text
  have t2 := h'.text
  have HT := Lib.hid (txt_eq l l')
  generalize txt l = x1 at t1 HT
  generalize txt l' = x2 at t2 HT
  go_enter Try.func41, Try.ntmps41
  go_wp2
  go_ret
  rw [HT.out]
  exact ⟨rfl, rfl⟩
/-- what is known at place j of the search downwards -/
def RKs (l d : List UInt8) (j : Nat) (g : Int) : Prop := g = Lib.RK.H (Lib.RK.win l j d.length).reverse % 4294967296
theorem rk_no (l d : List UInt8) (j : Nat) (hj : j + d.length ≤ l.length) {g hh : Int} (e1 : RKs l d j g) (e2 : hh = Lib.RK.H d.reverse % 4294967296) (hne : ¬ g = hh) : Lib.lastOcc l d (j + 1) = Lib.lastOcc l d j := by
  refine Lib.lastOcc_miss _ _ _ ?_
  rw [Lib.RK.occAt_win _ _ _ hj]
  simp only [beq_eq_false_iff_ne]
  intro e
  exact hne (by rw [e1, e2, e])
theorem rk_miss (l d : List UInt8) (j : Nat) (hj : j + d.length ≤ l.length) (h : ¬ (l.drop j).take d.length = d) : Lib.lastOcc l d (j + 1) = Lib.lastOcc l d j := by
  refine Lib.lastOcc_miss _ _ _ ?_
  rw [Lib.RK.occAt_win _ _ _ hj]
  simpa [Lib.RK.win] using h
theorem rk_hit (l d : List UInt8) (j : Nat) (hj : j + d.length ≤ l.length) (h : (l.drop j).take d.length = d) : Lib.lastOcc l d (j + 1) = j := by
  refine Lib.lastOcc_hit _ _ _ ?_
  rw [Lib.RK.occAt_win _ _ _ hj]
  simp [Lib.RK.win, h]

set_option maxRecDepth 100000 in
set_option maxHeartbeats 8000000 in
theorem lastrk_c (w : World) (v vd : Value) (l d : List UInt8) (hl : l.length ≤ 140737488355328) (h : Bs w v l) (h' : Bs w vd d) (hd : 1 ≤ d.length) (hdl : d.length ≤ l.length) : Calls Try.prog 42 #[v, vd] w fun e w' => e = .returned (.int .i64 (Lib.lastIndex l d)) ∧ ∃ n, w' = w.drewN n := by
  obtain ⟨last, hlast⟩ : ∃ last : Nat, last + d.length = l.length := ⟨l.length - d.length, by omega⟩
  have elast : (l.length : Int) - d.length = last := by omega
  have HL : Hid (Lib.lastIndex l d = Lib.lastOcc l d (last + 1)) := by
    unfold Hid Lib.lastIndex
    rw [if_pos hdl]; congr 1; omega
  have hsh := hashrev_c w vd d (by omega) (by rintro rfl; simp at hd) h'
  obtain ⟨hh, Hh⟩ : ∃ hh : Int, hh = Lib.RK.H d.reverse % 4294967296 := ⟨_, rfl⟩
  obtain ⟨pw, Hp⟩ : ∃ pw : Int, pw = 16777619 ^ d.length % 4294967296 := ⟨_, rfl⟩
  rw [← Hh, ← Hp] at hsh
  have Hsh := Lib.hid hsh; have HH := Lib.hid Hh; have HP := Lib.hid Hp
  clear hsh Hh Hp
  have htd := Lib.hid (fun n => h'.textN n)
  obtain ⟨vl, hsl, hbl, _⟩ := h.from last (last : Int) rfl (by omega)
  have htl := Lib.hid (fun n => hbl.textN n)
  have hlw : l.drop last = Lib.RK.win l last d.length := (List.take_of_length_le (by rw [List.length_drop]; omega)).symm
  have HLW := Lib.hid hlw
  have hcut := Lib.hid (fun (j : Nat) (hj : j + d.length ≤ l.length) => h.cut j (j + d.length) (j : Int) ((j : Int) + d.length) rfl (by omega) (by omega) hj)
  have Hsl := Lib.hid hsl
  clear hsl hbl hlw
  obtain ⟨ad, cd, rfl, _⟩ := h'.shape
  rcases h.cases with ⟨h0, _⟩ | ⟨hp, b, off, cap, rfl, h1, h2, hb, hc⟩
  · exfalso; have : l.length = 0 := by rw [h0]; rfl
    omega
  · unfold maxLen at h2
    have HC := Lib.hid hc; clear hc h h'
    go_enter Try.func42, Try.ntmps42
    go_wp2_with fail
    refine Hsh.out.mono ?_; rintro e w' ⟨rfl, rfl⟩
    go_wp2_with fail
    go_loop [9, 10] (fun vh vi => ∃ (k : Nat) (g : Int), last ≤ k ∧ k ≤ l.length ∧ vi = .int .i64 ((k : Int) - 1) ∧ vh = .int .u32 g ∧ Hid (g = Lib.RK.H (l.drop k).reverse % 4294967296)) (fun _ vi => (intOf vi + 1).toNat)
    case atStart => exact ⟨l.length, 0, by omega, Nat.le_refl _, rfl, rfl, by show (0 : Int) = _; rw [List.drop_of_length_le (Nat.le_refl _)]; rfl⟩
    case round =>
      obtain ⟨k, g, hk1, hk, rfl, rfl, hg⟩ := hrel
      by_cases hlt : last < k
      · obtain ⟨j, rfl⟩ : ∃ j, k = j + 1 := ⟨k - 1, by omega⟩
        have hj : j < l.length := by omega
        have e1 := HC.out j hj
        have e3 : ((j + 1 : Nat) : Int) - 1 = j := by omega
        rw [e3]
        have HS := Lib.hid (hrev_step l j hj hg.out)
        generalize l[j].toNat = x at e1 HS
        clear e3 hg
        have g1 : (last : Int) ≤ j := by omega
        go_wp2
        go_round
        case rel => exact ⟨j, _, by omega, by omega, rfl, rfl, HS⟩
        case measure => simp [intOf]
      · obtain rfl : k = last := by omega
        have g1 : ¬ (k : Int) ≤ k - 1 := by omega
        have hrk : RKs l d k g := by
          have := hg.out
          rw [HLW.out] at this
          exact this
        have HR := Lib.hid hrk; clear hrk hg
        have hsl := Hsl.out
        have ctl := htl.out
        have ctd := htd.out
        clear Hsh
        by_cases hA : g = hh ∧ l.drop k = d
        · have hcmp : ((txt (l.drop k)).toList == (txt d).toList) = true := by rw [txt_eq]; simpa using hA.2
          have hgh : (g == hh) = true := by simpa using hA.1
          have hres := rk_hit l d k (by omega) (by rw [← hA.2, List.length_drop]; exact List.take_of_length_le (by simp))
          have HRes := Lib.hid hres
          clear hres hA HLW htl htd
          generalize txt (l.drop k) = x1 at ctl hcmp
          generalize txt d = x2 at ctd hcmp
          go_wp2_with fail
          go_quiet (fail)
          go_wp2
          go_ret
          rw [HL.out, HRes.out]
          exact ⟨rfl, _, rfl⟩
        · have HL2 : Hid (Lib.lastIndex l d = Lib.lastOcc l d k) := by
            unfold Hid; rw [HL.out]
            by_cases hgh : g = hh
            · refine rk_miss l d k (by omega) ?_
              change ¬ Lib.RK.win l k d.length = d
              rw [← HLW.out]
              exact fun e => hA ⟨hgh, e⟩
            · exact rk_no l d k (by omega) HR.out HH.out hgh
          have key : ((g == hh) = true ∧ ((txt (l.drop k)).toList == (txt d).toList) = false) ∨ (g == hh) = false := by
            by_cases hgh : g = hh
            · left; refine ⟨by simpa using hgh, ?_⟩
              rw [txt_eq]; simpa using fun e => hA ⟨hgh, e⟩
            · right; simpa using hgh
          clear hA HLW htl HL
          generalize txt (l.drop k) = x1 at ctl key
          generalize hx2 : txt d = x2 at ctd key
          have HX2 := Lib.hid hx2; clear hx2
          rcases key with ⟨hgh, hcmp⟩ | hgh
          all_goals
            go_wp2_with fail
            go_quiet (fail)
            go_wp2
            clear hgh ctl hsl
            go_loopw [9, 11] (fun vh vi wr => ∃ (j : Nat) (g : Int), j ≤ k ∧ vi = .int .i64 ((j : Int) - 1) ∧ vh = .int .u32 g ∧ Hid (RKs l d j g) ∧ Hid (Lib.lastIndex l d = Lib.lastOcc l d j) ∧ ∃ n, wr = w.drewN n) (fun _ vi _ => (intOf vi + 1).toNat)
            case atStart => exact ⟨k, g, Nat.le_refl _, rfl, rfl, HR, HL2, _, rfl⟩
            case round =>
              obtain ⟨j1, g2, hj1, rfl, rfl, hg2, hl2, n, rfl⟩ := hrel
              by_cases hj0 : 0 < j1
              · obtain ⟨j, rfl⟩ : ∃ j, j1 = j + 1 := ⟨j1 - 1, by omega⟩
                have hjl : j + d.length < l.length := by omega
                have e1 := HC.out j (by omega)
                have e2 := HC.out (j + d.length) hjl
                have e3 : ((j + 1 : Nat) : Int) - 1 = j := by omega
                rw [e3]
                have HS := Lib.hid (rrev_step l d.length j hd hjl hg2.out HP.out)
                generalize l[j].toNat = x at e1 HS
                generalize l[j + d.length].toNat = y at e2 HS
                clear e3 hg2
                obtain ⟨vj, hsj, hbj, _⟩ := hcut.out j (by omega)
                rw [show j + d.length - j = d.length by omega] at hbj
                have ctj := fun n => hbj.textN n
                have HRn : Hid (RKs l d j ((g2 * 16777619 + (x : Int) - pw * ((y : Int) % 4294967296)) % 4294967296)) := HS.out
                have hform : ((g2 * 16777619 + (x : Int)) % 4294967296 - pw * ((y : Int) % 4294967296) % 4294967296) % 4294967296 = (g2 * 16777619 + (x : Int) - pw * ((y : Int) % 4294967296)) % 4294967296 := by
                  generalize pw * ((y : Int) % 4294967296) = T
                  omega
                have HForm := Lib.hid hform; clear hform
                have hwr : IntKind.i64.wrap ((j : Int) + d.length) = (j : Int) + d.length := by rw [IntKind.wrap_i64]; omega
                have ea : ((off : Int) + j) = ((off + j : Nat) : Int) := by omega
                clear hbj HS ea
                by_cases hA : (g2 * 16777619 + (x : Int) - pw * ((y : Int) % 4294967296)) % 4294967296 = hh ∧ (l.drop j).take d.length = d
                · have hcmp2 : ((txt ((l.drop j).take d.length)).toList == x2.toList) = true := by rw [← HX2.out, txt_eq]; simpa using hA.2
                  have hgh : ((g2 * 16777619 + (x : Int) - pw * ((y : Int) % 4294967296)) % 4294967296 == hh) = true := by simpa using hA.1
                  have hres := rk_hit l d j (by omega) hA.2
                  have HRes := Lib.hid hres
                  clear hres hA
                  generalize txt ((l.drop j).take d.length) = x3 at ctj hcmp2
                  go_wp2_with fail
                  go_quiet (fail)
                  go_wp2
                  go_ret
                  rw [hl2.out, HRes.out]
                  exact ⟨rfl, _, World.drewN_drewN _ _ _⟩
                · have HL3 : Hid (Lib.lastIndex l d = Lib.lastOcc l d j) := by
                    unfold Hid; rw [hl2.out]
                    by_cases hgh : (g2 * 16777619 + (x : Int) - pw * ((y : Int) % 4294967296)) % 4294967296 = hh
                    · exact rk_miss l d j (by omega) (fun e => hA ⟨hgh, e⟩)
                    · exact rk_no l d j (by omega) HRn.out HH.out hgh
                  have key2 : (((g2 * 16777619 + (x : Int) - pw * ((y : Int) % 4294967296)) % 4294967296 == hh) = true ∧ ((txt ((l.drop j).take d.length)).toList == x2.toList) = false) ∨ ((g2 * 16777619 + (x : Int) - pw * ((y : Int) % 4294967296)) % 4294967296 == hh) = false := by
                    by_cases hgh : (g2 * 16777619 + (x : Int) - pw * ((y : Int) % 4294967296)) % 4294967296 = hh
                    · left; refine ⟨by simpa using hgh, ?_⟩
                      rw [← HX2.out, txt_eq]; simpa using fun e => hA ⟨hgh, e⟩
                    · right; simpa using hgh
                  clear hA
                  generalize txt ((l.drop j).take d.length) = x3 at ctj key2
                  rcases key2 with ⟨hgh, hcmp2⟩ | hgh
                  all_goals
                    go_wp2_with fail
                    go_quiet (fail)
                    go_wp2
                    go_roundw
                    case rel => exact ⟨j, _, by omega, rfl, rfl, by unfold Hid; rw [HForm.out]; exact HRn.out, HL3, _, rfl⟩
                    case measure => simp [intOf]
              · obtain rfl : j1 = 0 := by omega
                go_wp2
                go_ret
                rw [hl2.out]
                exact ⟨rfl, _, rfl⟩
set_option maxHeartbeats 4000000 in
theorem lastindex_c (w : World) (v vd : Value) (l d : List UInt8) (hl : l.length ≤ 140737488355328) (h : Bs w v l) (h' : Bs w vd d) (hd : 2 ≤ d.length) : Calls Try.prog 38 #[v, vd] w fun e w' => e = .returned (.int .i64 (Lib.lastIndex l d)) ∧ ∃ n, w' = w.drewN n := by
  obtain ⟨a1, c1, rfl, k1, k2⟩ := h.shape
  obtain ⟨a2, c2, rfl, k3, k4⟩ := h'.shape
  unfold maxLen at k2 k4
  have n0 : ((d.length : Int) == 0) = false := beq_eq_false_iff_ne.2 (by omega)
  have n1 : ((d.length : Int) == 1) = false := beq_eq_false_iff_ne.2 (by omega)
  rcases Nat.lt_trichotomy d.length l.length with hlt | heq | hgt
  · have hrk := Lib.hid (lastrk_c w _ _ l d hl h h' (by omega) (by omega))
    have n2 : ((d.length : Int) == l.length) = false := beq_eq_false_iff_ne.2 (by omega)
    have n3 : ¬ (l.length : Int) < d.length := by omega
    go_enter Try.func38, Try.ntmps38
    go_wp2_with fail
    refine hrk.out.mono ?_; rintro e w' ⟨rfl, n, rfl⟩
    go_wp2_with fail
    go_ret
    exact ⟨rfl, n, rfl⟩
  · have heqc := Lib.hid (equal_c w _ _ l d h h')
    have n2 : ((d.length : Int) == l.length) = true := beq_iff_eq.2 (by omega)
    by_cases he : l = d
    · have hres : Lib.lastIndex l d = 0 := by
        unfold Lib.lastIndex; rw [if_pos (by omega), show l.length - d.length + 1 = 0 + 1 by omega]
        exact rk_hit l d 0 (by omega) (by rw [List.drop_zero, ← he]; exact List.take_of_length_le (Nat.le_refl _))
      have HRes := Lib.hid hres
      have hde : decide (l = d) = true := by simpa using he
      have HD := Lib.hid hde
      clear he hde hres heq
      go_enter Try.func38, Try.ntmps38
      go_wp2_with fail
      refine heqc.out.mono ?_; rintro e w' ⟨rfl, rfl⟩
      rw [HD.out]
      go_wp2_with fail
      go_ret
      rw [HRes.out]
      exact ⟨rfl, 0, rfl⟩
    · have hres : Lib.lastIndex l d = -1 := by
        unfold Lib.lastIndex; rw [if_pos (by omega), show l.length - d.length + 1 = 0 + 1 by omega]
        rw [rk_miss l d 0 (by omega) (by rw [List.drop_zero, heq, List.take_of_length_le (Nat.le_refl _)]; exact he)]
        rfl
      have HRes := Lib.hid hres
      have hde : decide (l = d) = false := by simpa using he
      have HD := Lib.hid hde
      clear he hde hres heq
      go_enter Try.func38, Try.ntmps38
      go_wp2_with fail
      refine heqc.out.mono ?_; rintro e w' ⟨rfl, rfl⟩
      rw [HD.out]
      go_wp2_with fail
      go_ret
      rw [HRes.out]
      exact ⟨rfl, 0, rfl⟩
  · have hres : Lib.lastIndex l d = -1 := by unfold Lib.lastIndex; rw [if_neg (by omega)]
    have HRes := Lib.hid hres; clear hres
    have n2 : ((d.length : Int) == l.length) = false := beq_eq_false_iff_ne.2 (by omega)
    have n3 : (l.length : Int) < d.length := by omega
    go_enter Try.func38, Try.ntmps38
    go_wp2
    go_ret
    rw [HRes.out]
    exact ⟨rfl, 0, rfl⟩
end Go.Proofs.Ytgohdhpokehflaa
