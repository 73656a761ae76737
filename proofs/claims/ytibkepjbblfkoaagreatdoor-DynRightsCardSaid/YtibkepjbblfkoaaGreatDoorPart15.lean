/- Texts put together: Srt2 Srt3 Srt4 Srt5 Srt6 Lim1 Lim2 Lim3 Lim4 Lim5 -/
import Derived.Test.YtibkepjbblfkoaaGreatDoorPart11
import Derived.Shelf.Abstract
import Derived.BigRegion
namespace Go.Proofs.YtibkepjbblfkoaaGreatDoor
set_option linter.unusedVariables false
set_option linter.unusedSimpArgs false
open Go.ChangeShapes Go.WideShapes Go.ChangeAt Go.RowKit

/-- what a comparison answers of two keys -/
def cmpK (x y : Int) : Int := if x < y then -1 else if y < x then 1 else 0
theorem cmpK_lt (x y : Int) (h : x < y) : decide (cmpK x y < 0) = true := by unfold cmpK; rw [if_pos h]; decide
theorem cmpK_ge (x y : Int) (h : ¬ x < y) : decide (cmpK x y < 0) = false := by
  unfold cmpK; rw [if_neg h]; split <;> decide
/-- the function fc, bound to cb, holds the keys of numbers with Pd against one another, in whatever world comes of w0 by turns of block g alone -/
def CmpBy (fc : Nat) (cb : Array Value) (Pd : Int → Prop) (kc : Int → Int) (w0 : World) (g : Nat) : Prop :=
  (∀ args w, (callFunc fc args).run Tryz.prog w = .ok (.enter fc args) w) ∧
  ∀ w, Keep [g] w0 w → ∀ x y, Pd x → Pd y → Calls Tryz.prog fc (#[.int .i64 x, .int .i64 y] ++ cb) w fun e w' => e = .returned (.int .i64 (cmpK (kc x) (kc y))) ∧ ∃ n, w' = w.drewN n
/-- what key says more than kc, the order of the row says already -/
def Sta (kc key : Int → Int) (zs : List Int) (n : Nat) : Prop := ∀ p q, p < q → q < n → key (zn zs q) < key (zn zs p) → kc (zn zs q) < kc (zn zs p)
theorem Sta.move {kc key : Int → Int} {zs zs' : List Int} {n : Nat} (h : Sta kc key zs n) (f : Nat → Nat) (hf : ∀ p, p < n → f p < n) (he : ∀ p, p < n → zn zs' p = zn zs (f p)) (hi : ∀ p q, p < q → q < n → f p < f q ∨ key (zn zs (f p)) ≤ key (zn zs (f q))) : Sta kc key zs' n := by
  intro p q h1 h2 h3
  rw [he p (by omega), he q h2] at h3 ⊢
  rcases hi p q h1 h2 with h4 | h4
  · exact h _ _ h4 (hf q h2) h3
  · omega
theorem Sta.back {kc key : Int → Int} {zs : List Int} {n j : Nat} (h : Sta kc key zs n) (hj0 : 0 < j) (hj : j < n) (hl : n = zs.length) (hlt : key (zn zs j) < key (zn zs (j - 1))) : Sta kc key (xch zs j (j - 1)) n := by
  refine h.move (fun p => if p = j - 1 then j else if p = j then j - 1 else p) (fun p hp => ?_) (fun p hp => ?_) (fun p q h1 h2 => ?_)
  · repeat' split
    all_goals omega
  · rw [xch_at _ _ _ _ (by omega) (by omega)]
    repeat' split
    all_goals first | rfl | omega
  · by_cases p1 : p = j - 1
    · rw [if_pos p1]
      by_cases q1 : q = j
      · rw [if_neg (by omega), if_pos q1]; right; omega
      · rw [if_neg (by omega), if_neg q1]; left; omega
    · rw [if_neg p1]
      by_cases p2 : p = j
      · rw [if_pos p2, if_neg (by omega), if_neg (by omega)]; left; omega
      · rw [if_neg p2]
        left
        repeat' split
        all_goals omega
/-- sorted by their keys -/
def Srt (key : Int → Int) (zs : List Int) (a b : Nat) : Prop := ∀ p q, a ≤ p → p ≤ q → q < b → key (zn zs p) ≤ key (zn zs q)
theorem SS.pd {Pd : Int → Prop} {w0 w : World} {g n cap : Nat} {z0 zs : List Int} (h : SS w0 g n cap z0 w zs) (hP : ∀ z ∈ z0, Pd z) (i : Nat) (hi : i < n) : Pd (zn zs i) := by
  refine hP _ (h.perm.mem_iff.1 ?_)
  have hl := h.len
  unfold zn
  rw [List.getD_eq_getElem?_getD, List.getElem?_eq_getElem (by omega)]
  exact List.getElem_mem _
/-- [a, i] is sorted but for the number at j, which is no greater than those behind it -/
def Ins (key : Int → Int) (zs : List Int) (a i j : Nat) : Prop :=
  (∀ p q, a ≤ p → p ≤ q → q ≤ i → p ≠ j → q ≠ j → key (zn zs p) ≤ key (zn zs q)) ∧ ∀ q, j < q → q ≤ i → key (zn zs j) ≤ key (zn zs q)
theorem Ins.start {key : Int → Int} {zs : List Int} {a i : Nat} (h : Srt key zs a i) : Ins key zs a i i :=
  ⟨fun p q h1 h2 h3 h4 h5 => h p q h1 h2 (by omega), fun q h1 h2 => by omega⟩
theorem Ins.step {key : Int → Int} {zs : List Int} {a i j : Nat} (h : Ins key zs a i j) (haj : a < j) (hji : j ≤ i) (hi : i < zs.length) (hlt : key (zn zs j) < key (zn zs (j - 1))) : Ins key (xch zs j (j - 1)) a i (j - 1) := by
  have hx := fun k => xch_at zs j (j - 1) k (by omega) (by omega)
  refine ⟨fun p q h1 h2 h3 h4 h5 => ?_, fun q h1 h2 => ?_⟩
  · rw [hx p, hx q, if_neg h4, if_neg h5]
    by_cases e1 : p = j
    · rw [if_pos e1]
      by_cases e2 : q = j
      · rw [if_pos e2]; exact Int.le_refl _
      · rw [if_neg e2]; exact h.1 (j - 1) q (by omega) (by omega) h3 (by omega) e2
    · rw [if_neg e1]
      by_cases e2 : q = j
      · rw [if_pos e2]; exact h.1 p (j - 1) h1 (by omega) (by omega) e1 (by omega)
      · rw [if_neg e2]; exact h.1 p q h1 h2 h3 e1 e2
  · rw [hx (j - 1), hx q, if_pos rfl, if_neg (by omega)]
    by_cases e2 : q = j
    · rw [if_pos e2]; omega
    · rw [if_neg e2]; exact h.2 q (by omega) h2
theorem Ins.done {key : Int → Int} {zs : List Int} {a i j : Nat} (h : Ins key zs a i j) (haj : a ≤ j) (hs : j = a ∨ ¬ key (zn zs j) < key (zn zs (j - 1))) : Srt key zs a (i + 1) := by
  intro p q h1 h2 h3
  by_cases e1 : p = j
  · by_cases e2 : q = j
    · rw [e1, e2]; exact Int.le_refl _
    · rw [e1]; exact h.2 q (by omega) (by omega)
  · by_cases e2 : q = j
    · rcases hs with hs | hs
      · omega
      · rw [e2]
        have : key (zn zs p) ≤ key (zn zs (j - 1)) := by
          by_cases e3 : p = j - 1
          · rw [e3]; exact Int.le_refl _
          · exact h.1 p (j - 1) h1 (by omega) (by omega) e1 (by omega)
        omega
    · exact h.1 p q h1 h2 (by omega) e1 e2
set_option maxRecDepth 100000 in
set_option maxHeartbeats 8000000 in
theorem insertion_c {w0 : World} {g n cap : Nat} {z0 : List Int} (fc : Nat) (cb : Array Value) (Pd : Int → Prop) (kc key : Int → Int) (hkc : ∀ x y, kc x < kc y → key x < key y) (hC : CmpBy fc cb Pd kc w0 g) (hP : ∀ z ∈ z0, Pd z) (hn : n < 4611686018427387904)
    (w : World) (zs : List Int) (a b : Nat) (hab : a ≤ b) (hb : b ≤ n) (S : SS w0 g n cap z0 w zs) (T : Sta kc key zs n) :
    Calls Tryz.prog 96 #[.slice (some ⟨g, 0, none⟩) n cap, .int .i64 a, .int .i64 b, .func (.func fc) #[] cb] w fun e w' => e = .returned (.tuple #[]) ∧ ∃ zs', SS w0 g n cap z0 w' zs' ∧ Sta kc key zs' n ∧ Srt key zs' a b ∧ ∀ p, p < a ∨ b ≤ p → zn zs' p = zn zs p := by
  have eg := hC.1
  have HC := Lib.hid hC.2
  have HP := Lib.hid hP
  have S0 := Lib.hid S
  have T0 := Lib.hid T
  have HK := Lib.hid hkc
  clear S hC hP T hkc
  go_enter Tryz.func96, Tryz.ntmps96
  go_wp2_with fail
  go_loopg [8] (b - a) (fun g1 vi wr => ∃ (i : Nat) (zk : List Int), vi = .int .i64 i ∧ a < i ∧ i ≤ b + 1 ∧ b + 1 - i ≤ g1 + 1 ∧ Hid (SS w0 g n cap z0 wr zk) ∧ Hid (Sta kc key zk n) ∧ Hid (Srt key zk a i) ∧ Hid (∀ p, p < a ∨ b ≤ p → zn zk p = zn zs p))
  case atStart => exact ⟨a + 1, zs, by go_num, by omega, by omega, by omega, S0.out, T0.out, fun p q h1 h2 h3 => by rw [show p = q by omega]; exact Int.le_refl _, fun p _ => rfl⟩
  case round =>
    clear S0 T0
    obtain ⟨i, zk, rfl, hai, hib, hg1, HS, HT, HO, HF⟩ := hrel
    by_cases hlt : i < b
    · have hltz : (i : Int) < (b : Int) := by omega
      go_wp2_with fail
      go_loopg [9] i (fun g2 vj wr2 => ∃ (j : Nat) (zj : List Int), vj = .int .i64 j ∧ a ≤ j ∧ j ≤ i ∧ j ≤ g2 ∧ Hid (SS w0 g n cap z0 wr2 zj) ∧ Hid (Sta kc key zj n) ∧ Hid (Ins key zj a i j) ∧ Hid (∀ p, p < a ∨ b ≤ p → zn zj p = zn zs p))
      case atStart => exact ⟨i, zk, rfl, by omega, Nat.le_refl _, Nat.le_refl _, HS, HT, Ins.start HO.out, HF.out⟩
      case round =>
        clear HS HT HO HF
        obtain ⟨j, zj, rfl, haj, hji, hg2, HS, HT, HI, HF⟩ := hrel
        by_cases hja : a < j
        · obtain ⟨jp, hjp⟩ : ∃ q, q = j - 1 := ⟨_, rfl⟩
          have hjad : decide ((j : Int) > (a : Int)) = true := decide_eq_true (by omega)
          have hjaz : (a : Int) < (j : Int) := by omega
          have rj : IntKind.i64.wrap ((j : Int) - 1) = (jp : Int) := by rw [IntKind.wrap_i64]; omega
          have hjp1 : jp < j := by omega
          have hjp2 : a ≤ jp := by omega
          have c1 := HS.out.cell j (by omega)
          have c2 := HS.out.cell jp (by omega)
          have f1 := HS.out.free j
          have f2 := HS.out.free jp
          have hjn : (j : Int) < (n : Int) := by omega
          have hjpn : (jp : Int) < (n : Int) := by omega
          have p1 := HS.out.pd HP.out j (by omega)
          have p2 := HS.out.pd HP.out jp (by omega)
          have hcm := fun m => HC.out (wr.drewN m) (HS.out.keep.drewN m) _ _ p1 p2
          have hks : key (zn zj j) < key (zn zj (j - 1)) ↔ kc (zn zj j) < kc (zn zj (j - 1)) := ⟨fun h => HT.out (j - 1) j (by omega) (by omega) h, fun h => HK.out _ _ h⟩
          have HKS := Lib.hid hks
          clear hks
          clear p1 p2
          by_cases hlv : key (zn zj j) < key (zn zj (j - 1))
          · have HX := Lib.hid (fun m => ((HS.out.drewN m).xch j jp (by omega) (by omega)).drew)
            have c3 := fun m => (HS.out.drewN m).c2 j jp (by omega) (by omega) (.int .i64 (zn zj jp))
            have HI2 : Hid (Ins key (xch zj j jp) a i jp) := by rw [hjp]; exact HI.out.step hja hji (by rw [HS.out.len]; omega) hlv
            have HT2 : Hid (Sta kc key (xch zj j jp) n) := by rw [hjp]; exact HT.out.back (by omega) (by omega) HS.out.len.symm hlv
            have HF2 : Hid (∀ p, p < a ∨ b ≤ p → zn (xch zj j jp) p = zn zs p) := fun p hp => by
              rw [xch_at _ _ _ _ (by rw [HS.out.len]; omega) (by rw [HS.out.len]; omega), if_neg (by omega), if_neg (by omega)]
              exact HF.out p hp
            have hd := cmpK_lt _ _ (HKS.out.1 hlv)
            rw [← hjp] at hd
            generalize cmpK (kc (zn zj j)) (kc (zn zj jp)) = cc at hcm hd
            generalize zn zj j = x at c1 HX hcm
            generalize zn zj jp = y at c2 c3 HX hcm
            generalize xch zj j jp = z1 at HX HI2 HT2 HF2
            have HCM := Lib.hid hcm
            clear HI HT HF hlv hjp HS hcm HKS
            go_wp2_with fail
            go_quiet (first | (go_at_fn fc; refine Calls.quiet_of (HCM.out _)))
            have HX2 := Lib.hid (HX.out nq)
            have g1 : (wr.drewN nq).cell? ⟨g, j, none⟩ = some (.int .i64 x) := c1
            have g2 : (wr.drewN nq).cell? ⟨g, jp, none⟩ = some (.int .i64 y) := c2
            have g3 := c3 nq
            have e1 : (wr.drewN nq).frozen? ⟨g, j, none⟩ = false := f1
            have e2 : (wr.drewN nq).frozen? ⟨g, jp, none⟩ = false := f2
            clear c1 c2 c3 f1 f2 HX HCM
            generalize wr.drewN nq = w2 at HX2 g1 g2 g3 e1 e2 ⊢
            go_wp2_with fail
            go_region
            go_wp2_with fail
            go_roundg jp
            case measure => omega
            case rel => exact ⟨jp, z1, rfl, by omega, by omega, Nat.le_refl _, HX2, HT2, HI2, HF2⟩
          · have HO2 : Hid (Srt key zj a (i + 1)) := HI.out.done haj (.inr hlv)
            have hd := cmpK_ge _ _ (fun h => hlv (HKS.out.2 h))
            rw [← hjp] at hd
            generalize cmpK (kc (zn zj j)) (kc (zn zj jp)) = cc at hcm hd
            generalize zn zj j = x at c1 hcm
            generalize zn zj jp = y at c2 hcm
            have HCM := Lib.hid hcm
            clear HI hlv hjp hcm HKS
            go_wp2_with fail
            go_quiet (first | (go_at_fn fc; refine Calls.quiet_of (HCM.out _)))
            have HX2 := Lib.hid (HS.out.drewN nq)
            clear c1 c2 f1 f2 HS HCM
            generalize wr.drewN nq = w2 at HX2 ⊢
            go_wp2_with fail
            go_roundg (b - (i + 1))
            case measure => omega
            case rel => exact ⟨i + 1, zj, by go_num, by omega, by omega, by omega, HX2, HT, HO2, HF⟩
        · have hjaz : decide ((j : Int) > (a : Int)) = false := decide_eq_false (by omega)
          have hjaz' : ¬ (a : Int) < (j : Int) := by omega
          have HO2 : Hid (Srt key zj a (i + 1)) := HI.out.done haj (.inl (by omega))
          have HX2 := Lib.hid HS.out.drew
          clear HS HI
          go_wp2_with fail
          go_region
          go_wp2_with fail
          go_roundg (b - (i + 1))
          case measure => omega
          case rel => exact ⟨i + 1, zj, by go_num, by omega, by omega, by omega, HX2, HT, HO2, HF⟩
    · have hltz : ¬ (i : Int) < (b : Int) := by omega
      go_wp2_with fail
      go_end0
      exact ⟨rfl, zk, HS.out, HT.out, fun p q h1 h2 h3 => HO.out p q h1 h2 (by omega), HF.out⟩
end Go.Proofs.YtibkepjbblfkoaaGreatDoor
namespace Go.Proofs.YtibkepjbblfkoaaGreatDoor
set_option linter.unusedVariables false
set_option linter.unusedSimpArgs false
open Go.ChangeShapes Go.WideShapes Go.ChangeAt Go.RowKit

/-- zs' is zs with [a, b) sorted -/
structure Mg (key : Int → Int) (zs zs' : List Int) (a b : Nat) : Prop where
  srt : Srt key zs' a b
  out : ∀ p, p < a ∨ b ≤ p → zn zs' p = zn zs p
  mem : ∀ p, a ≤ p → p < b → ∃ q, a ≤ q ∧ q < b ∧ zn zs' p = zn zs q
theorem Mg.same {key : Int → Int} {zs : List Int} {a b : Nat} (h : Srt key zs a b) : Mg key zs zs a b := ⟨h, fun _ _ => rfl, fun p h1 h2 => ⟨p, h1, h2, rfl⟩⟩
theorem Srt.one (key : Int → Int) (zs : List Int) (a b : Nat) (h : b ≤ a + 1) : Srt key zs a b := fun p q h1 h2 h3 => by rw [show p = q by omega]; exact Int.le_refl _
/-- the number at a led up to k -/
def shL (A : Nat → Int) (a k p : Nat) : Int := if a ≤ p ∧ p < k then A (p + 1) else if p = k then A a else A p
theorem shL_zero (A : Nat → Int) (a p : Nat) : A p = shL A a a p := by
  unfold shL; rw [if_neg (by omega)]; split
  · next h => rw [h]
  · rfl
theorem shL_step (l : List Int) (A : Nat → Int) (a k : Nat) (hak : a ≤ k) (hk : k + 1 < l.length) (h : ∀ p, zn l p = shL A a k p) (p : Nat) : zn (xch l k (k + 1)) p = shL A a (k + 1) p := by
  rw [xch_at l _ _ _ (by omega) (by omega), h, h, h]
  unfold shL
  repeat' split
  all_goals first | omega | (congr 1; omega) | rfl
theorem shL_mg {key : Int → Int} {zs z2 : List Int} {a i b : Nat} (hai : a + 1 ≤ i) (hib : i ≤ b) (hs : Srt key zs (a + 1) b) (h1 : ∀ p, a + 1 ≤ p → p < i → key (zn zs p) < key (zn zs a)) (h2 : ∀ p, i ≤ p → p < b → key (zn zs a) ≤ key (zn zs p))
    (h : ∀ p, zn z2 p = shL (zn zs) a (i - 1) p) : Mg key zs z2 a b := by
  refine ⟨fun p q hp hpq hq => ?_, fun p hp => ?_, fun p hp hq => ?_⟩
  · rw [h, h]
    unfold shL
    by_cases p1 : p < i - 1
    · rw [if_pos ⟨hp, p1⟩]
      by_cases q1 : q < i - 1
      · rw [if_pos ⟨by omega, q1⟩]; exact hs _ _ (by omega) (by omega) (by omega)
      · rw [if_neg (by omega)]
        by_cases q2 : q = i - 1
        · rw [if_pos q2]; exact Int.le_of_lt (h1 _ (by omega) (by omega))
        · rw [if_neg q2]; exact hs _ _ (by omega) (by omega) (by omega)
    · rw [if_neg (by omega), if_neg (show ¬ (a ≤ q ∧ q < i - 1) by omega)]
      by_cases p2 : p = i - 1
      · rw [if_pos p2]
        by_cases q2 : q = i - 1
        · rw [if_pos q2]; exact Int.le_refl _
        · rw [if_neg q2]; exact h2 _ (by omega) (by omega)
      · rw [if_neg p2, if_neg (show ¬ q = i - 1 by omega)]; exact hs _ _ (by omega) (by omega) (by omega)
  · rw [h]; unfold shL; rw [if_neg (by omega), if_neg (by omega)]
  · rw [h]; unfold shL
    by_cases p1 : p < i - 1
    · rw [if_pos ⟨hp, p1⟩]; exact ⟨_, by omega, by omega, rfl⟩
    · rw [if_neg (by omega)]
      by_cases p2 : p = i - 1
      · rw [if_pos p2]; exact ⟨a, by omega, by omega, rfl⟩
      · rw [if_neg p2]; exact ⟨p, hp, hq, rfl⟩
/-- the number at m led down to k -/
def shR (A : Nat → Int) (m k p : Nat) : Int := if k < p ∧ p ≤ m then A (p - 1) else if p = k then A m else A p
theorem shR_zero (A : Nat → Int) (m p : Nat) : A p = shR A m m p := by
  unfold shR; rw [if_neg (by omega)]; split
  · next h => rw [h]
  · rfl
theorem shR_step (l : List Int) (A : Nat → Int) (m k : Nat) (hk0 : 0 < k) (hkm : k ≤ m) (hk : m < l.length) (h : ∀ p, zn l p = shR A m k p) (p : Nat) : zn (xch l k (k - 1)) p = shR A m (k - 1) p := by
  rw [xch_at l _ _ _ (by omega) (by omega), h, h, h]
  unfold shR
  repeat' split
  all_goals first | omega | (congr 1; omega) | rfl
theorem shR_mg {key : Int → Int} {zs z2 : List Int} {a i m : Nat} (hai : a ≤ i) (him : i ≤ m) (hs : Srt key zs a m) (h1 : ∀ p, a ≤ p → p < i → key (zn zs p) ≤ key (zn zs m)) (h2 : ∀ p, i ≤ p → p < m → key (zn zs m) < key (zn zs p))
    (h : ∀ p, zn z2 p = shR (zn zs) m i p) : Mg key zs z2 a (m + 1) := by
  refine ⟨fun p q hp hpq hq => ?_, fun p hp => ?_, fun p hp hq => ?_⟩
  · rw [h, h]
    unfold shR
    by_cases p1 : i < p
    · rw [if_pos ⟨p1, by omega⟩, if_pos ⟨by omega, by omega⟩]; exact hs _ _ (by omega) (by omega) (by omega)
    · rw [if_neg (by omega)]
      by_cases p2 : p = i
      · rw [if_pos p2]
        by_cases q2 : q = i
        · rw [if_neg (by omega), if_pos q2]; exact Int.le_refl _
        · rw [if_pos ⟨by omega, by omega⟩]; exact Int.le_of_lt (h2 _ (by omega) (by omega))
      · rw [if_neg p2]
        by_cases q1 : i < q
        · rw [if_pos ⟨q1, by omega⟩]; exact hs _ _ (by omega) (by omega) (by omega)
        · rw [if_neg (by omega)]
          by_cases q2 : q = i
          · rw [if_pos q2]; exact h1 _ hp (by omega)
          · rw [if_neg q2]; exact hs _ _ (by omega) (by omega) (by omega)
  · rw [h]; unfold shR; rw [if_neg (by omega), if_neg (by omega)]
  · rw [h]; unfold shR
    by_cases p1 : i < p
    · rw [if_pos ⟨p1, by omega⟩]; exact ⟨_, by omega, by omega, rfl⟩
    · rw [if_neg (by omega)]
      by_cases p2 : p = i
      · rw [if_pos p2]; exact ⟨m, by omega, by omega, rfl⟩
      · rw [if_neg p2]; exact ⟨p, hp, hq, rfl⟩
/-- behind the turn of [s, m) and [m, e): four sorted rows, none of the first two above any of the last two -/
theorem rot_facts {key : Int → Int} {zs z1 : List Int} {a s m mid e b : Nat} (hsm : s ≤ m) (hme : m ≤ e) (has : a ≤ s) (heb : e ≤ b) (hsmid : s ≤ mid) (hN : e + s = mid + m) (hA : Srt key zs a m) (hB : Srt key zs m b)
    (h1 : s = a ∨ e = b ∨ key (zn zs (s - 1)) ≤ key (zn zs e)) (h2 : s = m ∨ e = m ∨ key (zn zs (e - 1)) < key (zn zs s)) (h : ∀ p, zn z1 p = rtR (zn zs) s m e p) :
    Srt key z1 a s ∧ Srt key z1 s mid ∧ Srt key z1 mid e ∧ Srt key z1 e b ∧ ∀ p q, a ≤ p → p < mid → mid ≤ q → q < b → key (zn z1 p) ≤ key (zn z1 q) := by
  have v1 : ∀ p, p < s → zn z1 p = zn zs p := fun p hp => by rw [h]; unfold rtR; rw [if_neg (by omega), if_neg (by omega)]
  have v2 : ∀ p, s ≤ p → p < mid → zn z1 p = zn zs (p + m - s) := fun p hp hq => by rw [h]; unfold rtR; rw [if_pos (by omega)]
  have v3 : ∀ p, mid ≤ p → p < e → zn z1 p = zn zs (p + m - e) := fun p hp hq => by rw [h]; unfold rtR; rw [if_neg (by omega), if_pos (by omega)]
  have v4 : ∀ p, e ≤ p → zn z1 p = zn zs p := fun p hp => by rw [h]; unfold rtR; rw [if_neg (by omega), if_neg (by omega)]
  refine ⟨fun p q hp hpq hq => ?_, fun p q hp hpq hq => ?_, fun p q hp hpq hq => ?_, fun p q hp hpq hq => ?_, fun p q hp hpm hq hqb => ?_⟩
  · rw [v1 p (by omega), v1 q hq]; exact hA _ _ hp hpq (by omega)
  · rw [v2 p hp (by omega), v2 q (by omega) hq]; exact hB _ _ (by omega) (by omega) (by omega)
  · rw [v3 p hp (by omega), v3 q (by omega) hq]; exact hA _ _ (by omega) (by omega) (by omega)
  · rw [v4 p hp, v4 q (by omega)]; exact hB _ _ (by omega) (by omega) (by omega)
  · by_cases p1 : p < s
    · rw [v1 p p1]
      by_cases q1 : q < e
      · rw [v3 q hq q1]; exact hA _ _ hp (by omega) (by omega)
      · rw [v4 q (by omega)]
        rcases h1 with h1 | h1 | h1
        · omega
        · omega
        · have a1 := hA p (s - 1) hp (by omega) (by omega)
          have a2 := hB e q (by omega) (by omega) hqb
          omega
    · rw [v2 p (by omega) hpm]
      by_cases q1 : q < e
      · rw [v3 q hq q1]
        rcases h2 with h2 | h2 | h2
        · omega
        · omega
        · have a1 := hB (p + m - s) (e - 1) (by omega) (by omega) (by omega)
          have a2 := hA s (q + m - e) (by omega) (by omega) (by omega)
          omega
      · rw [v4 q (by omega)]; exact hB _ _ (by omega) (by omega) hqb
theorem mg_both {key : Int → Int} {zs z1 z2 z3 : List Int} {a s m mid e b : Nat} (hsm : s ≤ m) (hme : m ≤ e) (has : a ≤ s) (heb : e ≤ b) (hsmid : s ≤ mid) (hmide : mid ≤ e) (hN : e + s = mid + m) (h : ∀ p, zn z1 p = rtR (zn zs) s m e p)
    (hLR : ∀ p q, a ≤ p → p < mid → mid ≤ q → q < b → key (zn z1 p) ≤ key (zn z1 q)) (h2 : Mg key z1 z2 a mid) (h3 : Mg key z2 z3 mid b) : Mg key zs z3 a b := by
  have hz1 : ∀ p, a ≤ p → p < b → ∃ q, a ≤ q ∧ q < b ∧ zn z1 p = zn zs q := fun p hp hq => by
    rw [h]; unfold rtR
    split
    · exact ⟨_, by omega, by omega, rfl⟩
    · split
      · exact ⟨_, by omega, by omega, rfl⟩
      · exact ⟨p, hp, hq, rfl⟩
  have hl : ∀ p, a ≤ p → p < mid → ∃ q, a ≤ q ∧ q < mid ∧ zn z3 p = zn z1 q := fun p hp hq => by
    rw [h3.out p (.inl hq)]; exact h2.mem p hp hq
  have hr : ∀ p, mid ≤ p → p < b → ∃ q, mid ≤ q ∧ q < b ∧ zn z3 p = zn z1 q := fun p hp hq => by
    obtain ⟨q, q1, q2, q3⟩ := h3.mem p hp hq
    exact ⟨q, q1, q2, by rw [q3, h2.out q (.inr q1)]⟩
  refine ⟨fun p q hp hpq hq => ?_, fun p hp => ?_, fun p hp hq => ?_⟩
  · by_cases q1 : q < mid
    · rw [h3.out p (.inl (by omega)), h3.out q (.inl q1)]; exact h2.srt p q hp hpq q1
    · by_cases p1 : p < mid
      · obtain ⟨p', a1, a2, a3⟩ := hl p hp p1
        obtain ⟨q', b1, b2, b3⟩ := hr q (by omega) hq
        rw [a3, b3]; exact hLR p' q' a1 a2 b1 b2
      · exact h3.srt p q (by omega) hpq hq
  · rw [h3.out p (by omega), h2.out p (by omega), h]; unfold rtR; rw [if_neg (by omega), if_neg (by omega)]
  · by_cases p1 : p < mid
    · obtain ⟨p', a1, a2, a3⟩ := hl p hp p1
      obtain ⟨q, b1, b2, b3⟩ := hz1 p' a1 (by omega)
      exact ⟨q, b1, b2, a3.trans b3⟩
    · obtain ⟨p', a1, a2, a3⟩ := hr p (by omega) hq
      obtain ⟨q, b1, b2, b3⟩ := hz1 p' (by omega) a2
      exact ⟨q, b1, b2, a3.trans b3⟩
theorem rtR_none (A : Nat → Int) (s m e p : Nat) (hsm : s ≤ m) (hme : m ≤ e) (h : s = m ∨ m = e) : A p = rtR A s m e p := by
  unfold rtR
  repeat' split
  all_goals first | omega | (congr 1; omega) | rfl
/-- by the way that an element goes, what the order says stays said -/
theorem Sta.shL {kc key : Int → Int} {zs z2 : List Int} {n a i b : Nat} (h : Sta kc key zs n) (hai : a + 1 ≤ i) (hib : i ≤ b) (hb : b ≤ n) (h1 : ∀ p, a + 1 ≤ p → p < i → key (zn zs p) < key (zn zs a)) (he : ∀ p, zn z2 p = YtibkepjbblfkoaaGreatDoor.shL (zn zs) a (i - 1) p) : Sta kc key z2 n := by
  refine h.move (fun p => if a ≤ p ∧ p < i - 1 then p + 1 else if p = i - 1 then a else p) (fun p hp => ?_) (fun p hp => ?_) (fun p q hp hq => ?_)
  · repeat' split
    all_goals omega
  · rw [he]; unfold YtibkepjbblfkoaaGreatDoor.shL
    repeat' split
    all_goals first | rfl | omega
  · by_cases p1 : a ≤ p ∧ p < i - 1
    · rw [if_pos p1]
      by_cases q1 : q = i - 1
      · rw [if_neg (by omega), if_pos q1]; right; have := h1 (p + 1) (by omega) (by omega); omega
      · left
        repeat' split
        all_goals omega
    · rw [if_neg p1]
      left
      repeat' split
      all_goals omega
theorem Sta.shR {kc key : Int → Int} {zs z2 : List Int} {n a i m : Nat} (h : Sta kc key zs n) (hai : a ≤ i) (him : i ≤ m) (hm : m < n) (h2 : ∀ p, i ≤ p → p < m → key (zn zs m) < key (zn zs p)) (he : ∀ p, zn z2 p = YtibkepjbblfkoaaGreatDoor.shR (zn zs) m i p) : Sta kc key z2 n := by
  refine h.move (fun p => if i < p ∧ p ≤ m then p - 1 else if p = i then m else p) (fun p hp => ?_) (fun p hp => ?_) (fun p q hp hq => ?_)
  · repeat' split
    all_goals omega
  · rw [he]; unfold YtibkepjbblfkoaaGreatDoor.shR
    repeat' split
    all_goals first | rfl | omega
  · by_cases p1 : p = i
    · rw [if_neg (by omega), if_pos p1]
      by_cases q1 : i < q ∧ q ≤ m
      · rw [if_pos q1]; right; have := h2 (q - 1) (by omega) (by omega); omega
      · left
        repeat' split
        all_goals omega
    · left
      repeat' split
      all_goals omega
theorem Sta.rot {kc key : Int → Int} {zs z1 : List Int} {n a s m e b : Nat} (h : Sta kc key zs n) (has : a ≤ s) (heb : e ≤ b) (hb : b ≤ n) (hsm : s ≤ m) (hme : m ≤ e) (hA : Srt key zs a m) (hB : Srt key zs m b) (h2 : s = m ∨ e = m ∨ key (zn zs (e - 1)) < key (zn zs s)) (he : ∀ p, zn z1 p = rtR (zn zs) s m e p) : Sta kc key z1 n := by
  refine h.move (fun p => if s ≤ p ∧ p < s + (e - m) then p + m - s else if s + (e - m) ≤ p ∧ p < e then p + m - e else p) (fun p hp => ?_) (fun p hp => ?_) (fun p q hp hq => ?_)
  · repeat' split
    all_goals omega
  · rw [he]; unfold rtR
    repeat' split
    all_goals first | rfl | omega
  · by_cases p1 : s ≤ p ∧ p < s + (e - m)
    · rw [if_pos p1]
      by_cases q1 : s + (e - m) ≤ q ∧ q < e
      · rw [if_neg (by omega), if_pos q1]; right
        rcases h2 with h2 | h2 | h2
        · omega
        · omega
        · have a1 := hB (p + m - s) (e - 1) (by omega) (by omega) (by omega)
          have a2 := hA s (q + m - e) (by omega) (by omega) (by omega)
          omega
      · left
        repeat' split
        all_goals omega
    · rw [if_neg p1]
      left
      repeat' split
      all_goals omega
end Go.Proofs.YtibkepjbblfkoaaGreatDoor
namespace Go.Proofs.YtibkepjbblfkoaaGreatDoor
set_option linter.unusedVariables false
set_option linter.unusedSimpArgs false
open Go.ChangeShapes Go.WideShapes Go.ChangeAt Go.RowKit

set_option maxRecDepth 100000 in
set_option maxHeartbeats 8000000 in
theorem symmerge_one {w0 : World} {g n cap : Nat} {z0 : List Int} (fc : Nat) (cb : Array Value) (Pd : Int → Prop) (kc key : Int → Int) (hkc : ∀ x y, kc x < kc y → key x < key y) (hC : CmpBy fc cb Pd kc w0 g) (hP : ∀ z ∈ z0, Pd z) (hn : n < 4611686018427387904)
    (w : World) (zs : List Int) (a b : Nat) (hab : a + 1 < b) (hb : b ≤ n) (S : SS w0 g n cap z0 w zs) (T : Sta kc key zs n) (hs : Srt key zs (a + 1) b) :
    Calls Tryz.prog 97 #[.slice (some ⟨g, 0, none⟩) n cap, .int .i64 a, .int .i64 ((a + 1 : Nat) : Int), .int .i64 b, .func (.func fc) #[] cb] w fun e w' => e = .returned (.tuple #[]) ∧ ∃ zs', SS w0 g n cap z0 w' zs' ∧ Sta kc key zs' n ∧ Mg key zs zs' a b := by
  have eg := hC.1
  have HC := Lib.hid hC.2
  have HP := Lib.hid hP
  have S0 := Lib.hid S
  have T0 := Lib.hid T
  have HK := Lib.hid hkc
  have HSR := Lib.hid hs
  obtain ⟨m, hm⟩ : ∃ m, m = a + 1 := ⟨_, rfl⟩
  have r0 : IntKind.i64.wrap ((m : Int) - (a : Int)) = 1 := by rw [IntKind.wrap_i64]; omega
  have hma : a < m := by omega
  have hma2 : m ≤ a + 1 := by omega
  rw [← hm] at HSR ⊢
  clear S hC hP hs hm T hkc
  go_enter Tryz.func97, Tryz.ntmps97
  go_wp2_with fail
  go_loopw [10, 11] (fun x y wr => ∃ (i j : Nat), m ≤ i ∧ i ≤ j ∧ j ≤ b ∧ x = .int .i64 i ∧ y = .int .i64 j ∧ Hid (SS w0 g n cap z0 wr zs) ∧ Hid (∀ p, m ≤ p → p < i → key (zn zs p) < key (zn zs a)) ∧ Hid (∀ p, j ≤ p → p < b → key (zn zs a) ≤ key (zn zs p))) (fun x y _ => (intOf y).toNat - (intOf x).toNat)
  case atStart => exact ⟨m, b, by omega, by omega, by omega, rfl, rfl, S0.out, fun p h1 h2 => by omega, fun p h1 h2 => by omega⟩
  case round =>
    clear S0
    obtain ⟨i, j, hmi, hij, hjb, rfl, rfl, S0, HL, HG⟩ := hrel
    by_cases hlt : i < j
    · have hltz : (i : Int) < (j : Int) := by omega
      obtain ⟨h, hh⟩ : ∃ h, h = (i + j) / 2 := ⟨_, rfl⟩
      have hh1 : i ≤ h := by omega
      have hh2 : h < j := by omega
      have hh3 : ((i : Int) + (j : Int)) / 2 = (h : Int) := by omega
      have hhn : (h : Int) < (n : Int) := by omega
      have han : (a : Int) < (n : Int) := by omega
      have c1 := S0.out.cell h (by omega)
      have c2 := S0.out.cell a (by omega)
      have hcm := fun k => HC.out (wr.drewN k) (S0.out.keep.drewN k) _ _ (S0.out.pd HP.out h (by omega)) (S0.out.pd HP.out a (by omega))
      have HKS := Lib.hid (⟨fun h => T0.out _ _ (by omega) (by omega) h, fun h => HK.out _ _ h⟩ : key (zn zs h) < key (zn zs a) ↔ kc (zn zs h) < kc (zn zs a))
      clear hh
      by_cases hlv : key (zn zs h) < key (zn zs a)
      · have hd := cmpK_lt _ _ (HKS.out.1 hlv)
        have HL2 : Hid (∀ p, m ≤ p → p < h + 1 → key (zn zs p) < key (zn zs a)) := fun p h1 h2 => by
          have := HSR.out p h h1 (by omega) (by omega); omega
        generalize cmpK (kc (zn zs h)) (kc (zn zs a)) = cc at hcm hd
        have HCM := Lib.hid hcm
        obtain ⟨x, hx⟩ : ∃ x, zn zs h = x := ⟨_, rfl⟩
        obtain ⟨y, hy⟩ : ∃ y, zn zs a = y := ⟨_, rfl⟩
        rw [hx] at c1 HCM
        rw [hy] at c2 HCM
        clear hx hy
        clear hcm HL hlv
        go_wp2_with fail
        go_quiet (first | (go_at_fn fc; refine Calls.quiet_of (HCM.out _)))
        have S1 := Lib.hid (S0.out.drewN nq)
        clear HCM c1 c2
        go_wp2_with fail
        go_roundw
        case rel => exact ⟨h + 1, j, by omega, by omega, by omega, by go_num, rfl, S1, HL2, HG⟩
        case measure => simp [intOf]; omega
      · have hd := cmpK_ge _ _ (fun h => hlv (HKS.out.2 h))
        have HG2 : Hid (∀ p, h ≤ p → p < b → key (zn zs a) ≤ key (zn zs p)) := fun p h1 h2 => by
          have := HSR.out h p (by omega) h1 h2; omega
        generalize cmpK (kc (zn zs h)) (kc (zn zs a)) = cc at hcm hd
        have HCM := Lib.hid hcm
        obtain ⟨x, hx⟩ : ∃ x, zn zs h = x := ⟨_, rfl⟩
        obtain ⟨y, hy⟩ : ∃ y, zn zs a = y := ⟨_, rfl⟩
        rw [hx] at c1 HCM
        rw [hy] at c2 HCM
        clear hx hy
        clear hcm HG hlv
        go_wp2_with fail
        go_quiet (first | (go_at_fn fc; refine Calls.quiet_of (HCM.out _)))
        have S1 := Lib.hid (S0.out.drewN nq)
        clear HCM c1 c2
        go_wp2_with fail
        go_roundw
        case rel => exact ⟨i, h, by omega, by omega, by omega, rfl, rfl, S1, HL, HG2⟩
        case measure => simp [intOf]; omega
    · obtain rfl : i = j := by omega
      obtain ⟨t, ht⟩ : ∃ t, t = i - 1 := ⟨_, rfl⟩
      have rt : IntKind.i64.wrap ((i : Int) - 1) = (t : Int) := by rw [IntKind.wrap_i64]; omega
      have hat : a ≤ t := by omega
      have htb : t < b := by omega
      have HMG : Hid (∀ z2, (∀ p, zn z2 p = shL (zn zs) a t p) → Mg key zs z2 a b) := fun z2 h => shL_mg (i := i) (by omega) (by omega) (by rw [show a + 1 = m by omega]; exact HSR.out) (by rw [show a + 1 = m by omega]; exact HL.out) HG.out (by rw [← ht]; exact h)
      have HTG : Hid (∀ z2, (∀ p, zn z2 p = shL (zn zs) a t p) → Sta kc key z2 n) := fun z2 h => T0.out.shL (a := a) (i := i) (b := b) (by omega) (by omega) hb (by rw [show a + 1 = m by omega]; exact HL.out) (by rw [← ht]; exact h)
      clear HL HG ht
      go_wp2_with fail
      go_loopw [13] (fun x wr => ∃ (k : Nat) (zk : List Int), a ≤ k ∧ k ≤ t ∧ x = .int .i64 k ∧ Hid (SS w0 g n cap z0 wr zk) ∧ Hid (∀ p, zn zk p = shL (zn zs) a k p)) (fun x _ => t - (intOf x).toNat)
      case atStart => exact ⟨a, zs, by omega, by omega, rfl, S0.out, shL_zero _ a⟩
      case round =>
        clear S0
        obtain ⟨k, zk, hak, hkt, rfl, HS, HE⟩ := hrel
        by_cases hltk : k < t
        · have hltz : (k : Int) < (t : Int) := by omega
          have e2 : (0 : Int) ≤ (k : Int) + 1 := by omega
          have e3 : (k : Int) + 1 < (n : Int) := by omega
          have e4 : IntKind.i64.wrap ((k : Int) + 1) = (k : Int) + 1 := by rw [IntKind.wrap_i64]; omega
          have e5 : (k : Int) < (n : Int) := by omega
          have c1 := HS.out.cell k (by omega)
          have c2 := HS.out.cell (k + 1) (by omega)
          have f1 := HS.out.free k
          have f2 := HS.out.free (k + 1)
          have c3 := HS.out.c2 k (k + 1) (by omega) (by omega) (.int .i64 (zn zk (k + 1)))
          have HX := Lib.hid ((HS.out.xch k (k + 1) (by omega) (by omega)).drew)
          have HE2 : Hid (∀ p, zn (xch zk k (k + 1)) p = shL (zn zs) a (k + 1) p) := by
            exact shL_step zk _ a k hak (by rw [HS.out.len]; omega) HE.out
          generalize zn zk k = x at c1 HX
          generalize zn zk (k + 1) = y at c2 c3 HX
          generalize xch zk k (k + 1) = z1 at HX HE2
          clear HS HE
          go_wp2_with fail
          go_region
          go_wp2_with fail
          go_roundw
          case rel => exact ⟨k + 1, z1, by omega, by omega, by go_num, HX, HE2⟩
          case measure => simp [intOf]; omega
        · obtain rfl : k = t := by omega
          go_wp2_with fail
          refine bodyPost_ret (results_none rfl _ _ _) rfl ?_
          exact ⟨rfl, zk, HS.out, HTG.out zk HE.out, HMG.out zk HE.out⟩
set_option maxRecDepth 100000 in
set_option maxHeartbeats 8000000 in
theorem symmerge_last {w0 : World} {g n cap : Nat} {z0 : List Int} (fc : Nat) (cb : Array Value) (Pd : Int → Prop) (kc key : Int → Int) (hkc : ∀ x y, kc x < kc y → key x < key y) (hC : CmpBy fc cb Pd kc w0 g) (hP : ∀ z ∈ z0, Pd z) (hn : n < 4611686018427387904)
    (w : World) (zs : List Int) (a m : Nat) (hab : a + 1 < m) (hb : m + 1 ≤ n) (S : SS w0 g n cap z0 w zs) (T : Sta kc key zs n) (hs : Srt key zs a m) :
    Calls Tryz.prog 97 #[.slice (some ⟨g, 0, none⟩) n cap, .int .i64 a, .int .i64 m, .int .i64 ((m + 1 : Nat) : Int), .func (.func fc) #[] cb] w fun e w' => e = .returned (.tuple #[]) ∧ ∃ zs', SS w0 g n cap z0 w' zs' ∧ Sta kc key zs' n ∧ Mg key zs zs' a (m + 1) := by
  have eg := hC.1
  have HC := Lib.hid hC.2
  have HP := Lib.hid hP
  have S0 := Lib.hid S
  have T0 := Lib.hid T
  have HK := Lib.hid hkc
  have HSR := Lib.hid hs
  obtain ⟨b, hm⟩ : ∃ b, b = m + 1 := ⟨_, rfl⟩
  have r0 : IntKind.i64.wrap ((m : Int) - (a : Int)) = (m : Int) - (a : Int) := by rw [IntKind.wrap_i64]; omega
  have r00 : ((m : Int) - (a : Int) == 1) = false := by rw [beq_eq_false_iff_ne]; omega
  have r1 : IntKind.i64.wrap ((b : Int) - (m : Int)) = 1 := by rw [IntKind.wrap_i64]; omega
  have hma : m < b := by omega
  have hma2 : b ≤ m + 1 := by omega
  have hmn : (m : Int) < (n : Int) := by omega
  rw [← hm]
  clear S hC hP hs hm T hkc
  go_enter Tryz.func97, Tryz.ntmps97
  go_wp2_with fail
  go_loopw [14, 15] (fun x y wr => ∃ (i j : Nat), a ≤ i ∧ i ≤ j ∧ j ≤ m ∧ x = .int .i64 i ∧ y = .int .i64 j ∧ Hid (SS w0 g n cap z0 wr zs) ∧ Hid (∀ p, a ≤ p → p < i → key (zn zs p) ≤ key (zn zs m)) ∧ Hid (∀ p, j ≤ p → p < m → key (zn zs m) < key (zn zs p))) (fun x y _ => (intOf y).toNat - (intOf x).toNat)
  case atStart => exact ⟨a, m, by omega, by omega, by omega, rfl, rfl, S0.out, fun p h1 h2 => by omega, fun p h1 h2 => by omega⟩
  case round =>
    clear S0
    obtain ⟨i, j, hmi, hij, hjb, rfl, rfl, S0, HL, HG⟩ := hrel
    by_cases hlt : i < j
    · have hltz : (i : Int) < (j : Int) := by omega
      obtain ⟨h, hh⟩ : ∃ h, h = (i + j) / 2 := ⟨_, rfl⟩
      have hh1 : i ≤ h := by omega
      have hh2 : h < j := by omega
      have hh3 : ((i : Int) + (j : Int)) / 2 = (h : Int) := by omega
      have hhn : (h : Int) < (n : Int) := by omega
      have c1 := S0.out.cell h (by omega)
      have c2 := S0.out.cell m (by omega)
      have hcm := fun k => HC.out (wr.drewN k) (S0.out.keep.drewN k) _ _ (S0.out.pd HP.out m (by omega)) (S0.out.pd HP.out h (by omega))
      have HKS := Lib.hid (⟨fun h => T0.out _ _ (by omega) (by omega) h, fun h => HK.out _ _ h⟩ : key (zn zs m) < key (zn zs h) ↔ kc (zn zs m) < kc (zn zs h))
      clear hh
      by_cases hlv : ¬ key (zn zs m) < key (zn zs h)
      · have hd := cmpK_ge _ _ (fun h => hlv (HKS.out.2 h))
        have HL2 : Hid (∀ p, a ≤ p → p < h + 1 → key (zn zs p) ≤ key (zn zs m)) := fun p h1 h2 => by
          have := HSR.out p h h1 (by omega) (by omega); omega
        generalize cmpK (kc (zn zs m)) (kc (zn zs h)) = cc at hcm hd
        have HCM := Lib.hid hcm
        obtain ⟨x, hx⟩ : ∃ x, zn zs h = x := ⟨_, rfl⟩
        obtain ⟨y, hy⟩ : ∃ y, zn zs m = y := ⟨_, rfl⟩
        rw [hx] at c1 HCM
        rw [hy] at c2 HCM
        clear hx hy
        clear hcm HL hlv
        go_wp2_with fail
        go_quiet (first | (go_at_fn fc; refine Calls.quiet_of (HCM.out _)))
        have S1 := Lib.hid (S0.out.drewN nq)
        clear HCM c1 c2
        go_wp2_with fail
        go_roundw
        case rel => exact ⟨h + 1, j, by omega, by omega, by omega, by go_num, rfl, S1, HL2, HG⟩
        case measure => simp [intOf]; omega
      · have hd := cmpK_lt _ _ (HKS.out.1 (Decidable.not_not.1 hlv))
        have HG2 : Hid (∀ p, h ≤ p → p < m → key (zn zs m) < key (zn zs p)) := fun p h1 h2 => by
          have hlv2 := Decidable.not_not.1 hlv
          have := HSR.out h p (by omega) h1 h2; omega
        generalize cmpK (kc (zn zs m)) (kc (zn zs h)) = cc at hcm hd
        have HCM := Lib.hid hcm
        obtain ⟨x, hx⟩ : ∃ x, zn zs h = x := ⟨_, rfl⟩
        obtain ⟨y, hy⟩ : ∃ y, zn zs m = y := ⟨_, rfl⟩
        rw [hx] at c1 HCM
        rw [hy] at c2 HCM
        clear hx hy
        clear hcm HG hlv
        go_wp2_with fail
        go_quiet (first | (go_at_fn fc; refine Calls.quiet_of (HCM.out _)))
        have S1 := Lib.hid (S0.out.drewN nq)
        clear HCM c1 c2
        go_wp2_with fail
        go_roundw
        case rel => exact ⟨i, h, by omega, by omega, by omega, rfl, rfl, S1, HL, HG2⟩
        case measure => simp [intOf]; omega
    · obtain rfl : i = j := by omega
      have HMG : Hid (∀ z2, (∀ p, zn z2 p = shR (zn zs) m i p) → Mg key zs z2 a b) := fun z2 h => by
        rw [show b = m + 1 by omega]
        exact shR_mg (i := i) (by omega) (by omega) HSR.out HL.out HG.out h
      have HTG : Hid (∀ z2, (∀ p, zn z2 p = shR (zn zs) m i p) → Sta kc key z2 n) := fun z2 h => T0.out.shR (i := i) (a := a) (m := m) (by omega) (by omega) (by omega) HG.out h
      clear HL HG
      go_wp2_with fail
      go_loopw [17] (fun x wr => ∃ (k : Nat) (zk : List Int), i ≤ k ∧ k ≤ m ∧ x = .int .i64 k ∧ Hid (SS w0 g n cap z0 wr zk) ∧ Hid (∀ p, zn zk p = shR (zn zs) m k p)) (fun x _ => (intOf x).toNat)
      case atStart => exact ⟨m, zs, by omega, by omega, rfl, S0.out, shR_zero _ m⟩
      case round =>
        clear S0
        obtain ⟨k, zk, hak, hkt, rfl, HS, HE⟩ := hrel
        by_cases hltk : i < k
        · have hltz : (i : Int) < (k : Int) := by omega
          obtain ⟨kp, hkp⟩ : ∃ q, q = k - 1 := ⟨_, rfl⟩
          have hkp1 : kp < k := by omega
          have hkp2 : i ≤ kp := by omega
          have e4 : IntKind.i64.wrap ((k : Int) - 1) = (kp : Int) := by rw [IntKind.wrap_i64]; omega
          have e5 : (k : Int) < (n : Int) := by omega
          have e6 : (kp : Int) < (n : Int) := by omega
          have c1 := HS.out.cell k (by omega)
          have c2 := HS.out.cell kp (by omega)
          have f1 := HS.out.free k
          have f2 := HS.out.free kp
          have c3 := HS.out.c2 k kp (by omega) (by omega) (.int .i64 (zn zk kp))
          have HX := Lib.hid ((HS.out.xch k kp (by omega) (by omega)).drew)
          have HE2 : Hid (∀ p, zn (xch zk k kp) p = shR (zn zs) m kp p) := by
            rw [hkp]; exact shR_step zk _ m k (by omega) (by omega) (by rw [HS.out.len]; omega) HE.out
          obtain ⟨x, hx⟩ : ∃ x, zn zk k = x := ⟨_, rfl⟩
          obtain ⟨y, hy⟩ : ∃ y, zn zk kp = y := ⟨_, rfl⟩
          rw [hx] at c1 HX
          rw [hy] at c2 c3 HX
          clear hx hy
          generalize xch zk k kp = z1 at HX HE2
          clear HS HE hkp
          go_wp2_with fail
          go_region
          go_wp2_with fail
          go_roundw
          case rel => exact ⟨kp, z1, by omega, by omega, rfl, HX, HE2⟩
          case measure => simp [intOf]; omega
        · obtain rfl : k = i := by omega
          go_wp2_with fail
          refine bodyPost_ret (results_none rfl _ _ _) rfl ?_
          exact ⟨rfl, zk, HS.out, HTG.out zk HE.out, HMG.out zk HE.out⟩
end Go.Proofs.YtibkepjbblfkoaaGreatDoor
namespace Go.Proofs.YtibkepjbblfkoaaGreatDoor
set_option linter.unusedVariables false
set_option linter.unusedSimpArgs false
open Go.ChangeShapes Go.WideShapes Go.ChangeAt Go.RowKit

/-- the state of a sort, in whose row the order says what key says more than kc -/
def ST (kc key : Int → Int) (w0 : World) (g n cap : Nat) (z0 : List Int) (w : World) (zs : List Int) : Prop := SS w0 g n cap z0 w zs ∧ Sta kc key zs n
set_option maxRecDepth 1000000 in
set_option maxHeartbeats 8000000 in
theorem symmerge_gen {w0 : World} {g n cap : Nat} {z0 : List Int} (fc : Nat) (cb : Array Value) (Pd : Int → Prop) (kc key : Int → Int) (hkc : ∀ x y, kc x < kc y → key x < key y) (hC : CmpBy fc cb Pd kc w0 g) (hP : ∀ z ∈ z0, Pd z) (hn : n < 4611686018427387904)
    (w : World) (zs : List Int) (a m b : Nat) (ham : a + 1 < m) (hmb : m + 1 < b) (hb : b ≤ n) (S : ST kc key w0 g n cap z0 w zs) (hA : Srt key zs a m) (hB : Srt key zs m b)
    (ih : ∀ (w : World) (zs : List Int) (a' m' b' : Nat), b' - a' < b - a → a' < m' → m' < b' → b' ≤ n → ST kc key w0 g n cap z0 w zs → Srt key zs a' m' → Srt key zs m' b' →
      Calls Tryz.prog 97 #[.slice (some ⟨g, 0, none⟩) n cap, .int .i64 a', .int .i64 m', .int .i64 b', .func (.func fc) #[] cb] w fun e w' => e = .returned (.tuple #[]) ∧ ∃ zs', ST kc key w0 g n cap z0 w' zs' ∧ Mg key zs zs' a' b') :
    Calls Tryz.prog 97 #[.slice (some ⟨g, 0, none⟩) n cap, .int .i64 a, .int .i64 m, .int .i64 b, .func (.func fc) #[] cb] w fun e w' => e = .returned (.tuple #[]) ∧ ∃ zs', ST kc key w0 g n cap z0 w' zs' ∧ Mg key zs zs' a b := by
  have eg := hC.1
  have HC := Lib.hid hC.2
  have HP := Lib.hid hP
  have S0 := Lib.hid S
  have HK := Lib.hid hkc
  have HA := Lib.hid hA
  have HB := Lib.hid hB
  have IH := Lib.hid ih
  have HR := Lib.hid (fun (w : World) zs a' m' b' h1 h2 h3 S => rotate_c (w0 := w0) (g := g) (n := n) (cap := cap) (z0 := z0) (.func (.func fc) #[] cb) w zs a' m' b' h1 h2 h3 hn S)
  obtain ⟨mid, hmid⟩ : ∃ x, x = (a + b) / 2 := ⟨_, rfl⟩
  obtain ⟨N, hN⟩ : ∃ x, x = mid + m := ⟨_, rfl⟩
  have r0 : IntKind.i64.wrap ((m : Int) - (a : Int)) = (m : Int) - (a : Int) := by rw [IntKind.wrap_i64]; omega
  have r00 : ((m : Int) - (a : Int) == 1) = false := by rw [beq_eq_false_iff_ne]; omega
  have r1 : IntKind.i64.wrap ((b : Int) - (m : Int)) = (b : Int) - (m : Int) := by rw [IntKind.wrap_i64]; omega
  have r11 : ((b : Int) - (m : Int) == 1) = false := by rw [beq_eq_false_iff_ne]; omega
  have r2 : ((a : Int) + (b : Int)) / 2 = (mid : Int) := by omega
  have s1 : (0 : Int) ≤ (a : Int) + (b : Int) := by omega
  have s2 : (a : Int) + (b : Int) < 9223372036854775808 := by omega
  have s3 : a < m := by omega
  have s4 : m < b := by omega
  have r3 : IntKind.i64.wrap ((mid : Int) + (m : Int)) = (N : Int) := by rw [IntKind.wrap_i64]; omega
  have d1 : 2 * mid ≤ a + b := by omega
  have d2 : a + b ≤ 2 * mid + 1 := by omega
  have d3 : N ≤ mid + m := by omega
  have d4 : mid + m ≤ N := by omega
  clear S hC hP hA hB ih hmid hN hkc
  go_enter Tryz.func97, Tryz.ntmps97
  go_upto_if 140 with fail
  clear r0 r00 r1 r11 r2 r3 s1 s2
  go_cut [20, 21] (fun s r wx => ∃ lo hi : Nat, s = .int .i64 lo ∧ r = .int .i64 hi ∧ a ≤ lo ∧ N ≤ b + lo ∧ lo ≤ hi ∧ hi ≤ mid ∧ hi ≤ m ∧ (lo = a ∨ N = b + lo) ∧ (hi = m ∨ N = m + hi) ∧ Hid (ST kc key w0 g n cap z0 wx zs))
  case first =>
    as_aux_lemma =>
    by_cases hgt : mid < m
    · have hgt1 : (m : Int) > (mid : Int) := by omega
      obtain ⟨lo, hlo⟩ : ∃ x, x = N - b := ⟨_, rfl⟩
      have r4 : IntKind.i64.wrap ((N : Int) - (b : Int)) = (lo : Int) := by rw [IntKind.wrap_i64]; omega
      have q1 : a ≤ lo := by omega
      have q2 : N ≤ b + lo := by omega
      have q3 : lo ≤ mid := by omega
      have q4 : lo = a ∨ N = b + lo := by omega
      have q5 : mid = m ∨ N = m + mid := by omega
      have Q4 := Lib.hid q4
      have Q5 := Lib.hid q5
      clear hlo q4 q5 HA HB IH HR HC HP
      go_wp2_with fail
      go_meet
      exact ⟨lo, mid, rfl, rfl, q1, q2, q3, by omega, by omega, Q4, Q5, S0⟩
    · have hgt1 : ¬ (m : Int) > (mid : Int) := by omega
      go_wp2_with fail
      go_meet
      exact ⟨a, m, rfl, rfl, by omega, by omega, by omega, by omega, by omega, by omega, by omega, S0⟩
  case rest =>
    as_aux_lemma =>
    clear S0
    obtain ⟨lo, hi, rfl, rfl, q1, q2, q3, q4, q5, q6, q7, S0⟩ := hcut
    have Q6 := Lib.hid q6
    have Q7 := Lib.hid q7
    clear q6 q7
    obtain ⟨p, hp⟩ : ∃ x, x = N - 1 := ⟨_, rfl⟩
    have t1 : IntKind.i64.wrap ((N : Int) - 1) = (p : Int) := by rw [IntKind.wrap_i64]; omega
    have t2 : N ≤ p + 1 := by omega
    have t3 : p + 1 ≤ N := by omega
    clear hp
    go_wp2_with fail
    clear t1
    go_loopw [20, 21] (fun x y wr => ∃ (s r : Nat), lo ≤ s ∧ s ≤ r ∧ r ≤ hi ∧ x = .int .i64 s ∧ y = .int .i64 r ∧ Hid (ST kc key w0 g n cap z0 wr zs) ∧ Hid (s = lo ∨ key (zn zs (s - 1)) ≤ key (zn zs (N - s))) ∧ Hid (r = hi ∨ key (zn zs (N - r - 1)) < key (zn zs r))) (fun x y _ => (intOf y).toNat - (intOf x).toNat)
    case atStart => exact ⟨lo, hi, by omega, by omega, by omega, rfl, rfl, S0.out, .inl rfl, .inl rfl⟩
    case round =>
      clear S0
      obtain ⟨s, r, u1, u2, u3, rfl, rfl, S0, HL, HG⟩ := hrel
      by_cases hlt : s < r
      · have hltz : (s : Int) < (r : Int) := by omega
        obtain ⟨c, hc⟩ : ∃ x, x = (s + r) / 2 := ⟨_, rfl⟩
        obtain ⟨f, hf⟩ : ∃ x, x = p - c := ⟨_, rfl⟩
        have hc1 : s ≤ c := by omega
        have hc2 : c < r := by omega
        have hc3 : ((s : Int) + (r : Int)) / 2 = (c : Int) := by omega
        have hc4 : (c : Int) < (n : Int) := by omega
        have hf1 : IntKind.i64.wrap ((p : Int) - (c : Int)) = (f : Int) := by rw [IntKind.wrap_i64]; omega
        have hf2 : (f : Int) < (n : Int) := by omega
        have c1 := S0.out.1.cell f (by omega)
        have c2 := S0.out.1.cell c (by omega)
        have hcm := fun k => HC.out (wr.drewN k) (S0.out.1.keep.drewN k) _ _ (S0.out.1.pd HP.out f (by omega)) (S0.out.1.pd HP.out c (by omega))
        have HKS := Lib.hid (⟨fun h => S0.out.2 _ _ (by omega) (by omega) h, fun h => HK.out _ _ h⟩ : key (zn zs f) < key (zn zs c) ↔ kc (zn zs f) < kc (zn zs c))
        have e1 : N - (c + 1) = f := by omega
        have e2 : N - c - 1 = f := by omega
        clear hc hf
        by_cases hlv : ¬ key (zn zs f) < key (zn zs c)
        · have hd := cmpK_ge _ _ (fun h => hlv (HKS.out.2 h))
          have HL2 : Hid (c + 1 = lo ∨ key (zn zs (c + 1 - 1)) ≤ key (zn zs (N - (c + 1)))) := by
            right; rw [e1, show c + 1 - 1 = c by omega]; omega
          generalize cmpK (kc (zn zs f)) (kc (zn zs c)) = cc at hcm hd
          have HCM := Lib.hid hcm
          obtain ⟨x, hx⟩ : ∃ x, zn zs f = x := ⟨_, rfl⟩
          obtain ⟨y, hy⟩ : ∃ y, zn zs c = y := ⟨_, rfl⟩
          rw [hx] at c1 HCM
          rw [hy] at c2 HCM
          clear hx hy hcm hlv e1 e2 HL HKS
          go_wp2_with fail
          go_quiet (first | (go_at_fn fc; refine Calls.quiet_of (HCM.out _)))
          have S1 := Lib.hid ((⟨S0.out.1.drewN nq, S0.out.2⟩ : ST kc key w0 g n cap z0 (wr.drewN nq) zs))
          clear HCM c1 c2
          go_wp2_with fail
          go_roundw
          case rel => exact ⟨c + 1, r, by omega, by omega, by omega, by go_num, rfl, S1, HL2, HG⟩
          case measure => simp [intOf]; omega
        · have hlv2 := Decidable.not_not.1 hlv
          have hd := cmpK_lt _ _ (HKS.out.1 hlv2)
          have HG2 : Hid (c = hi ∨ key (zn zs (N - c - 1)) < key (zn zs c)) := by
            right; rw [e2]; exact hlv2
          generalize cmpK (kc (zn zs f)) (kc (zn zs c)) = cc at hcm hd
          have HCM := Lib.hid hcm
          obtain ⟨x, hx⟩ : ∃ x, zn zs f = x := ⟨_, rfl⟩
          obtain ⟨y, hy⟩ : ∃ y, zn zs c = y := ⟨_, rfl⟩
          rw [hx] at c1 HCM
          rw [hy] at c2 HCM
          clear hx hy hcm hlv hlv2 e1 e2 HG HKS
          go_wp2_with fail
          go_quiet (first | (go_at_fn fc; refine Calls.quiet_of (HCM.out _)))
          have S1 := Lib.hid ((⟨S0.out.1.drewN nq, S0.out.2⟩ : ST kc key w0 g n cap z0 (wr.drewN nq) zs))
          clear HCM c1 c2
          go_wp2_with fail
          go_roundw
          case rel => exact ⟨s, c, by omega, by omega, by omega, rfl, rfl, S1, HL, HG2⟩
          case measure => simp [intOf]; omega
      · obtain rfl : s = r := by omega
        obtain ⟨e, he⟩ : ∃ x, x = N - s := ⟨_, rfl⟩
        have w1 : IntKind.i64.wrap ((N : Int) - (s : Int)) = (e : Int) := by rw [IntKind.wrap_i64]; omega
        have v1 : a ≤ s := by omega
        have v2 : s ≤ mid := by omega
        have v3 : s ≤ m := by omega
        have v4 : m ≤ e := by omega
        have v5 : e ≤ b := by omega
        have v6 : mid ≤ e := by omega
        have v7 : e + s ≤ mid + m := by omega
        have v8 : mid + m ≤ e + s := by omega
        have H1 : Hid (s = a ∨ e = b ∨ key (zn zs (s - 1)) ≤ key (zn zs e)) := by
          rcases HL.out with h | h
          · rcases Q6.out with h2 | h2
            · left; omega
            · right; left; omega
          · right; right; rw [he]; exact h
        have H2 : Hid (s = m ∨ e = m ∨ key (zn zs (e - 1)) < key (zn zs s)) := by
          rcases HG.out with h | h
          · rcases Q7.out with h2 | h2
            · left; omega
            · right; left; omega
          · right; right; rw [he]; exact h
        have HRF := Lib.hid (fun z1 (h : ∀ p, zn z1 p = rtR (zn zs) s m e p) => rot_facts (key := key) v3 v4 v1 v5 v2 (by omega) HA.out HB.out H1.out H2.out h)
        have HTR := Lib.hid (fun z1 (hT : Sta kc key zs n) (h : ∀ p, zn z1 p = rtR (zn zs) s m e p) => hT.rot v1 v5 hb v3 v4 HA.out HB.out H2.out h)
        have HMB := Lib.hid (fun z1 z2 z3 (h : ∀ p, zn z1 p = rtR (zn zs) s m e p) hLR h2 h3 => mg_both (key := key) (z2 := z2) (z3 := z3) v3 v4 v1 v5 v2 v6 (by omega) h hLR h2 h3)
        clear HL HG Q6 Q7 H1 H2 hlt he HA HB HC HP
        have x1 : a < mid := by omega
        have x2 : mid < b := by omega
        clear q1 q2 q3 q4 q5 u1 u2 u3 t2 t3 d1 d2 d3 d4
        go_upto_region 39 with fail
        clear w1
        go_cut [185] (fun c wx => ∃ bb : Bool, c = .bool bb ∧ Hid (bb = true ↔ s < m ∧ m < e) ∧ Hid (ST kc key w0 g n cap z0 wx zs))
        case first =>
          as_aux_lemma =>
          by_cases h1 : s < m
          · have h1z : (s : Int) < (m : Int) := by omega
            by_cases h2 : m < e
            · have h2z : (m : Int) < (e : Int) := by omega
              go_wp2_with fail
              go_meet
              exact ⟨true, rfl, (show _ ↔ _ from by simp [h1, h2]), S0⟩
            · have h2z : ¬ (m : Int) < (e : Int) := by omega
              go_wp2_with fail
              go_meet
              exact ⟨false, rfl, (show _ ↔ _ from by simp; omega), S0⟩
          · have h1z : ¬ (s : Int) < (m : Int) := by omega
            go_wp2_with fail
            go_meet
            exact ⟨false, rfl, (show _ ↔ _ from by simp; omega), S0⟩
        case rest =>
          as_aux_lemma =>
          clear S0
          obtain ⟨bb, rfl, HBB, S0⟩ := hcut
          go_upto_if 185 with fail
          go_cut [24] (fun ev wx => ∃ z1, ev = .int .i64 e ∧ Hid (ST kc key w0 g n cap z0 wx z1) ∧ Hid (∀ p, zn z1 p = rtR (zn zs) s m e p))
          case first =>
            as_aux_lemma =>
            cases bb with
            | true =>
              obtain ⟨h1, h2⟩ := HBB.out.1 rfl
              have HRR := Lib.hid (HR.out _ zs s m e h1 h2 (by omega) S0.out.1)
              have ST0 : Hid (Sta kc key zs n) := S0.out.2
              clear h1 h2
              go_wp2_with fail
              refine HRR.out.mono ?_; rintro er w2 ⟨rfl, z2, S2, E2⟩
              go_wp2_with fail
              go_meet
              exact ⟨z2, rfl, ⟨S2, HTR.out z2 ST0.out E2⟩, E2⟩
            | false =>
              have hb : s = m ∨ m = e := by
                have := HBB.out
                simp at this
                omega
              have HZ : Hid (∀ p, zn zs p = rtR (zn zs) s m e p) := fun p => rtR_none _ _ _ _ p v3 v4 hb
              clear hb
              go_wp2_with fail
              go_meet
              exact ⟨zs, rfl, S0, HZ⟩
          case rest =>
            as_aux_lemma =>
            clear S0 HR HBB HTR
            obtain ⟨z1, rfl, S1, E1⟩ := hcut
            obtain ⟨k1, k2, k3, k4, k5⟩ := HRF.out z1 E1.out
            have K1 := Lib.hid k1
            have K2 := Lib.hid k2
            have K3 := Lib.hid k3
            have K4 := Lib.hid k4
            have K5 := Lib.hid k5
            clear k1 k2 k3 k4 k5 HRF
            go_upto_region 41 with fail
            go_cut [199] (fun c wx => ∃ bb : Bool, c = .bool bb ∧ Hid (bb = true ↔ a < s ∧ s < mid) ∧ Hid (ST kc key w0 g n cap z0 wx z1))
            case first =>
              as_aux_lemma =>
              by_cases h1 : a < s
              · have h1z : (a : Int) < (s : Int) := by omega
                by_cases h2 : s < mid
                · have h2z : (s : Int) < (mid : Int) := by omega
                  go_wp2_with fail
                  go_meet
                  exact ⟨true, rfl, (show _ ↔ _ from by simp [h1, h2]), S1⟩
                · have h2z : ¬ (s : Int) < (mid : Int) := by omega
                  go_wp2_with fail
                  go_meet
                  exact ⟨false, rfl, (show _ ↔ _ from by simp; omega), S1⟩
              · have h1z : ¬ (a : Int) < (s : Int) := by omega
                go_wp2_with fail
                go_meet
                exact ⟨false, rfl, (show _ ↔ _ from by simp; omega), S1⟩
            case rest =>
              as_aux_lemma =>
              clear S1
              obtain ⟨bb, rfl, HBB, S1⟩ := hcut
              go_upto_if 199 with fail
              go_cut [24] (fun ev wx => ∃ z2, ev = .int .i64 e ∧ Hid (ST kc key w0 g n cap z0 wx z2) ∧ Hid (Mg key z1 z2 a mid))
              case first =>
                as_aux_lemma =>
                cases bb with
                | true =>
                  obtain ⟨h1, h2⟩ := HBB.out.1 rfl
                  have HRR := Lib.hid (IH.out _ z1 a s mid (by omega) h1 h2 (by omega) S1.out K1.out K2.out)
                  clear h1 h2
                  go_wp2_with fail
                  refine HRR.out.mono ?_; rintro er w2 ⟨rfl, z2, S2, E2⟩
                  go_wp2_with fail
                  go_meet
                  exact ⟨z2, rfl, S2, E2⟩
                | false =>
                  have hb : s = a ∨ s = mid := by
                    have := HBB.out
                    simp at this
                    omega
                  have HZ : Hid (Mg key z1 z1 a mid) := Mg.same (by
                    rcases hb with h | h
                    · subst h; exact K2.out
                    · subst h; exact K1.out)
                  clear hb
                  go_wp2_with fail
                  go_meet
                  exact ⟨z1, rfl, S1, HZ⟩
              case rest =>
                as_aux_lemma =>
                clear S1 HBB
                obtain ⟨z2, rfl, S2, E2⟩ := hcut
                have L3 : Hid (Srt key z2 mid e) := fun p q h1 h2 h3 => by rw [E2.out.out p (.inr h1), E2.out.out q (.inr (by omega))]; exact K3.out p q h1 h2 h3
                have L4 : Hid (Srt key z2 e b) := fun p q h1 h2 h3 => by rw [E2.out.out p (.inr (by omega)), E2.out.out q (.inr (by omega))]; exact K4.out p q h1 h2 h3
                clear K1 K2 K3 K4
                go_upto_region 43 with fail
                go_cut [213] (fun c wx => ∃ bb : Bool, c = .bool bb ∧ Hid (bb = true ↔ mid < e ∧ e < b) ∧ Hid (ST kc key w0 g n cap z0 wx z2))
                case first =>
                  as_aux_lemma =>
                  by_cases h1 : mid < e
                  · have h1z : (mid : Int) < (e : Int) := by omega
                    by_cases h2 : e < b
                    · have h2z : (e : Int) < (b : Int) := by omega
                      go_wp2_with fail
                      go_meet
                      exact ⟨true, rfl, (show _ ↔ _ from by simp [h1, h2]), S2⟩
                    · have h2z : ¬ (e : Int) < (b : Int) := by omega
                      go_wp2_with fail
                      go_meet
                      exact ⟨false, rfl, (show _ ↔ _ from by simp; omega), S2⟩
                  · have h1z : ¬ (mid : Int) < (e : Int) := by omega
                    go_wp2_with fail
                    go_meet
                    exact ⟨false, rfl, (show _ ↔ _ from by simp; omega), S2⟩
                case rest =>
                  as_aux_lemma =>
                  clear S2
                  obtain ⟨bb, rfl, HBB, S2⟩ := hcut
                  go_upto_if 213 with fail
                  cases bb with
                  | true =>
                    obtain ⟨h1, h2⟩ := HBB.out.1 rfl
                    have HRR := Lib.hid (IH.out _ z2 mid e b (by omega) h1 h2 hb S2.out L3.out L4.out)
                    clear h1 h2 IH
                    go_wp2_with fail
                    refine HRR.out.mono ?_; rintro er w2 ⟨rfl, z3, S3, E3⟩
                    go_wp2_with fail
                    go_end0
                    exact ⟨rfl, z3, S3, HMB.out z1 z2 z3 E1.out K5.out E2.out E3⟩
                  | false =>
                    have hb2 : mid = e ∨ e = b := by
                      have := HBB.out
                      simp at this
                      omega
                    have HZ : Hid (Mg key z2 z2 mid b) := Mg.same (by
                      rcases hb2 with h | h
                      · rw [h]; exact L4.out
                      · rw [← h]; exact L3.out)
                    clear hb2 IH
                    go_wp2_with fail
                    go_end0
                    exact ⟨rfl, z2, S2.out, HMB.out z1 z2 z2 E1.out K5.out E2.out HZ.out⟩
theorem symmerge_c {w0 : World} {g n cap : Nat} {z0 : List Int} (fc : Nat) (cb : Array Value) (Pd : Int → Prop) (kc key : Int → Int) (hkc : ∀ x y, kc x < kc y → key x < key y) (hC : CmpBy fc cb Pd kc w0 g) (hP : ∀ z ∈ z0, Pd z) (hn : n < 4611686018427387904) :
    ∀ (d : Nat) (w : World) (zs : List Int) (a m b : Nat), b - a ≤ d → a < m → m < b → b ≤ n → ST kc key w0 g n cap z0 w zs → Srt key zs a m → Srt key zs m b →
    Calls Tryz.prog 97 #[.slice (some ⟨g, 0, none⟩) n cap, .int .i64 a, .int .i64 m, .int .i64 b, .func (.func fc) #[] cb] w fun e w' => e = .returned (.tuple #[]) ∧ ∃ zs', ST kc key w0 g n cap z0 w' zs' ∧ Mg key zs zs' a b := by
  intro d
  induction d with
  | zero => intro w zs a m b h1 h2 h3; omega
  | succ d ih =>
    intro w zs a m b hd ham hmb hb S hA hB
    by_cases h1 : m = a + 1
    · subst h1
      exact (symmerge_one fc cb Pd kc key hkc hC hP hn w zs a b hmb hb S.1 S.2 hB).mono fun e w' ⟨h1, z, h2, h3, h4⟩ => ⟨h1, z, ⟨h2, h3⟩, h4⟩
    · by_cases h2 : b = m + 1
      · subst h2
        exact (symmerge_last fc cb Pd kc key hkc hC hP hn w zs a m (by omega) hb S.1 S.2 hA).mono fun e w' ⟨h1, z, h2, h3, h4⟩ => ⟨h1, z, ⟨h2, h3⟩, h4⟩
      · exact symmerge_gen fc cb Pd kc key hkc hC hP hn w zs a m b (by omega) (by omega) hb S hA hB (fun w zs a' m' b' hlt h3 h4 h5 S' hA' hB' => ih w zs a' m' b' (by omega) h3 h4 h5 S' hA' hB')
end Go.Proofs.YtibkepjbblfkoaaGreatDoor
namespace Go.Proofs.YtibkepjbblfkoaaGreatDoor
set_option linter.unusedVariables false
set_option linter.unusedSimpArgs false
open Go.ChangeShapes Go.WideShapes Go.ChangeAt Go.RowKit

/-- each row of bs numbers is sorted -/
def Bk (key : Int → Int) (zs : List Int) (bs n : Nat) : Prop := ∀ j, Srt key zs (j * bs) (min ((j + 1) * bs) n)
theorem Srt.moved {key : Int → Int} {zs zs' : List Int} {a b : Nat} (h : Srt key zs a b) (he : ∀ p, a ≤ p → p < b → zn zs' p = zn zs p) : Srt key zs' a b :=
  fun p q h1 h2 h3 => by rw [he p h1 (by omega), he q (by omega) h3]; exact h p q h1 h2 h3
structure Q1 (key : Int → Int) (k A : Nat) (zs : List Int) : Prop where
  at_ : A = k * 20
  srt : ∀ j, j < k → Srt key zs (j * 20) ((j + 1) * 20)
theorem Q1.step {key : Int → Int} {k A : Nat} {zs zs' : List Int} (h : Q1 key k A zs) (hs : Srt key zs' A (A + 20)) (ho : ∀ p, p < A ∨ A + 20 ≤ p → zn zs' p = zn zs p) : Q1 key (k + 1) (A + 20) zs' := by
  have ha := h.at_
  refine ⟨by omega, fun j hj => ?_⟩
  by_cases e : j = k
  · subst e; rw [← ha, show (j + 1) * 20 = A + 20 by omega]; exact hs
  · exact (h.srt j (by omega)).moved (fun p _ h2 => ho p (.inl (by omega)))
theorem Q1.done {key : Int → Int} {k A n : Nat} {zs zs' : List Int} (h : Q1 key k A zs) (hA : A ≤ n) (hn : n < A + 20) (hs : Srt key zs' A n) (ho : ∀ p, p < A ∨ n ≤ p → zn zs' p = zn zs p) : Bk key zs' 20 n := by
  have ha := h.at_
  intro j
  by_cases e : j < k
  · rw [show min ((j + 1) * 20) n = (j + 1) * 20 by omega]
    exact (h.srt j e).moved (fun p _ h2 => ho p (.inl (by omega)))
  · by_cases e2 : j = k
    · subst e2; rw [← ha, show min ((j + 1) * 20) n = n by omega]; exact hs
    · exact Srt.one _ _ _ _ (by omega)
structure Q2 (key : Int → Int) (bs n K A : Nat) (zs : List Int) : Prop where
  at_ : A = K * (2 * bs)
  lo : ∀ j, j < K → Srt key zs (j * (2 * bs)) ((j + 1) * (2 * bs))
  hi : ∀ j, 2 * K ≤ j → Srt key zs (j * bs) (min ((j + 1) * bs) n)
theorem Q2.start {key : Int → Int} {bs n : Nat} {zs : List Int} (h : Bk key zs bs n) : Q2 key bs n 0 0 zs := ⟨by omega, fun j hj => by omega, fun j _ => h j⟩
section
variable {key : Int → Int} {bs n K A : Nat} {zs zs' : List Int}
theorem Q2.m1 (h : Q2 key bs n K A zs) : (2 * K) * bs = A ∧ (2 * K + 1) * bs = A + bs ∧ (2 * K + 1 + 1) * bs = A + 2 * bs ∧ (K + 1) * (2 * bs) = A + 2 * bs := by
  have ha := h.at_
  have e1 : (2 * K) * bs = K * (2 * bs) := by rw [Nat.mul_comm 2 K, Nat.mul_assoc]
  refine ⟨by omega, by rw [Nat.add_mul]; omega, by rw [Nat.add_mul, Nat.add_mul]; omega, by rw [Nat.add_mul]; omega⟩
theorem Q2.left (h : Q2 key bs n K A zs) (hn : A + 2 * bs ≤ n) : Srt key zs A (A + bs) ∧ Srt key zs (A + bs) (A + 2 * bs) := by
  obtain ⟨e1, e2, e3, _⟩ := h.m1
  have h1 := h.hi (2 * K) (by omega)
  have h2 := h.hi (2 * K + 1) (by omega)
  rw [e1, e2, show min (A + bs) n = A + bs by omega] at h1
  rw [e2, e3, show min (A + 2 * bs) n = A + 2 * bs by omega] at h2
  exact ⟨h1, h2⟩
theorem Q2.step (h : Q2 key bs n K A zs) (hm : Mg key zs zs' A (A + 2 * bs)) : Q2 key bs n (K + 1) (A + 2 * bs) zs' := by
  obtain ⟨e1, e2, e3, e4⟩ := h.m1
  have ha := h.at_
  refine ⟨e4.symm, fun j hj => ?_, fun j hj => ?_⟩
  · by_cases e : j = K
    · subst e; rw [← ha, e4]; exact hm.srt
    · have : (j + 1) * (2 * bs) ≤ K * (2 * bs) := Nat.mul_le_mul_right _ (by omega)
      exact (h.lo j (by omega)).moved (fun p _ h2 => hm.out p (.inl (by omega)))
  · have : (2 * K + 1 + 1) * bs ≤ j * bs := Nat.mul_le_mul_right _ (by omega)
    exact (h.hi j (by omega)).moved (fun p h1 _ => hm.out p (.inr (by omega)))
theorem Q2.last (h : Q2 key bs n K A zs) (hn : n < A + 2 * bs) : Srt key zs A (min (A + bs) n) ∧ (A + bs < n → Srt key zs A (A + bs) ∧ Srt key zs (A + bs) n) := by
  obtain ⟨e1, e2, e3, _⟩ := h.m1
  have h1 := h.hi (2 * K) (by omega)
  have h2 := h.hi (2 * K + 1) (by omega)
  rw [e1, e2] at h1
  rw [e2, e3, show min (A + 2 * bs) n = n by omega] at h2
  exact ⟨h1, fun hl => by rw [show min (A + bs) n = A + bs by omega] at h1; exact ⟨h1, h2⟩⟩
theorem Q2.done (h : Q2 key bs n K A zs) (hA : A ≤ n) (hn : n < A + 2 * bs) (hs : Srt key zs' A n) (ho : ∀ p, p < A → zn zs' p = zn zs p) : Bk key zs' (2 * bs) n := by
  obtain ⟨e1, e2, e3, e4⟩ := h.m1
  have ha := h.at_
  intro j
  by_cases e : j < K
  · have : (j + 1) * (2 * bs) ≤ K * (2 * bs) := Nat.mul_le_mul_right _ (by omega)
    rw [show min ((j + 1) * (2 * bs)) n = (j + 1) * (2 * bs) by omega]
    exact (h.lo j e).moved (fun p _ h2 => ho p (by omega))
  · by_cases e2 : j = K
    · subst e2; rw [← ha, e4, show min (A + 2 * bs) n = n by omega]; exact hs
    · have : (K + 1) * (2 * bs) ≤ j * (2 * bs) := Nat.mul_le_mul_right _ (by omega)
      exact Srt.one _ _ _ _ (by omega)
end
theorem Bk.all {key : Int → Int} {zs : List Int} {bs n : Nat} (h : Bk key zs bs n) (hn : n ≤ bs) : Srt key zs 0 n := by
  have h0 := h 0
  rw [Nat.zero_mul, show min ((0 + 1) * bs) n = n by omega] at h0
  exact h0
set_option maxRecDepth 100000 in
set_option maxHeartbeats 8000000 in
theorem stable_c {w0 : World} {g n cap : Nat} {z0 : List Int} (fc : Nat) (cb : Array Value) (Pd : Int → Prop) (kc key : Int → Int) (hkc : ∀ x y, kc x < kc y → key x < key y) (hC : CmpBy fc cb Pd kc w0 g) (hP : ∀ z ∈ z0, Pd z) (hn : n < 1152921504606846976)
    (w : World) (zs : List Int) (S : ST kc key w0 g n cap z0 w zs) :
    Calls Tryz.prog 93 #[.slice (some ⟨g, 0, none⟩) n cap, .int .i64 n, .func (.func fc) #[] cb] w fun e w' => e = .returned (.tuple #[]) ∧ ∃ zs', ST kc key w0 g n cap z0 w' zs' ∧ Srt key zs' 0 n := by
  have hn2 : n < 4611686018427387904 := by omega
  have HI := Lib.hid (fun w zs a b h1 h2 S => (insertion_c (w0 := w0) (g := g) (n := n) (cap := cap) (z0 := z0) fc cb Pd kc key hkc hC hP hn2 w zs a b h1 h2 (show ST kc key w0 g n cap z0 w zs from S).1 S.2).mono (R' := fun e w' => e = .returned (.tuple #[]) ∧ ∃ zs', ST kc key w0 g n cap z0 w' zs' ∧ Srt key zs' a b ∧ ∀ p, p < a ∨ b ≤ p → zn zs' p = zn zs p) fun e w' ⟨h1, z, h2, h3, h4⟩ => ⟨h1, z, ⟨h2, h3⟩, h4⟩)
  have HM := Lib.hid (fun w zs a m b h1 h2 h3 S hA hB => symmerge_c (w0 := w0) (g := g) (n := n) (cap := cap) (z0 := z0) fc cb Pd kc key hkc hC hP hn2 (b - a) w zs a m b (Nat.le_refl _) h1 h2 h3 S hA hB)
  have S0 := Lib.hid S
  clear S hC hP hkc
  go_enter Tryz.func93, Tryz.ntmps93
  go_wp2_with fail
  go_loopw [7, 8] (fun x y wr => ∃ (k A B : Nat) (zk : List Int), A ≤ n ∧ B ≤ A + 20 ∧ A + 20 ≤ B ∧ x = .int .i64 A ∧ y = .int .i64 B ∧ Hid (Q1 key k A zk) ∧ Hid (ST kc key w0 g n cap z0 wr zk)) (fun _ y _ => n + 20 - (intOf y).toNat)
  case atStart => exact ⟨0, 0, 20, zs, by omega, by omega, by omega, rfl, rfl, ⟨by omega, fun j hj => by omega⟩, S0.out⟩
  case round =>
    clear S0
    obtain ⟨k, A, B, zk, hA, hB1, hB2, rfl, rfl, HQ, HS⟩ := hrel
    by_cases hlt : B ≤ n
    · have hltz : (B : Int) ≤ (n : Int) := by omega
      have HC := Lib.hid (HI.out wr zk A B (by omega) hlt HS.out)
      have HQ2 := Lib.hid (fun z2 h1 h2 => HQ.out.step (zs' := z2) h1 h2)
      have hBA : B = A + 20 := by omega
      rw [← hBA] at HQ2
      clear hBA HS HQ
      go_wp2_with fail
      refine HC.out.mono ?_; rintro er w2 ⟨rfl, z2, S2, E2, E3⟩
      have HS2 := Lib.hid S2
      have HQ3 := Lib.hid (HQ2.out z2 E2 E3)
      clear S2 E2 E3 HC HQ2
      go_wp2_with fail
      go_roundw
      case rel => exact ⟨k + 1, B, B + 20, z2, by omega, by omega, by omega, rfl, by go_num, HQ3, HS2⟩
      case measure => simp [intOf]; omega
    · have hltz : ¬ (B : Int) ≤ (n : Int) := by omega
      have HC := Lib.hid (HI.out wr zk A n (by omega) (by omega) HS.out)
      have HQ2 := Lib.hid (fun z2 h1 h2 => HQ.out.done (n := n) (zs' := z2) hA (by omega) h1 h2)
      clear HS HQ
      go_wp2_with fail
      refine HC.out.mono ?_; rintro er w2 ⟨rfl, z2, S2, E2, E3⟩
      have HS2 := Lib.hid S2
      have HQ3 := Lib.hid (HQ2.out z2 E2 E3)
      clear S2 E2 E3 HC HQ2 HI
      go_wp2_with fail
      go_loopw [6] (fun x wr => ∃ (bs : Nat) (zk : List Int), 0 < bs ∧ bs ≤ 2 * n + 20 ∧ x = .int .i64 bs ∧ Hid (Bk key zk bs n) ∧ Hid (ST kc key w0 g n cap z0 wr zk)) (fun x _ => n - (intOf x).toNat)
      case atStart => exact ⟨20, z2, by omega, by omega, rfl, HQ3, HS2⟩
      case round =>
        clear HQ3 HS2 hltz hlt hA hB1 hB2
        obtain ⟨bs, zk, hb0, hb1, rfl, HB, HS⟩ := hrel
        by_cases hlt : bs < n
        · have hltz : (bs : Int) < (n : Int) := by omega
          obtain ⟨b2, hb2⟩ : ∃ x, x = 2 * bs := ⟨_, rfl⟩
          have r1 : IntKind.i64.wrap (2 * (bs : Int)) = (b2 : Int) := by rw [IntKind.wrap_i64]; omega
          have r2 : IntKind.i64.wrap ((bs : Int) * 2) = (b2 : Int) := by rw [IntKind.wrap_i64]; omega
          have hb3 : b2 ≤ 2 * bs := by omega
          have hb4 : 2 * bs ≤ b2 := by omega
          have HQ0 := Lib.hid (Q2.start HB.out)
          clear HB
          go_wp2_with fail
          go_loopw [7, 8] (fun x y wr => ∃ (K A B : Nat) (zk : List Int), A ≤ n ∧ B ≤ A + b2 ∧ A + b2 ≤ B ∧ x = .int .i64 A ∧ y = .int .i64 B ∧ Hid (Q2 key bs n K A zk) ∧ Hid (ST kc key w0 g n cap z0 wr zk)) (fun _ y _ => n + b2 - (intOf y).toNat)
          case atStart => exact ⟨0, 0, b2, zk, by omega, by omega, by omega, rfl, by first | rfl | (congr 1; omega), HQ0.out, HS.out⟩
          case round =>
            clear HQ0 HS
            obtain ⟨K, A, B, zk, hA, hB1, hB2, rfl, rfl, HQ, HS⟩ := hrel
            obtain ⟨m, hm⟩ : ∃ x, x = A + bs := ⟨_, rfl⟩
            have r3 : IntKind.i64.wrap ((A : Int) + (bs : Int)) = (m : Int) := by rw [IntKind.wrap_i64]; omega
            by_cases hle : B ≤ n
            · have hlez : (B : Int) ≤ (n : Int) := by omega
              have hBA : B = A + 2 * bs := by omega
              obtain ⟨l1, l2⟩ := HQ.out.left (by omega)
              rw [← hm] at l1 l2
              rw [← hBA] at l2
              have HC := Lib.hid (HM.out wr zk A m B (by omega) (by omega) hle HS.out l1 l2)
              have HQ2 := Lib.hid (fun z2 h1 => HQ.out.step (zs' := z2) h1)
              rw [← hBA] at HQ2
              have r4 : IntKind.i64.wrap ((B : Int) + (b2 : Int)) = ((B + b2 : Nat) : Int) := by rw [IntKind.wrap_i64]; omega
              clear hBA HS HQ l1 l2 hm r2
              go_wp2_with fail
              refine HC.out.mono ?_; rintro er w3 ⟨rfl, z3, S3, E3⟩
              have HS3 := Lib.hid S3
              have HQ3 := Lib.hid (HQ2.out z3 E3)
              clear S3 E3 HC HQ2
              go_wp2_with fail
              go_roundw
              case rel => exact ⟨K + 1, B, B + b2, z3, by omega, by omega, by omega, rfl, by go_num, HQ3, HS3⟩
              case measure => simp [intOf]; omega
            · have hlez : ¬ (B : Int) ≤ (n : Int) := by omega
              obtain ⟨l1, l2⟩ := HQ.out.last (by omega)
              rw [← hm] at l1 l2
              have HQ2 := Lib.hid (fun z2 h1 h2 => HQ.out.done (zs' := z2) hA (by omega) h1 h2)
              rw [← hb2] at HQ2
              by_cases hmn : m < n
              · have hmnz : (m : Int) < (n : Int) := by omega
                have HC := Lib.hid (HM.out wr zk A m n (by omega) hmn (Nat.le_refl _) HS.out (l2 hmn).1 (l2 hmn).2)
                clear HS HQ l1 l2 hm r1 hb2
                go_wp2_with fail
                refine HC.out.mono ?_; rintro er w3 ⟨rfl, z3, S3, E3⟩
                have HS3 := Lib.hid S3
                have HQ3 := Lib.hid (HQ2.out z3 E3.srt (fun p hp => E3.out p (.inl hp)))
                clear S3 E3 HC HQ2
                go_wp2_with fail
                go_roundw
                case rel => exact ⟨b2, z3, by omega, by omega, rfl, HQ3, HS3⟩
                case measure => simp [intOf]; omega
              · have hmnz : ¬ (m : Int) < (n : Int) := by omega
                have HQ3 := Lib.hid (HQ2.out zk (by rw [show n = min m n by omega]; exact l1) (fun _ _ => rfl))
                clear HQ HQ2 l1 l2 hm r1 hb2
                go_wp2_with fail
                go_roundw
                case rel => exact ⟨b2, zk, by omega, by omega, rfl, HQ3, HS⟩
                case measure => simp [intOf]; omega
        · have hltz : ¬ (bs : Int) < (n : Int) := by omega
          go_wp2_with fail
          go_end0
          exact ⟨rfl, zk, HS.out, HB.out.all (by omega)⟩
set_option maxRecDepth 100000 in
theorem sortstable_c (fc : Nat) (cb : Array Value) (Pd : Int → Prop) (kc key : Int → Int) (hkc : ∀ x y, kc x < kc y → key x < key y) (w : World) (g n cap : Nat) (zs : List Int) (h : OwnI w (.slice (some ⟨g, 0, none⟩) n cap) zs) (hT : Sta kc key zs n) (hC : CmpBy fc cb Pd kc w g) (hP : ∀ z ∈ zs, Pd z) (hn : n < 1152921504606846976) :
    Calls Tryz.prog 81 #[.slice (some ⟨g, 0, none⟩) n cap, .func (.func fc) #[] cb] w fun e w' => e = .returned (.tuple #[]) ∧ ∃ zs', OwnI w' (.slice (some ⟨g, 0, none⟩) n cap) zs' ∧ Keep [g] w w' ∧ zs'.Perm zs ∧ Srt key zs' 0 n := by
  have HS := Lib.hid (stable_c (w0 := w) (z0 := zs) fc cb Pd kc key hkc hC hP hn w zs ⟨⟨h, Keep.refl _ _, List.Perm.refl _⟩, hT⟩)
  clear h hC hP hT hkc
  go_enter Tryz.func81, Tryz.ntmps81
  go_wp2_with fail
  refine HS.out.mono ?_; rintro er w2 ⟨rfl, z2, S2, E2⟩
  go_wp2_with fail
  go_end0
  exact ⟨rfl, z2, S2.1.own, S2.1.keep, S2.1.perm, E2⟩
end Go.Proofs.YtibkepjbblfkoaaGreatDoor
namespace Go.Proofs.YtibkepjbblfkoaaGreatDoor
set_option linter.unusedVariables false
set_option linter.unusedSimpArgs false
open Go.ChangeShapes Go.WideShapes Go.ChangeAt Go.RowKit

set_option maxRecDepth 100000 in
set_option maxHeartbeats 1000000 in
theorem maybe_c (w : World) (v : Value) (zs : List Int) (most : Int) (h : Is .i64 w v zs) : Calls Tryz.prog 65 #[v, .int .i64 most] w fun e w' => e = .returned (.bool (mayF zs most)) ∧ ∃ n, w' = w.drewN n := by
  have HI := Lib.hid (fun i hi => h.at i hi)
  obtain ⟨a, cap, rfl, hl⟩ := h.sh
  have HM := Lib.hid (mayF_iff zs most)
  by_cases hlo : most < 1
  · have hf : Hid (mayF zs most = false) := by unfold Hid; rw [Bool.eq_false_iff]; intro hm; have := (HM.out.1 hm).1; omega
    clear h
    go_enter Tryz.func65, Tryz.ntmps65
    go_wp2
    go_ret
    exact ⟨by rw [hf.out]; rfl, 0, rfl⟩
  by_cases hhi : 16 < most
  · have hf : Hid (mayF zs most = false) := by unfold Hid; rw [Bool.eq_false_iff]; intro hm; have := (HM.out.1 hm).2.1; omega
    clear h
    go_enter Tryz.func65, Tryz.ntmps65
    go_wp2
    go_ret
    exact ⟨by rw [hf.out]; rfl, 0, rfl⟩
  obtain ⟨M, rfl⟩ : ∃ M : Nat, most = M := ⟨most.toNat, by omega⟩
  by_cases hbig : 4096 < zs.length
  · have hf : Hid (mayF zs M = false) := by unfold Hid; rw [Bool.eq_false_iff]; intro hm; have := (HM.out.1 hm).2.2.1; omega
    clear h
    go_enter Tryz.func65, Tryz.ntmps65
    go_wp2
    go_ret
    exact ⟨by rw [hf.out]; rfl, 0, rfl⟩
  clear h
  have m1 : 1 ≤ M := by omega
  have m2 : M ≤ 16 := by omega
  have b1 : decide ((M : Int) < 1) = false := decide_eq_false (by omega)
  have b2 : decide ((M : Int) > 16) = false := decide_eq_false (by omega)
  have b3 : decide ((zs.length : Int) > 4096) = false := decide_eq_false (by omega)
  go_enter Tryz.func65, Tryz.ntmps65
  go_wp2_with fail
  clear b1 b2 b3
  go_loopw [5, 21] (fun x i wr => ∃ (k y : Nat), k ≤ zs.length ∧ i = .int .i64 k ∧ x = .int .i64 y ∧ y ≤ k ∧ Hid (y = ct (fun i => decide (fn zs i ≠ 0)) k) ∧ Hid (∀ i (hi : i < zs.length), i < k → 0 ≤ zs[i] ∧ zs[i] ≤ 1099511627776) ∧ ∃ n, wr = w.drewN n) (fun _ i _ => zs.length - (intOf i).toNat)
  case atStart => exact ⟨0, 0, by omega, rfl, rfl, by omega, rfl, fun i _ hi => by omega, 0, rfl⟩
  case round =>
    obtain ⟨k, y, hk, rfl, rfl, hy, HY, HR, n, rfl⟩ := hrel
    by_cases hlt : k < zs.length
    · obtain ⟨b, off, cap', hv, e1⟩ := HI.out k hlt
      simp only [Value.slice.injEq] at hv
      obtain ⟨rfl, h2, rfl⟩ := hv
      clear h2
      by_cases hbad : zs[k] < 0 ∨ 1099511627776 < zs[k]
      · have hf : Hid (mayF zs M = false) := by
          unfold Hid; rw [Bool.eq_false_iff]; intro hm
          have h1 := (HM.out.1 hm).2.2.2.1
          rw [bad_F k hlt hbad] at h1; simp at h1
        generalize zs[k] = z at e1 hbad
        by_cases hneg : z < 0
        · clear hbad
          go_wp2_with fail
          go_ret
          exact ⟨by rw [hf.out]; rfl, _, rfl⟩
        · have : 1099511627776 < z := by omega
          clear hbad
          go_wp2_with fail
          go_ret
          exact ⟨by rw [hf.out]; rfl, _, rfl⟩
      · have HR2 : Hid (∀ i (hi : i < zs.length), i < k + 1 → 0 ≤ zs[i] ∧ zs[i] ≤ 1099511627776) := by
          intro i hi hij
          by_cases e : i = k
          · subst e; omega
          · exact HR.out i hi (by omega)
        have hz1 : ¬ zs[k] < 0 := by omega
        have hz2 : ¬ 1099511627776 < zs[k] := by omega
        have HS := Lib.hid (used_step zs k hlt)
        generalize zs[k] = z at e1 hz1 hz2 HS
        clear hbad HR
        by_cases h0 : 0 < z
        · rw [if_pos h0] at HS
          go_wp2_with fail
          go_roundw
          case rel => exact ⟨k + 1, y + 1, by omega, by go_num, by go_num, by omega, by unfold Hid; rw [HS.out, HY.out], HR2, _, rfl⟩
          case measure => simp [intOf]; omega
        · rw [if_neg h0] at HS
          go_wp2_with fail
          go_roundw
          case rel => exact ⟨k + 1, y, by omega, by go_num, rfl, by omega, by unfold Hid; rw [HS.out, HY.out]; rfl, HR2, _, rfl⟩
          case measure => simp [intOf]; omega
    · obtain rfl : k = zs.length := by omega
      have hok : okF zs = true := (okF_iff zs).2 (fun z hz => by
        obtain ⟨i, hi, rfl⟩ := List.getElem_of_mem hz
        exact HR.out i hi hi)
      have HP : Hid ((2 : Nat) ^ M ≤ 65536) := Nat.pow_le_pow_right (n := 2) (j := 16) (by decide) m2
      have hres : Hid (mayF zs M = decide ((y : Int) ≤ ((2 ^ M : Nat) : Int))) := by
        unfold Hid
        rw [HY.out]
        by_cases h : usedN zs.length (fn zs) ≤ 2 ^ M
        · rw [(HM.out).2 ⟨by omega, by omega, by omega, hok, by simpa using h⟩]
          exact (decide_eq_true (Int.ofNat_le.2 h)).symm
        · have hf : mayF zs (M : Int) = false := by
            rw [Bool.eq_false_iff]; intro hm; exact h (by simpa using (HM.out.1 hm).2.2.2.2)
          rw [hf]
          exact (decide_eq_false (fun h2 => h (Int.ofNat_le.1 h2))).symm
      clear hok HR HI HY
      go_wp2_with fail
      have hw : wrap64 ((2 : Int) ^ M) = ((2 ^ M : Nat) : Int) := by
        have hp := HP.out
        rw [show ((2 : Int) ^ M) = ((2 ^ M : Nat) : Int) by simp]
        generalize (2 ^ M : Nat) = P at hp
        unfold wrap64; omega
      go_ret
      rw [hres.out, hw]
      exact ⟨rfl, _, rfl⟩
theorem isum_stop (zs ls : List Int) (m N : Nat) (hm : m ≤ N) (h : ∀ i, m ≤ i → zn zs i * zn ls i = 0) : isum zs ls N = isum zs ls m := by
  induction N with
  | zero => rw [show m = 0 by omega]
  | succ N ih =>
    by_cases e : m = N + 1
    · rw [e]
    · rw [isum, ih (by omega), h N (by omega)]; simp
theorem zn_out (zs : List Int) (i : Nat) (h : zs.length ≤ i) : zn zs i = 0 := by
  unfold zn; rw [List.getD_eq_getElem?_getD, List.getElem?_eq_none h]; rfl
end Go.Proofs.YtibkepjbblfkoaaGreatDoor
namespace Go.Proofs.YtibkepjbblfkoaaGreatDoor
set_option linter.unusedVariables false
set_option linter.unusedSimpArgs false
open Go.ChangeShapes Go.WideShapes Go.ChangeAt Go.RowKit

theorem compare_c (w : World) (x y : Int) : Calls Tryz.prog 83 #[.int .i64 x, .int .i64 y] w fun e w' => e = .returned (.int .i64 (cmpK x y)) ∧ ∃ n, w' = w.drewN n := by
  by_cases h1 : x < y
  · have hc : Hid (cmpK x y = -1) := by unfold Hid cmpK; rw [if_pos h1]
    go_enter Tryz.func83, Tryz.ntmps83
    go_wp2
    go_ret
    exact ⟨by rw [hc.out]; rfl, 0, rfl⟩
  · by_cases h2 : y < x
    · have hc : Hid (cmpK x y = 1) := by unfold Hid cmpK; rw [if_neg h1, if_pos h2]
      have h3 : x > y := h2
      go_enter Tryz.func83, Tryz.ntmps83
      go_wp2
      go_ret
      exact ⟨by rw [hc.out]; rfl, 0, rfl⟩
    · have hc : Hid (cmpK x y = 0) := by unfold Hid cmpK; rw [if_neg h1, if_neg h2]
      have h3 : ¬ x > y := h2
      go_enter Tryz.func83, Tryz.ntmps83
      go_wp2
      go_ret
      exact ⟨by rw [hc.out]; rfl, 0, rfl⟩
/-- a slice of numbers whose block is not g -/
theorem Is.awayCell {w w' : World} {v : Value} {zs : List Int} {g : Nat} (h : Is .i64 w v zs) (k : Keep [g] w w') (hv : v.ownBlock ≠ some g) : Is .i64 w' v zs :=
  h.keep k (fun b hb hm => hv (by rw [hb, show b = g by simpa using hm]))
set_option maxHeartbeats 1000000 in
theorem risingcmp_c (w0 : World) (bx g : Nat) (fv : Value) (zs : List Int) (h : Is .i64 w0 fv zs) (hv : fv.ownBlock ≠ some g) (hb : w0.cell? ⟨bx, 0, none⟩ = some fv) (hbg : bx ≠ g) :
    CmpBy 82 #[.pointer (some ⟨bx, 0, none⟩)] (fun x => 0 ≤ x ∧ x < zs.length) (fun x => zn zs x.toNat) w0 g := by
  refine ⟨fun args w => by kernel_rfl, fun w k x y hx hy => ?_⟩
  have hI := h.awayCell k hv
  have hc : w.cell? ⟨bx, 0, none⟩ = some fv := k.cell hb (by simpa using hbg)
  obtain ⟨i, rfl⟩ := Int.eq_ofNat_of_zero_le hx.1
  obtain ⟨j, rfl⟩ := Int.eq_ofNat_of_zero_le hy.1
  have hi : i < zs.length := by omega
  have hj : j < zs.length := by omega
  obtain ⟨b, off, cap, rfl, e1⟩ := hI.at i hi
  obtain ⟨b', off', cap', hv', e2⟩ := hI.at j hj
  simp only [Value.slice.injEq] at hv'
  obtain ⟨hx1, hx2, rfl⟩ := hv'
  injection hx1 with hx1
  injection hx1 with hx1 hx3 _
  subst hx1 hx3
  clear hx2
  rw [← zn_get zs i hi] at e1
  rw [← zn_get zs j hj] at e2
  have hbl : zs.length ≤ 9223372036854775807 := hI.sh.choose_spec.choose_spec.2
  show Calls Tryz.prog _ #[.int .i64 i, .int .i64 j, .pointer (some ⟨bx, 0, none⟩)] w _
  simp only [Int.toNat_natCast]
  generalize zn zs i = p at e1
  generalize zn zs j = q at e2
  have HQ := Lib.hid (fun n => compare_c (w.drewN n) p q)
  generalize cmpK p q = c at HQ
  have hiz : (i : Int) < (zs.length : Int) := by omega
  have hjz : (j : Int) < (zs.length : Int) := by omega
  clear h hI hx hy hb hbg hv k
  go_enter Tryz.func82, Tryz.ntmps82
  go_wp2_with fail
  go_quiet ((go_at_call 83; exact Calls.quiet_of (HQ.out _)))
  go_wp2_with fail
  go_ret
  exact ⟨rfl, _, rfl⟩
theorem Is.blt {k : IntKind} {w : World} {v : Value} {zs : List Int} (h : Is k w v zs) (hz : 0 < zs.length) : ∀ b, v.ownBlock = some b → b < w.heap.size := by
  intro b hb
  obtain ⟨b', off, cap, rfl, hc⟩ := h.at 0 hz
  have := World.block_lt_of_cell? w _ hc
  simp only [Value.ownBlock, Option.some.injEq] at hb
  subst hb
  simpa using this
/-- the symbols below k that come -/
def ords (zs : List Int) (k : Nat) : List Int := ((List.range k).filter fun i => decide (fn zs i ≠ 0)).map Int.ofNat
theorem ords_step (zs : List Int) (k : Nat) (hk : k < zs.length) : ords zs (k + 1) = if 0 < zs[k] then ords zs k ++ [(k : Int)] else ords zs k := by
  unfold ords
  rw [List.range_succ, List.filter_append, List.map_append]
  have hf := fn_get zs k hk
  by_cases h : 0 < zs[k]
  · have hd : decide (fn zs k ≠ 0) = true := by rw [decide_eq_true_eq]; omega
    rw [if_pos h]; simp only [List.filter_cons, hd, List.filter_nil]; rfl
  · have hd : decide (fn zs k ≠ 0) = false := by rw [decide_eq_false_iff_not]; omega
    rw [if_neg h]; simp only [List.filter_cons, hd, List.filter_nil]; simp
theorem ords_len (zs : List Int) (k : Nat) : (ords zs k).length ≤ k := by
  unfold ords
  rw [List.length_map]
  exact Nat.le_trans (List.length_filter_le _ _) (by simp)
theorem ords_mem (zs : List Int) (k : Nat) (x : Int) (h : x ∈ ords zs k) : 0 ≤ x ∧ x < k := by
  unfold ords at h
  simp only [List.mem_map, List.mem_filter, List.mem_range] at h
  obtain ⟨i, ⟨h1, _⟩, rfl⟩ := h
  constructor
  · exact Int.natCast_nonneg i
  · exact Int.ofNat_lt.2 h1
/-- symbols by how often they come, and where alike by themselves -/
def lkey (zs : List Int) (x : Int) : Int := zn zs x.toNat * 5000 + max 0 (min x 4999)
theorem lkey_lt (zs : List Int) (x y : Int) (h : zn zs x.toNat < zn zs y.toNat) : lkey zs x < lkey zs y := by unfold lkey; omega
theorem lkey_inj (zs : List Int) (x y : Int) (hx : 0 ≤ x ∧ x < 4999) (hy : 0 ≤ y ∧ y < 4999) (h : lkey zs x = lkey zs y) : x = y := by
  unfold lkey at h
  rcases Int.lt_trichotomy (zn zs x.toNat) (zn zs y.toNat) with h1 | h1 | h1
  · omega
  · omega
  · omega
theorem ords_asc (zs : List Int) (k : Nat) : (ords zs k).Pairwise (· < ·) := by
  unfold ords
  rw [List.pairwise_map]
  exact (List.pairwise_lt_range.filter _).imp (fun h => Int.ofNat_lt.2 h)
theorem ords_sta (zs : List Int) (k : Nat) (hk : k ≤ 4096) : Sta (fun x => zn zs x.toNat) (lkey zs) (ords zs k) (ords zs k).length := by
  intro p q hpq hq h
  have h1 := List.pairwise_iff_getElem.1 (ords_asc zs k) p q (by omega) hq hpq
  have m1 := ords_mem zs k _ (List.getElem_mem (show p < (ords zs k).length by omega))
  have m2 := ords_mem zs k _ (List.getElem_mem hq)
  rw [zn_get _ p (by omega), zn_get _ q hq] at h
  dsimp only
  rw [zn_get _ p (by omega), zn_get _ q hq]
  unfold lkey at h
  omega
theorem OwnI.blk {w : World} {v : Value} {l : List Int} (h : OwnI w v l) (hn : v ≠ .slice none 0 0) : ∃ g c, v = .slice (some ⟨g, 0, none⟩) l.length c := by
  rcases h.1.2 with ⟨h', _⟩ | ⟨g', cap', cur, h', _⟩
  · exact absurd h' hn
  · exact ⟨g', cap', h'⟩
theorem wf_nat (k : Nat) (h : k ≤ 9223372036854775807) : (Lit.int .i64 (k : Int)).wf = true := by
  simp [Lit.wf, IntKind.min, IntKind.max, IntKind.bits, IntKind.signed]; omega
set_option maxRecDepth 100000 in
set_option maxHeartbeats 2000000 in
theorem rising_c (w : World) (v : Value) (zs : List Int) (hlen : zs.length ≤ 4096) (h : Is .i64 w v zs) : Calls Tryz.prog 66 #[v] w fun e w' => ∃ g c os, e = .returned (.slice (some ⟨g, 0, none⟩) os.length c) ∧ OwnI w' (.slice (some ⟨g, 0, none⟩) os.length c) os ∧ Keep [] w w' ∧ w.heap.size ≤ g ∧ os.Perm (ords zs zs.length) ∧ Srt (fun x => zn zs x.toNat) os 0 os.length ∧ Srt (lkey zs) os 0 os.length := by
  have HI := Lib.hid (fun w' (k : Keep [] w w') i hi => (h.keep k (by simp)).at i hi)
  have H := Lib.hid h
  obtain ⟨a, cap, rfl, hl⟩ := h.sh
  have hmk := fun w' => run_make_intsC w' 0 zs.length (Nat.zero_le _) (by omega)
  rw [show ((0 : Nat) : Int) = 0 from rfl] at hmk
  clear h
  go_enter Tryz.func66, Tryz.ntmps66
  go_wp2_with fail
  clear hmk
  have K0 : Keep [] w ((w.alloc (.cells #[.slice a zs.length cap] 22)).alloc (.cells (madeCells #[.int .i64 0] zs.length) 3)) := ((Keep.refl [] w).alloc _).alloc _
  have hO := OwnI.made0 (w.alloc (.cells #[.slice a zs.length cap] 22)) zs.length (by omega)
  have hB := ((Blk.new w #[.slice a zs.length cap] 22).alloc (.cells (madeCells #[.int .i64 0] zs.length) 3)).cell 0 _ rfl
  rw [show (w.alloc (.cells #[.slice a zs.length cap] 22)).heap.size = w.heap.size + 1 by simp] at hO
  generalize (w.alloc (.cells #[.slice a zs.length cap] 22)).alloc (.cells (madeCells #[.int .i64 0] zs.length) 3) = w1 at K0 hO hB ⊢
  obtain ⟨bx, hbx⟩ : ∃ x, w.heap.size = x := ⟨_, rfl⟩
  rw [hbx] at hO hB ⊢
  have HBX := Lib.hid hbx
  clear hbx
  go_loopw [3, 11] (fun ov i wr => ∃ (k g c : Nat) (os : List Int), k ≤ zs.length ∧ os.length ≤ k ∧ i = .int .i64 k ∧ ov = .slice (some ⟨g, 0, none⟩) os.length c ∧ OwnI wr (.slice (some ⟨g, 0, none⟩) os.length c) os ∧ Keep [] w wr ∧ bx < g ∧ wr.cell? ⟨bx, 0, none⟩ = some (.slice a zs.length cap) ∧ Hid (os = ords zs k)) (fun _ i _ => zs.length - (intOf i).toNat)
  case atStart => exact ⟨0, bx + 1, zs.length, [], by omega, by simp, rfl, rfl, hO, K0, by omega, hB, rfl⟩
  case round =>
    clear hO K0 hB
    obtain ⟨k, g, c, os, hk, hol, rfl, rfl, hO, K, hbg, hB, HOS⟩ := hrel
    by_cases hlt : k < zs.length
    · obtain ⟨b, off, cap', hv, e1⟩ := HI.out wr K k hlt
      simp only [Value.slice.injEq] at hv
      obtain ⟨rfl, h2, rfl⟩ := hv
      clear h2
      have HST := Lib.hid (ords_step zs k hlt)
      have hwf := wf_nat k (by omega)
      generalize zs[k] = z at e1 HST
      have hltz : (k : Int) < (zs.length : Int) := by omega
      by_cases h0 : 0 < z
      · have h0z : z > 0 := h0
        rw [if_pos h0] at HST
        go_wp2_with (at_builtin; (refine wpList_appendI (.tmp 18) (.tmp 20) rfl rfl (.slice (some ⟨g, 0, none⟩) os.length c) os rfl (hO.keep ((Keep.refl [] _).alloc _) (by simp)) _ [(k : Int)] rfl (Is.lit1 _ (k : Int) hwf) (by simp; omega) ?_); (intro v7 w7 E7 k7 hp7 hn7); (obtain ⟨g7, c7, hv7⟩ := E7.blk (hn7 (by simp))); (subst hv7))
        have K7 : Keep [] w w7 := (K.alloc _).trans k7 (fun x hx => .inr (by
          have := HBX.out
          simp [Value.ownBlock] at hx; omega))
        have hB7 : w7.cell? ⟨bx, 0, none⟩ = some (.slice (some ⟨b, off, none⟩) zs.length cap) := k7.cell (((Keep.refl [] wr).alloc _).cell hB (by simp)) (by simp [Value.ownBlock]; omega)
        have hg7 : bx < g7 := by
          rcases hp7 g7 rfl with h | h
          · simp [Value.ownBlock] at h; omega
          · have := HBX.out
            have := K.size
            simp at h; omega
        have HO7 : Hid (os ++ [(k : Int)] = ords zs (k + 1)) := by unfold Hid; rw [HST.out, ← HOS.out]
        have hl7 : (os ++ [(k : Int)]).length ≤ k + 1 := by simp; omega
        have hl8 : (os ++ [(k : Int)]).length = os.length + 1 := by simp
        clear k7 hp7 hn7 hO K hB HST HOS hwf h0 h0z
        generalize os ++ [(k : Int)] = os7 at *
        have HL8 := Lib.hid hl8
        clear hl8
        go_wp2_with fail
        go_roundw
        case rel => exact ⟨k + 1, g7, c7, os7, by omega, hl7, by go_num, by rw [HL8.out], E7, K7, hg7, hB7, HO7⟩
        case measure => simp [intOf]; omega
      · have h0z : ¬ z > 0 := h0
        rw [if_neg h0] at HST
        have HO7 : Hid (os = ords zs (k + 1)) := by unfold Hid; rw [HST.out, ← HOS.out]
        go_wp2_with fail
        go_roundw
        case rel => exact ⟨k + 1, g, c, os, by omega, by omega, by go_num, rfl, hO, K, hbg, hB, HO7⟩
        case measure => simp [intOf]; omega
    · obtain rfl : k = zs.length := by omega
      have HW : Hid (w.heap.size ≤ g) := by unfold Hid; have := HBX.out; omega
      have hcm : CmpBy 82 #[.pointer (some ⟨bx, 0, none⟩)] (fun x => 0 ≤ x ∧ x < zs.length) (fun x => zn zs x.toNat) wr g := by
        by_cases hz0 : zs.length = 0
        · exact ⟨fun args w => by kernel_rfl, fun w k x y hx hy => by exfalso; omega⟩
        · exact risingcmp_c wr bx g _ zs (H.out.keep K (by simp)) (fun e => by have := H.out.blt (by omega) g e; have := HW.out; omega) hB (by omega)
      have HS := Lib.hid (sortstable_c _ _ _ (fun x => zn zs x.toNat) (lkey zs) (lkey_lt zs) wr g os.length c os hO (by rw [HOS.out]; exact ords_sta zs _ hlen) hcm (fun x hx => by rw [HOS.out] at hx; exact ords_mem zs _ x hx) (by omega))
      clear hcm hO hB
      go_wp2_with fail
      refine HS.out.mono ?_; rintro e w2 ⟨rfl, o2, O2, K2, P2, R2⟩
      have hl2 : o2.length = os.length := P2.length_eq
      rw [← hl2] at O2 R2
      go_wp2_with fail
      go_ret
      exact ⟨g, c, o2, by rw [hl2]; rfl, O2, K.trans K2 (fun x hx => .inr (by have := HW.out; simp at hx; omega)), HW.out, HOS.out ▸ P2, fun p q h1 h2 h3 => by
        have := R2 p q h1 h2 h3
        unfold lkey at this
        show zn zs (zn o2 p).toNat ≤ zn zs (zn o2 q).toNat
        omega, R2⟩
end Go.Proofs.YtibkepjbblfkoaaGreatDoor
namespace Go.Proofs.YtibkepjbblfkoaaGreatDoor
set_option linter.unusedVariables false
set_option linter.unusedSimpArgs false
open Go.ChangeShapes Go.WideShapes Go.ChangeAt Go.RowKit

theorem zn_rep (n i : Nat) : zn (List.replicate n 0) i = 0 := by
  unfold zn
  rw [List.getD_eq_getElem?_getD, List.getElem?_replicate]
  split <;> rfl
set_option maxRecDepth 100000 in
set_option maxHeartbeats 1000000 in
theorem weights_c (w : World) (fv ov : Value) (zs os : List Int) (hlo : os.length ≤ 4096) (h : Is .i64 w fv zs) (h' : Is .i64 w ov os) (hm : ∀ i, i < os.length → 0 ≤ zn os i ∧ zn os i < zs.length) :
    Calls Tryz.prog 69 #[fv, ov] w fun e w' => ∃ g ws, e = .returned (.slice (some ⟨g, 0, none⟩) os.length os.length) ∧ OwnI w' (.slice (some ⟨g, 0, none⟩) os.length os.length) ws ∧ Keep [] w w' ∧ w.heap.size ≤ g ∧ ∀ i, i < os.length → zn ws i = zn zs (zn os i).toNat := by
  have HI := Lib.hid (fun w' (k : Keep [] w w') i hi => (h.keep k (by simp)).at i hi)
  have HI' := Lib.hid (fun w' (k : Keep [] w w') i hi => (h'.keep k (by simp)).at i hi)
  have HMM := Lib.hid hm
  have hwf : Hid (∀ z ∈ zs, (Lit.int .i64 z).wf = true) := by obtain ⟨_, _, _, _, _, _, _, h6⟩ := h; exact h6
  obtain ⟨a, cap, rfl, hl⟩ := h.sh
  obtain ⟨a', cap', rfl, hl'⟩ := h'.sh
  have hmk := fun w' => run_make_intsC w' os.length os.length (Nat.le_refl _) (by omega)
  clear h h' hm
  go_enter Tryz.func69, Tryz.ntmps69
  go_wp2_with fail
  clear hmk
  have K0 : Keep [] w (w.alloc (.cells (madeCells #[.int .i64 0] os.length) 3)) := (Keep.refl [] w).alloc _
  have hO := OwnI.made w os.length (by omega)
  generalize w.alloc (.cells (madeCells #[.int .i64 0] os.length) 3) = w1 at K0 hO ⊢
  obtain ⟨g, hg⟩ : ∃ x, w.heap.size = x := ⟨_, rfl⟩
  rw [hg] at hO ⊢
  have HG := Lib.hid hg
  clear hg
  go_loopw [13] (fun i wr => ∃ (k : Nat) (ws : List Int), k ≤ os.length ∧ i = .int .i64 k ∧ OwnI wr (.slice (some ⟨g, 0, none⟩) os.length os.length) ws ∧ Keep [] w wr ∧ Hid (∀ i, i < k → zn ws i = zn zs (zn os i).toNat)) (fun i _ => os.length - (intOf i).toNat)
  case atStart => exact ⟨0, _, by omega, rfl, hO, K0, fun i hi => by omega⟩
  case round =>
    clear hO K0
    obtain ⟨k, ws, hk, rfl, hO, K, HE⟩ := hrel
    by_cases hlt : k < os.length
    · obtain ⟨b', off', cap1', hv, e1⟩ := HI'.out wr K k hlt
      simp only [Value.slice.injEq] at hv
      obtain ⟨rfl, h2, rfl⟩ := hv
      clear h2
      obtain ⟨m1, m2⟩ := HMM.out k hlt
      rw [← zn_get os k hlt] at e1
      obtain ⟨s, hs⟩ := Int.eq_ofNat_of_zero_le m1
      rw [hs] at e1
      have hsz : s < zs.length := by omega
      obtain ⟨b, off, cap1, hv, e2⟩ := HI.out wr K s hsz
      simp only [Value.slice.injEq] at hv
      obtain ⟨rfl, h2, rfl⟩ := hv
      clear h2
      rw [← zn_get zs s hsz] at e2
      have hln := hO.sl
      have f1 := hO.cell k (by omega)
      have f2 := hO.free k
      have hO2 := hO.store k (zn zs s) (by rw [zn_get zs s hsz]; exact hwf.out _ (List.getElem_mem hsz))
      have hwl : ws.length = os.length := by omega
      have HE2 : Hid (∀ i, i < k + 1 → zn (ws.set k (zn zs s)) i = zn zs (zn os i).toNat) := fun i hi => by
        rw [zn_set _ _ _ _ (by omega)]
        by_cases e : i = k
        · rw [if_pos e, e, hs]; simp
        · rw [if_neg e]; exact HE.out i (by omega)
      have K2 : Keep [] w (wr.setCell ⟨g, k, none⟩ (.int .i64 (zn zs s))) := K.setCell (.inr (by have := HG.out; simp; omega)) _
      have hsz2 : (s : Int) < (zs.length : Int) := by omega
      have hkz : (k : Int) < (os.length : Int) := by omega
      generalize zn zs s = z at e2 hO2 HE2 K2
      generalize zn ws k = y at f1
      generalize ws.set k z = ws2 at hO2 HE2
      clear hO K HE m1 m2 hs hln hwl
      go_wp2_with fail
      go_roundw
      case rel => exact ⟨k + 1, ws2, by omega, by go_num, hO2, K2, HE2⟩
      case measure => simp [intOf]; omega
    · obtain rfl : k = os.length := by omega
      go_wp2_with fail
      go_ret
      exact ⟨g, ws, rfl, hO, K, by rw [HG.out]; exact Nat.le_refl _, HE.out⟩
set_option maxRecDepth 100000 in
set_option maxHeartbeats 2000000 in
theorem pairs_c (w : World) (rv : Value) (rs : List Int) (hlr : rs.length ≤ 100000) (h : Is .i64 w rv rs) (hb : ∀ i, 0 ≤ zn rs i ∧ zn rs i ≤ 72057594037927936) :
    Calls Tryz.prog 86 #[rv] w fun e w' => ∃ g ps, e = .returned (.slice (some ⟨g, 0, none⟩) (rs.length / 2) (rs.length / 2)) ∧ OwnI w' (.slice (some ⟨g, 0, none⟩) (rs.length / 2) (rs.length / 2)) ps ∧ Keep [] w w' ∧ w.heap.size ≤ g ∧ ∀ i, i < rs.length / 2 → zn ps i = zn rs (2 * i) + zn rs (2 * i + 1) := by
  have HI := Lib.hid (fun w' (k : Keep [] w w') i hi => (h.keep k (by simp)).at i hi)
  have HBB := Lib.hid hb
  obtain ⟨a, cap, rfl, hl⟩ := h.sh
  obtain ⟨n, hn⟩ : ∃ n, n = rs.length / 2 := ⟨_, rfl⟩
  rw [← hn]
  have hmk := fun w' => run_make_intsC w' n n (Nat.le_refl _) (by omega)
  have hn1 : (rs.length : Int).tdiv 2 = (n : Int) := by rw [Int.tdiv_eq_ediv_of_nonneg (by omega)]; omega
  have hn2 : (rs.length : Int) / 2 = (n : Int) := by omega
  have hn3 : 2 * n ≤ rs.length := by omega
  have hn4 : n ≤ 100000 := by omega
  clear h hb hn
  go_enter Tryz.func86, Tryz.ntmps86
  go_wp2_with fail
  clear hmk hn1 hn2
  have K0 : Keep [] w (w.alloc (.cells (madeCells #[.int .i64 0] n) 3)) := (Keep.refl [] w).alloc _
  have hO := OwnI.made w n (by omega)
  generalize w.alloc (.cells (madeCells #[.int .i64 0] n) 3) = w1 at K0 hO ⊢
  obtain ⟨g, hg⟩ : ∃ x, w.heap.size = x := ⟨_, rfl⟩
  rw [hg] at hO ⊢
  have HG := Lib.hid hg
  clear hg
  go_loopw [11] (fun i wr => ∃ (k : Nat) (ps : List Int), k ≤ n ∧ i = .int .i64 k ∧ OwnI wr (.slice (some ⟨g, 0, none⟩) n n) ps ∧ Keep [] w wr ∧ Hid (∀ i, i < k → zn ps i = zn rs (2 * i) + zn rs (2 * i + 1))) (fun i _ => n - (intOf i).toNat)
  case atStart => exact ⟨0, _, by omega, rfl, hO, K0, fun i hi => by omega⟩
  case round =>
    clear hO K0
    obtain ⟨k, ps, hk, rfl, hO, K, HE⟩ := hrel
    by_cases hlt : k < n
    · obtain ⟨d, hd⟩ : ∃ d, d = 2 * k := ⟨_, rfl⟩
      have hd1 : d + 1 < rs.length := by omega
      obtain ⟨b, off, cap1, hv, e1⟩ := HI.out wr K d (by omega)
      simp only [Value.slice.injEq] at hv
      obtain ⟨rfl, h2, rfl⟩ := hv
      clear h2
      obtain ⟨b2, off2, cap2, hv, e2⟩ := HI.out wr K (d + 1) hd1
      simp only [Value.slice.injEq] at hv
      obtain ⟨h1, h2, rfl⟩ := hv
      injection h1 with h1
      injection h1 with h1 h3 _
      subst h1 h3
      clear h2
      rw [← zn_get rs d (by omega)] at e1
      rw [← zn_get rs (d + 1) hd1] at e2
      have B1 := HBB.out d
      have B2 := HBB.out (d + 1)
      have hln := hO.sl
      have f1 := hO.cell k (by omega)
      have f2 := hO.free k
      have hO2 := (hO.store k (zn rs d + zn rs (d + 1)) (by simp [Lit.wf, IntKind.min, IntKind.max, IntKind.bits, IntKind.signed]; omega)).keep ((Keep.refl [] _).drew) (by simp)
      have hwl : ps.length = n := by omega
      have HE2 : Hid (∀ i, i < k + 1 → zn (ps.set k (zn rs d + zn rs (d + 1))) i = zn rs (2 * i) + zn rs (2 * i + 1)) := fun i hi => by
        rw [zn_set _ _ _ _ (by omega)]
        by_cases e : i = k
        · rw [if_pos e, e, hd]
        · rw [if_neg e]; exact HE.out i (by omega)
      have K2 : Keep [] w (wr.setCell ⟨g, k, none⟩ (.int .i64 (zn rs d + zn rs (d + 1)))).drew := (K.setCell (.inr (by have := HG.out; simp; omega)) _).drew
      have hkz : (k : Int) < (n : Int) := by omega
      have r1 : 2 * (k : Int) = (d : Int) := by omega
      have r2 : (d : Int) + 1 < (rs.length : Int) := by omega
      have r3 : (d : Int) < (rs.length : Int) := by omega
      have r4 : IntKind.i64.wrap (zn rs d + zn rs (d + 1)) = zn rs d + zn rs (d + 1) := by rw [IntKind.wrap_i64]; omega
      clear hO K HE hln hwl hd B1 B2
      generalize zn rs d = x at e1 hO2 HE2 K2 r4
      generalize zn rs (d + 1) = y at e2 hO2 HE2 K2 r4
      generalize zn ps k = y at f1
      generalize ps.set k (x + y) = ps2 at hO2 HE2
      go_wp2_with fail
      go_region
      go_wp2_with fail
      go_roundw
      case rel => exact ⟨k + 1, _, by omega, by go_num, hO2, K2, HE2⟩
      case measure => simp [intOf]; omega
    · obtain rfl : k = n := by omega
      go_wp2_with fail
      go_ret
      exact ⟨g, ps, rfl, hO, K, by rw [HG.out]; exact Nat.le_refl _, HE.out⟩
end Go.Proofs.YtibkepjbblfkoaaGreatDoor
namespace Go.Proofs.YtibkepjbblfkoaaGreatDoor
set_option linter.unusedVariables false
set_option linter.unusedSimpArgs false
open Go.ChangeShapes Go.WideShapes Go.ChangeAt Go.RowKit

/-- is a symbol next, where s symbols and p pairs have been taken -/
def nxS (a : Nat → Nat) (n : Nat) (P : Nat → Nat) (np s p : Nat) : Prop := p = np ∨ (s < n ∧ a s ≤ P p)
instance (a : Nat → Nat) (n : Nat) (P : Nat → Nat) (np s p : Nat) : Decidable (nxS a n P np s p) := by unfold nxS; infer_instance
def mc (a : Nat → Nat) (n : Nat) (P : Nat → Nat) (np : Nat) : Nat → Nat
  | 0 => 0
  | k + 1 => if nxS a n P np (mc a n P np k) (k - mc a n P np k) then mc a n P np k + 1 else mc a n P np k
def mw (a : Nat → Nat) (n : Nat) (P : Nat → Nat) (np k : Nat) : Nat := if nxS a n P np (mc a n P np k) (k - mc a n P np k) then a (mc a n P np k) else P (k - mc a n P np k)
theorem mc_bd (a : Nat → Nat) (n : Nat) (P : Nat → Nat) (np k : Nat) (hk : k ≤ n + np) : mc a n P np k ≤ k ∧ mc a n P np k ≤ n ∧ k - mc a n P np k ≤ np := by
  induction k with
  | zero => simp [mc]
  | succ k ih =>
    have h := ih (by omega)
    rw [mc]
    split
    · next hc =>
      unfold nxS at hc
      omega
    · next hc =>
      unfold nxS at hc
      omega
theorem mc_mrg (a : Nat → Nat) (n : Nat) (P : Nat → Nat) (np : Nat) : Mrg a n P np (mw a n P np) (mc a n P np) (n + np) := by
  refine ⟨rfl, fun k hk => ?_⟩
  have h := mc_bd a n P np k (by omega)
  have h1 := mc_bd a n P np (k + 1) (by omega)
  rw [mc] at h1 ⊢
  unfold mw
  by_cases hc : nxS a n P np (mc a n P np k) (k - mc a n P np k)
  · rw [if_pos hc] at h1 ⊢
    rw [if_pos hc]
    left
    refine ⟨rfl, by omega, rfl, fun hlt => ?_⟩
    rcases hc with h2 | h2
    · omega
    · exact h2.2
  · rw [if_neg hc] at h1 ⊢
    rw [if_neg hc]
    right
    refine ⟨rfl, ?_, rfl, fun hlt => ?_⟩
    · unfold nxS at hc; omega
    · unfold nxS at hc
      have : ¬ (a (mc a n P np k) ≤ P (k - mc a n P np k)) := fun h3 => hc (.inr ⟨hlt, h3⟩)
      omega
theorem info16 : (Tryz.prog.info? 118).map (fun i => (i.zero, i.size, i.bytes)) = some (some (.int .i16 0), 1, 2) := by kernel_rfl
theorem run_make_i16 (w : World) (n : Nat) (hn : n ≤ 1000000) : (Instr.makeSlice 134 (.int .i64 (n : Int)) (.int .i64 (n : Int))).run Tryz.prog w = .ok (.slice (some ⟨w.heap.size, 0, none⟩) n n) (w.alloc (.cells (madeCells #[.int .i16 0] n) 118)) := by
  obtain ⟨i, hi, hz0, hz1, hz2⟩ := info_parts info16
  have := run_make (P := Tryz.prog) (w := w) 134 118 i (.int .i16 0) Tryz.underlying134 hi hz0 .i64 .i64 n n (by omega) (by omega) (by rw [hz2]; omega) (by omega)
  rw [this, hz1]
  simp [Value.cells]
/-- row block g1 has the first k numbers W, count block g2 those of c up to k -/
structure MSt (w wr : World) (g1 g2 T k : Nat) (c W : Nat → Nat) : Prop where
  row : ∃ rs, OwnI wr (.slice (some ⟨g1, 0, none⟩) T T) rs ∧ ∀ i, i < k → zn rs i = W i
  cnt : ∃ arr, Blk wr g2 arr 118 ∧ arr.size = T + 1 ∧ ∀ j, j ≤ k → arr[j]? = some (.int .i16 (c j))
  keep : Keep [] w wr
section
variable {w wr : World} {g1 g2 T k : Nat} {c W : Nat → Nat}
theorem MSt.drewN (h : MSt w wr g1 g2 T k c W) (m : Nat) : MSt w (wr.drewN m) g1 g2 T k c W := by
  obtain ⟨⟨rs, h1, h2⟩, ⟨arr, h3, h4⟩, h5⟩ := h
  exact ⟨⟨rs, h1, h2⟩, ⟨arr, h3.drewN m, h4⟩, h5.drewN m⟩
theorem MSt.at (h : MSt w wr g1 g2 T k c W) (hk : k < T) (hg : g1 ≠ g2) : (∃ x, wr.cell? ⟨g1, k, none⟩ = some x) ∧ wr.frozen? ⟨g1, k, none⟩ = false ∧ (∀ x, ∃ y, (wr.setCell ⟨g1, k, none⟩ x).cell? ⟨g2, k + 1, none⟩ = some y) ∧ wr.frozen? ⟨g2, k + 1, none⟩ = false := by
  obtain ⟨⟨rs, h1, h2⟩, ⟨arr, h3, h4, _⟩, h5⟩ := h
  have hl := h1.sl.1
  refine ⟨⟨_, h1.cell k (by omega)⟩, h1.free k, fun x => ⟨arr[k + 1]'(by omega), ?_⟩, h3.free _⟩
  exact (h3.other (p := ⟨g1, k, none⟩) (by simpa using hg.symm) x).cell (k + 1) _ (Array.getElem?_eq_getElem (by omega))
theorem MSt.step (h : MSt w wr g1 g2 T k c W) (hk : k < T) (hg : g1 ≠ g2) (hw1 : w.heap.size ≤ g1) (hw2 : w.heap.size ≤ g2) (x : Int) (s : Nat) (hx : x = W k) (hxw : x ≤ 9223372036854775807) (hs : s = c (k + 1)) :
    MSt w ((wr.setCell ⟨g1, k, none⟩ (.int .i64 x)).setCell ⟨g2, k + 1, none⟩ (.int .i16 s)) g1 g2 T (k + 1) c W := by
  obtain ⟨⟨rs, h1, h2⟩, ⟨arr, h3, h4, h6⟩, h5⟩ := h
  have hl := h1.sl.1
  refine ⟨⟨rs.set k x, ?_, fun i hi => ?_⟩, ⟨_, (h3.other (p := ⟨g1, k, none⟩) (by simpa using hg.symm) _).set (k + 1) (.int .i16 s), by simpa using h4, fun j hj => ?_⟩, (h5.setCell (.inr (by simpa using hw1)) _).setCell (.inr (by simpa using hw2)) _⟩
  · refine (h1.store k x ?_).keep ((Keep.refl [g2] _).setCell (.inl (by simp)) _) (by simp [Value.ownBlock]; omega)
    simp [Lit.wf, IntKind.min, IntKind.max, IntKind.bits, IntKind.signed]; omega
  · rw [zn_set _ _ _ _ (by omega)]
    by_cases e : i = k
    · rw [if_pos e, e, hx]
    · rw [if_neg e]; exact h2 i (by omega)
  · rw [Array.getElem?_setIfInBounds]
    by_cases e : k + 1 = j
    · rw [if_pos e, if_pos (by omega), hs, e]
    · rw [if_neg e]; exact h6 j (by omega)
end
set_option maxRecDepth 100000 in
set_option maxHeartbeats 4000000 in
theorem merge_c (w : World) (sv pv : Value) (ss ps : List Int) (hls : ss.length ≤ 8000) (hlp : ps.length ≤ 8000) (h : Is .i64 w sv ss) (h' : Is .i64 w pv ps) (hsn : ∀ i, 0 ≤ zn ss i) (hpn : ∀ i, 0 ≤ zn ps i) :
    Calls Tryz.prog 85 #[sv, pv] w fun e w' => ∃ g1 g2, e = .returned (.tuple #[.slice (some ⟨g1, 0, none⟩) (ss.length + ps.length) (ss.length + ps.length), .slice (some ⟨g2, 0, none⟩) (ss.length + ps.length + 1) (ss.length + ps.length + 1)]) ∧
      MSt w w' g1 g2 (ss.length + ps.length) (ss.length + ps.length) (mc (fn ss) ss.length (fn ps) ps.length) (mw (fn ss) ss.length (fn ps) ps.length) ∧ w.heap.size ≤ g1 ∧ w.heap.size ≤ g2 := by
  have HI := Lib.hid (fun w' (k : Keep [] w w') i hi => (h.keep k (by simp)).at i hi)
  have HI' := Lib.hid (fun w' (k : Keep [] w w') i hi => (h'.keep k (by simp)).at i hi)
  have HZ : Hid (∀ i, zn ss i = (fn ss i : Int) ∧ zn ps i = (fn ps i : Int)) := fun i => by
    have h1 := hsn i
    have h2 := hpn i
    unfold fn; unfold zn at *; omega
  have hwf : Hid (∀ z ∈ ss, (Lit.int .i64 z).wf = true) := by obtain ⟨_, _, _, _, _, _, _, h6⟩ := h; exact h6
  have hwf' : Hid (∀ z ∈ ps, (Lit.int .i64 z).wf = true) := by obtain ⟨_, _, _, _, _, _, _, h6⟩ := h'; exact h6
  obtain ⟨a, cap, rfl, hl⟩ := h.sh
  obtain ⟨a', cap', rfl, hl'⟩ := h'.sh
  obtain ⟨T, hT⟩ : ∃ T, T = ss.length + ps.length := ⟨_, rfl⟩
  have HBD := Lib.hid (fun k hk => mc_bd (fn ss) ss.length (fn ps) ps.length k hk)
  have HC1 : Hid (∀ k, mc (fn ss) ss.length (fn ps) ps.length (k + 1) = if nxS (fn ss) ss.length (fn ps) ps.length (mc (fn ss) ss.length (fn ps) ps.length k) (k - mc (fn ss) ss.length (fn ps) ps.length k) then mc (fn ss) ss.length (fn ps) ps.length k + 1 else mc (fn ss) ss.length (fn ps) ps.length k) := fun k => rfl
  have HW1 : Hid (∀ k, mw (fn ss) ss.length (fn ps) ps.length k = if nxS (fn ss) ss.length (fn ps) ps.length (mc (fn ss) ss.length (fn ps) ps.length k) (k - mc (fn ss) ss.length (fn ps) ps.length k) then fn ss (mc (fn ss) ss.length (fn ps) ps.length k) else fn ps (k - mc (fn ss) ss.length (fn ps) ps.length k)) := fun k => rfl
  have HC0 : Hid (mc (fn ss) ss.length (fn ps) ps.length 0 = 0) := rfl
  generalize mc (fn ss) ss.length (fn ps) ps.length = c at *
  generalize mw (fn ss) ss.length (fn ps) ps.length = W at *
  have e1 : (ss.length : Int) + (ps.length : Int) = (T : Int) := by omega
  have t1 : T ≤ ss.length + ps.length := by omega
  have t2 : ss.length + ps.length ≤ T := by omega
  rw [← hT] at HBD ⊢
  have hmk := fun w' => run_make_intsC w' T T (Nat.le_refl _) (by omega)
  have hmk2 := fun w' => run_make_i16 w' (T + 1) (by omega)
  have e0 : ((T + 1 : Nat) : Int) = (T : Int) + 1 := by omega
  rw [e0] at hmk2
  clear h h' hsn hpn e0 hT
  go_enter Tryz.func85, Tryz.ntmps85
  go_wp2_with fail
  clear hmk hmk2 e1
  have K0 : Keep [] w ((w.alloc (.cells (madeCells #[.int .i64 0] T) 3)).alloc (.cells (madeCells #[.int .i16 0] (T + 1)) 118)) := ((Keep.refl [] w).alloc _).alloc _
  have hM : MSt w ((w.alloc (.cells (madeCells #[.int .i64 0] T) 3)).alloc (.cells (madeCells #[.int .i16 0] (T + 1)) 118)) w.heap.size (w.heap.size + 1) T 0 c W := by
    refine ⟨⟨_, (OwnI.made w T (by omega)).keep ((Keep.refl [] _).alloc _) (by simp), fun i hi => by omega⟩, ⟨madeCells #[.int .i16 0] (T + 1), ?_, size_madeCells _ _, fun j hj => ?_⟩, K0⟩
    · have := Blk.new (w.alloc (.cells (madeCells #[.int .i64 0] T) 3)) (madeCells #[.int .i16 0] (T + 1)) 118
      simpa using this
    · rw [show j = 0 by omega, HC0.out]; simp [madeCells]
  generalize (w.alloc (.cells (madeCells #[.int .i64 0] T) 3)).alloc (.cells (madeCells #[.int .i16 0] (T + 1)) 118) = w1 at hM ⊢
  obtain ⟨g1, hg1⟩ : ∃ x, w.heap.size = x := ⟨_, rfl⟩
  obtain ⟨g2, hg2⟩ : ∃ x, w.heap.size + 1 = x := ⟨_, rfl⟩
  rw [hg2, hg1] at hM ⊢
  have HG : Hid (g1 ≠ g2 ∧ w.heap.size ≤ g1 ∧ w.heap.size ≤ g2) := by unfold Hid; omega
  have HM := Lib.hid hM
  clear hg1 hg2 K0 hM
  go_loopw [8, 9, 23] (fun x y i wr => ∃ (k s p : Nat), k ≤ T ∧ x = .int .i64 s ∧ y = .int .i64 p ∧ i = .int .i64 k ∧ s ≤ ss.length ∧ p ≤ ps.length ∧ Hid (s = c k) ∧ Hid (p = k - c k) ∧ Hid (MSt w wr g1 g2 T k c W)) (fun _ _ i _ => T - (intOf i).toNat)
  case atStart => exact ⟨0, 0, 0, by omega, rfl, rfl, rfl, by omega, by omega, HC0.out.symm, (show _ = _ by rw [HC0.out]), HM.out⟩
  case round =>
    clear HM HC0
    obtain ⟨k, s, p, hk, rfl, rfl, rfl, hs, hp, HS, HP, HM⟩ := hrel
    by_cases hlt : k < T
    · have hkT : (k : Int) < (T : Int) := by omega
      have HN : Hid (nxS (fn ss) ss.length (fn ps) ps.length s p ↔ (p = ps.length ∨ (s < ss.length ∧ fn ss s ≤ fn ps p))) := Iff.rfl
      have hss : s < ss.length ∨ s = ss.length := by omega
      have hks : Hid (s + p = k) := by
        have := HBD.out k hk
        have h1 := HS.out
        have h2 := HP.out
        unfold Hid; omega
      have HSV := Lib.hid (fun (wx : World) (K : Keep [] w wx) (h : s < ss.length) => (show ∃ b off cap1, Value.slice a ss.length cap = .slice (some ⟨b, off, none⟩) ss.length cap1 ∧ wx.cell? ⟨b, off + s, none⟩ = some (.int .i64 (fn ss s)) from by
        obtain ⟨b, off, cap1, hv, e2⟩ := HI.out wx K s h
        rw [← zn_get ss s h, (HZ.out s).1] at e2
        exact ⟨b, off, cap1, hv, e2⟩))
      have HPV := Lib.hid (fun (wx : World) (K : Keep [] w wx) (h : p < ps.length) => (show ∃ b off cap1, Value.slice a' ps.length cap' = .slice (some ⟨b, off, none⟩) ps.length cap1 ∧ wx.cell? ⟨b, off + p, none⟩ = some (.int .i64 (fn ps p)) from by
        obtain ⟨b, off, cap1, hv, e2⟩ := HI'.out wx K p h
        rw [← zn_get ps p h, (HZ.out p).2] at e2
        exact ⟨b, off, cap1, hv, e2⟩))
      go_upto_region 7 with fail
      go_cut [46] (fun cc wx => ∃ bb : Bool, cc = .bool bb ∧ Hid (bb = true ↔ nxS (fn ss) ss.length (fn ps) ps.length s p) ∧ Hid (MSt w wx g1 g2 T k c W))
      case first =>
        by_cases hpn : p = ps.length
        · have HT : Hid (nxS (fn ss) ss.length (fn ps) ps.length s p) := HN.out.2 (by simp [hpn])
          have hb1 : ((p : Int) == (ps.length : Int)) = true := by rw [beq_iff_eq]; omega
          clear hpn hss
          go_wp2_with fail
          go_quiet (fail)
          have HM2 := Lib.hid (HM.out.drewN nq)
          go_wp2_with fail
          go_meet
          exact ⟨true, rfl, (show _ ↔ _ from ⟨fun _ => HT.out, fun _ => rfl⟩), HM2⟩
        · have hb1 : ((p : Int) == (ps.length : Int)) = false := by rw [beq_eq_false_iff_ne]; omega
          have hpl : p < ps.length := by omega
          by_cases hsl : s < ss.length
          · have hslz : (s : Int) < (ss.length : Int) := by omega
            have hd1 : decide ((s : Int) < (ss.length : Int)) = true := decide_eq_true hslz
            obtain ⟨b, off, cap1, hv, e2⟩ := HSV.out wr HM.out.keep hsl
            simp only [Value.slice.injEq] at hv
            obtain ⟨rfl, h2, rfl⟩ := hv
            clear h2
            obtain ⟨b2, off2, cap2, hv, e3⟩ := HPV.out wr HM.out.keep hpl
            simp only [Value.slice.injEq] at hv
            obtain ⟨rfl, h2, rfl⟩ := hv
            clear h2
            have hplz : (p : Int) < (ps.length : Int) := by omega
            by_cases hle : fn ss s ≤ fn ps p
            · have HT : Hid (nxS (fn ss) ss.length (fn ps) ps.length s p) := HN.out.2 (by simp [hle, hsl])
              have hd2 : decide ((fn ss s : Int) ≤ (fn ps p : Int)) = true := decide_eq_true (by omega)
              clear hpn hss hsl
              go_wp2_with fail
              go_quiet (fail)
              have HM2 := Lib.hid (HM.out.drewN nq)
              go_wp2_with fail
              go_meet
              exact ⟨true, rfl, (show _ ↔ _ from ⟨fun _ => HT.out, fun _ => rfl⟩), HM2⟩
            · have HT : Hid (¬ nxS (fn ss) ss.length (fn ps) ps.length s p) := fun h => by have := HN.out.1 h; simp [hle, hpn] at this
              have hd2 : decide ((fn ss s : Int) ≤ (fn ps p : Int)) = false := decide_eq_false (by omega)
              clear hpn hss hsl
              go_wp2_with fail
              go_quiet (fail)
              have HM2 := Lib.hid (HM.out.drewN nq)
              go_wp2_with fail
              go_meet
              exact ⟨false, rfl, (show _ ↔ _ from ⟨fun h => (by cases h), fun h => absurd h HT.out⟩), HM2⟩
          · have HT : Hid (¬ nxS (fn ss) ss.length (fn ps) ps.length s p) := fun h => by have := HN.out.1 h; simp [hsl, hpn] at this
            have hslz : ¬ (s : Int) < (ss.length : Int) := by omega
            have hd1 : decide ((s : Int) < (ss.length : Int)) = false := decide_eq_false hslz
            have hd1n : decide (s < ss.length) = false := decide_eq_false hsl
            clear hpn hss
            go_wp2_with fail
            go_quiet (fail)
            have HM2 := Lib.hid (HM.out.drewN nq)
            go_wp2_with fail
            go_meet
            exact ⟨false, rfl, (show _ ↔ _ from ⟨fun h => (by cases h), fun h => absurd h HT.out⟩), HM2⟩
      case rest =>
        clear HM
        obtain ⟨bb, rfl, HBB, HM⟩ := hcut
        obtain ⟨⟨x1, c1⟩, f1, hc2, f2⟩ := HM.out.at hlt HG.out.1
        have hkT1 : (k : Int) + 1 < (T : Int) + 1 := by omega
        cases bb with
        | true =>
          have hnx := HBB.out.1 rfl
          have hsl : s < ss.length := by
            have h1 := HN.out.1 hnx
            have h2 := hks.out
            omega
          have hCk : Hid (s + 1 = c (k + 1)) := by
            unfold Hid; rw [HC1.out, ← HP.out, ← HS.out, if_pos hnx]
          have hWk : ((fn ss s : Nat) : Int) = W k := by
            rw [HW1.out, ← HP.out, ← HS.out, if_pos hnx]
          have hpp : Hid (p = k + 1 - c (k + 1)) := by
            unfold Hid; rw [← hCk.out]; have := hks.out; omega
          obtain ⟨b, off, cap1, hv, e2⟩ := HSV.out wc HM.out.keep hsl
          simp only [Value.slice.injEq] at hv
          obtain ⟨rfl, h2, rfl⟩ := hv
          clear h2
          have hzw : ((fn ss s : Nat) : Int) ≤ 9223372036854775807 := by
            have := hwf.out (zn ss s) (by rw [zn_get ss s hsl]; exact List.getElem_mem hsl)
            rw [(HZ.out s).1] at this
            simp [Lit.wf, IntKind.min, IntKind.max, IntKind.bits, IntKind.signed] at this; omega
          have hst := HM.out.step hlt HG.out.1 HG.out.2.1 HG.out.2.2 (fn ss s) (s + 1) hWk hzw hCk.out
          rw [show ((s + 1 : Nat) : Int) = (s : Int) + 1 by omega] at hst
          have HST := Lib.hid hst
          obtain ⟨y1, c2⟩ := hc2 (.int .i64 (fn ss s))
          have hslz : (s : Int) < (ss.length : Int) := by omega
          have r16 : IntKind.i16.wrap ((s : Int) + 1) = (s : Int) + 1 := by simp [IntKind.wrap, IntKind.bits, IntKind.signed]; omega
          clear hst hc2 hWk hzw hnx HM
          go_wp2_with fail
          go_roundw
          case rel => exact ⟨k + 1, s + 1, p, by omega, by go_num, rfl, by go_num, by omega, hp, hCk, hpp, HST⟩
          case measure => simp [intOf]; omega
        | false =>
          have hnx : ¬ nxS (fn ss) ss.length (fn ps) ps.length s p := fun h => by have := HBB.out.2 h; cases this
          have hpl : p < ps.length := by
            have h1 := mt HN.out.2 hnx
            omega
          have hCk : Hid (s = c (k + 1)) := by
            unfold Hid; rw [HC1.out, ← HP.out, ← HS.out, if_neg hnx]
          have hWk : ((fn ps p : Nat) : Int) = W k := by
            rw [HW1.out, ← HP.out, ← HS.out, if_neg hnx]
          have hpp : Hid (p + 1 = k + 1 - c (k + 1)) := by
            unfold Hid; rw [← hCk.out]; have := hks.out; omega
          obtain ⟨b, off, cap1, hv, e2⟩ := HPV.out wc HM.out.keep hpl
          simp only [Value.slice.injEq] at hv
          obtain ⟨rfl, h2, rfl⟩ := hv
          clear h2
          have hzw : ((fn ps p : Nat) : Int) ≤ 9223372036854775807 := by
            have := hwf'.out (zn ps p) (by rw [zn_get ps p hpl]; exact List.getElem_mem hpl)
            rw [(HZ.out p).2] at this
            simp [Lit.wf, IntKind.min, IntKind.max, IntKind.bits, IntKind.signed] at this; omega
          have HST := Lib.hid (HM.out.step hlt HG.out.1 HG.out.2.1 HG.out.2.2 (fn ps p) s hWk hzw hCk.out)
          obtain ⟨y1, c2⟩ := hc2 (.int .i64 (fn ps p))
          have hplz : (p : Int) < (ps.length : Int) := by omega
          have r16 : IntKind.i16.wrap (s : Int) = (s : Int) := by simp [IntKind.wrap, IntKind.bits, IntKind.signed]; omega
          clear hc2 hWk hzw hnx HM
          go_wp2_with fail
          go_roundw
          case rel => exact ⟨k + 1, s, p + 1, by omega, rfl, by go_num, by go_num, hs, by omega, hCk, hpp, HST⟩
          case measure => simp [intOf]; omega
    · obtain rfl : k = T := by omega
      go_wp2_with fail
      go_ret2
      exact ⟨g1, g2, rfl, HM.out, HG.out.2.1, HG.out.2.2⟩
end Go.Proofs.YtibkepjbblfkoaaGreatDoor
namespace Go.Proofs.YtibkepjbblfkoaaGreatDoor
set_option linter.unusedVariables false
set_option linter.unusedSimpArgs false
open Go.ChangeShapes Go.WideShapes Go.ChangeAt Go.RowKit

/-- how long the row of level j is -/
def lvT (n : Nat) : Nat → Nat
  | 0 => 0
  | j + 1 => n + lvT n j / 2
def prs (T : Nat) (W : Nat → Nat) (t : Nat) : Nat := if t < T / 2 then W (2 * t) + W (2 * t + 1) else 0
theorem prs_le (T : Nat) (W : Nat → Nat) (t : Nat) : prs T W t ≤ W (2 * t) + W (2 * t + 1) := by
  unfold prs; split <;> omega
def lvW (a : Nat → Nat) (n : Nat) : Nat → Nat → Nat
  | 0 => fun _ => 0
  | j + 1 => mw a n (prs (lvT n j) (lvW a n j)) (lvT n j / 2)
def lvC (a : Nat → Nat) (n : Nat) : Nat → Nat → Nat
  | 0 => fun _ => 0
  | j + 1 => mc a n (prs (lvT n j) (lvW a n j)) (lvT n j / 2)
theorem lvT_le (n j : Nat) : lvT n j ≤ 2 * n := by
  induction j with
  | zero => simp [lvT]
  | succ j ih => rw [lvT]; omega
theorem lvW_le (a : Nat → Nat) (n : Nat) (ha : ∀ i, a i ≤ 1099511627776) (j k : Nat) : lvW a n j k ≤ 1099511627776 * 2 ^ j := by
  induction j generalizing k with
  | zero => simp [lvW]
  | succ j ih =>
    have e : 1099511627776 * 2 ^ (j + 1) = 1099511627776 * 2 ^ j + 1099511627776 * 2 ^ j := by rw [Nat.pow_succ]; omega
    have e1 : 1099511627776 * 1 ≤ 1099511627776 * 2 ^ j := Nat.mul_le_mul_left _ (Nat.pow_pos (by decide))
    show mw a n (prs (lvT n j) (lvW a n j)) (lvT n j / 2) k ≤ _
    unfold mw
    split
    · exact Nat.le_trans (ha _) (by omega)
    · have h1 := ih (2 * (k - mc a n (prs (lvT n j) (lvW a n j)) (lvT n j / 2) k))
      have h2 := ih (2 * (k - mc a n (prs (lvT n j) (lvW a n j)) (lvT n j / 2) k) + 1)
      exact Nat.le_trans (prs_le _ _ _) (by omega)
theorem Mrg.congr {a a' P P' W c : Nat → Nat} {n np tot : Nat} (h : Mrg a n P np W c tot) (ha : ∀ i, i < n → a i = a' i) (hP : ∀ t, t < np → P t = P' t) : Mrg a' n P' np W c tot := by
  refine ⟨h.zero, fun k hk => ?_⟩
  rcases h.step k hk with ⟨h1, h2, h3, h4⟩ | ⟨h1, h2, h3, h4⟩
  · left
    refine ⟨h1, h2, by rw [h3, ha _ h2], fun hlt => ?_⟩
    rw [← ha _ h2, ← hP _ hlt]; exact h4 hlt
  · right
    refine ⟨h1, h2, by rw [h3, hP _ h2], fun hlt => ?_⟩
    rw [← hP _ h2, ← ha _ hlt]; exact h4 hlt
theorem lvs_made (a a' : Nat → Nat) (n L : Nat) (he : ∀ i, i < n → a i = a' i) (hA : Asc a' n) (hp : ∀ r, r < n → 0 < a' r) : Lvs a' n L (lvW a n) (lvC a n) (lvT n) := by
  refine ⟨hA, hp, rfl, fun j hj => rfl, fun j hj => ?_⟩
  refine (mc_mrg a n (prs (lvT n j) (lvW a n j)) (lvT n j / 2)).congr he (fun t ht => ?_)
  unfold prs; rw [if_pos ht]
theorem infoS16 : (Tryz.prog.info? 134).map (fun i => (i.zero, i.size, i.bytes)) = some (some (.slice none 0 0), 1, 24) := by kernel_rfl
theorem run_make_s16 (w : World) (n : Nat) (hn : n ≤ 1000000) : (Instr.makeSlice 112 (.int .i64 (n : Int)) (.int .i64 (n : Int))).run Tryz.prog w = .ok (.slice (some ⟨w.heap.size, 0, none⟩) n n) (w.alloc (.cells (madeCells #[.slice none 0 0] n) 134)) := by
  obtain ⟨i, hi, hz0, hz1, hz2⟩ := info_parts infoS16
  have := run_make (P := Tryz.prog) (w := w) 112 134 i (.slice none 0 0) Tryz.underlying112 hi hz0 .i64 .i64 n n (by omega) (by omega) (by rw [hz2]; omega) (by omega)
  rw [this, hz1]
  simp [Value.cells]
/-- the row j of counts lies in block gj -/
def Cnt (w : World) (v : Value) (T : Nat) (c : Nat → Nat) (gc : Nat) : Prop := ∃ gj, v = .slice (some ⟨gj, 0, none⟩) (T + 1) (T + 1) ∧ gj ≠ gc ∧ ∀ m, m ≤ T → w.cell? ⟨gj, m, none⟩ = some (.int .i16 (c m))
theorem Cnt.keep {w w' : World} {v : Value} {T : Nat} {c : Nat → Nat} {gc : Nat} (h : Cnt w v T c gc) (k : Keep [gc] w w') : Cnt w' v T c gc := by
  obtain ⟨gj, h1, h2, h3⟩ := h
  exact ⟨gj, h1, h2, fun m hm => k.cell (h3 m hm) (by simpa using h2)⟩
/-- block gc has the first k rows of counts -/
structure Cts (w : World) (gc L k : Nat) (T : Nat → Nat) (c : Nat → Nat → Nat) : Prop where
  blk : ∃ arr, Blk w gc arr 134 ∧ arr.size = L ∧ ∀ j, j < k → ∃ v, arr[j]? = some v ∧ Cnt w v (T (j + 1)) (c (j + 1)) gc
theorem Cts.keep {w w' : World} {gc L k : Nat} {T : Nat → Nat} {c : Nat → Nat → Nat} (h : Cts w gc L k T c) (K : Keep [] w w') : Cts w' gc L k T c := by
  obtain ⟨arr, h1, h2, h3⟩ := h.blk
  exact ⟨arr, h1.keep K (by simp), h2, fun j hj => by obtain ⟨v, h4, h5⟩ := h3 j hj; exact ⟨v, h4, h5.keep K.nil⟩⟩
theorem Cts.at {w : World} {gc L k : Nat} {T : Nat → Nat} {c : Nat → Nat → Nat} (h : Cts w gc L k T c) (hk : k < L) : (∃ x, w.cell? ⟨gc, k, none⟩ = some x) ∧ w.frozen? ⟨gc, k, none⟩ = false := by
  obtain ⟨arr, h1, h2, h3⟩ := h.blk
  exact ⟨⟨_, h1.cell k _ (Array.getElem?_eq_getElem (by omega))⟩, h1.free k⟩
theorem Cts.step {w : World} {gc L k : Nat} {T : Nat → Nat} {c : Nat → Nat → Nat} (h : Cts w gc L k T c) (hk : k < L) (v : Value) (hv : Cnt w v (T (k + 1)) (c (k + 1)) gc) : Cts (w.setCell ⟨gc, k, none⟩ v) gc L (k + 1) T c := by
  obtain ⟨arr, h1, h2, h3⟩ := h.blk
  have K : Keep [gc] w (w.setCell ⟨gc, k, none⟩ v) := (Keep.refl _ _).setCell (.inl (by simp)) _
  refine ⟨_, h1.set k v, by simpa using h2, fun j hj => ?_⟩
  rw [Array.getElem?_setIfInBounds]
  by_cases e : k = j
  · subst e; rw [if_pos rfl, if_pos (by omega)]; exact ⟨v, rfl, hv.keep K⟩
  · rw [if_neg e]
    obtain ⟨v', h4, h5⟩ := h3 j (by omega)
    exact ⟨v', h4, h5.keep K⟩
theorem fn_of_zn (rs : List Int) (i x : Nat) (h : zn rs i = (x : Int)) : fn rs i = x := by
  unfold fn; unfold zn at h; omega
theorem fn_pairs (rs ps : List Int) (T : Nat) (W : Nat → Nat) (hT : rs.length = T) (hW : ∀ i, i < T → fn rs i = W i) (hpl : ps.length = T / 2) (hp : ∀ i, i < T / 2 → zn ps i = zn rs (2 * i) + zn rs (2 * i + 1)) (hn : ∀ i, 0 ≤ zn rs i) : fn ps = prs T W := by
  funext t
  unfold prs
  by_cases h : t < T / 2
  · rw [if_pos h, ← hW (2 * t) (by omega), ← hW (2 * t + 1) (by omega)]
    have h1 := hp t h
    have h2 := hn (2 * t)
    have h3 := hn (2 * t + 1)
    unfold fn; unfold zn at *; omega
  · rw [if_neg h]
    unfold fn
    rw [List.getD_eq_getElem?_getD, List.getElem?_eq_none (by omega)]; rfl
set_option maxRecDepth 100000 in
set_option maxHeartbeats 4000000 in
theorem rows_c (w : World) (sv : Value) (ss : List Int) (L : Nat) (hL : L ≤ 16) (hls : ss.length ≤ 4096) (h : Is .i64 w sv ss) (hsn : ∀ i, 0 ≤ zn ss i ∧ zn ss i ≤ 1099511627776) :
    Calls Tryz.prog 68 #[sv, .int .i64 L] w fun e w' => ∃ gc, e = .returned (.slice (some ⟨gc, 0, none⟩) L L) ∧ Cts w' gc L L (lvT ss.length) (lvC (fn ss) ss.length) ∧ Keep [] w w' ∧ w.heap.size ≤ gc := by
  have HS := Lib.hid (fun w' (k : Keep [] w w') => h.keep k (by simp))
  have HN := Lib.hid hsn
  have HA : Hid (∀ i, fn ss i ≤ 1099511627776) := fun i => by have := hsn i; unfold fn; unfold zn at this; omega
  have HTL := Lib.hid (lvT_le ss.length)
  have hmk := fun w' => run_make_s16 w' L (by omega)
  clear h hsn
  go_enter Tryz.func68, Tryz.ntmps68
  go_wp2_with fail
  clear hmk
  have K0 : Keep [] w (w.alloc (.cells (madeCells #[.slice none 0 0] L) 134)) := (Keep.refl [] w).alloc _
  have HC : Hid (Cts (w.alloc (.cells (madeCells #[.slice none 0 0] L) 134)) w.heap.size L 0 (lvT ss.length) (lvC (fn ss) ss.length)) := ⟨_, Blk.new w _ _, size_madeCells _ _, fun j hj => by omega⟩
  generalize w.alloc (.cells (madeCells #[.slice none 0 0] L) 134) = w1 at K0 HC ⊢
  obtain ⟨gc, hg⟩ : ∃ x, w.heap.size = x := ⟨_, rfl⟩
  rw [hg] at HC ⊢
  have HG := Lib.hid hg
  clear hg
  go_loopw [6, 12] (fun rv i wr => ∃ (k : Nat) (rs : List Int), k ≤ L ∧ i = .int .i64 k ∧ Hid (Is .i64 wr rv rs) ∧ Hid (rs.length = lvT ss.length k ∧ ∀ i, i < lvT ss.length k → zn rs i = (lvW (fn ss) ss.length k i : Int)) ∧ Hid (Cts wr gc L k (lvT ss.length) (lvC (fn ss) ss.length)) ∧ Hid (Keep [] w wr)) (fun _ i _ => L - (intOf i).toNat)
  case atStart => exact ⟨0, [], by omega, rfl, ⟨none, 0, rfl, by simp, by simp, fun _ => rfl, (fun x hx => nomatch hx), by simp⟩, ⟨rfl, fun i hi => by simp [lvT] at hi⟩, HC.out, K0⟩
  case round =>
    clear HC K0
    obtain ⟨k, rs, hk, rfl, HR, HE, HC, HK⟩ := hrel
    by_cases hlt : k < L
    · have hltz : (k : Int) < (L : Int) := by omega
      have hTk := HTL.out k
      have HRn : Hid (∀ i, 0 ≤ zn rs i ∧ zn rs i ≤ 72057594037927936) := fun i => by
        by_cases hi : i < lvT ss.length k
        · rw [HE.out.2 i hi]
          have h1 := lvW_le (fn ss) ss.length HA.out k i
          have h2 : 1099511627776 * 2 ^ k ≤ 1099511627776 * 2 ^ 16 := Nat.mul_le_mul_left _ (Nat.pow_le_pow_right (by decide) (by omega))
          omega
        · rw [zn_out rs i (by have := HE.out.1; omega)]; omega
      have HP := Lib.hid (pairs_c wr _ rs (by have := HE.out.1; omega) HR.out HRn.out)
      have hgc : gc < wr.heap.size := by obtain ⟨arr, h1, _⟩ := HC.out.blk; exact h1.lt
      have HGC := Lib.hid hgc
      clear hgc
      go_wp2_with fail
      refine HP.out.mono ?_; rintro e w2 ⟨gp, ps, rfl, O2, K2, hgp, E2⟩
      have hpl : ps.length = lvT ss.length k / 2 := by have h1 := O2.sl.1; have h2 := HE.out.1; omega
      have HF : Hid (fn ps = prs (lvT ss.length k) (lvW (fn ss) ss.length k)) := fn_pairs rs ps _ _ HE.out.1 (fun i hi => fn_of_zn _ _ _ (HE.out.2 i hi)) hpl (fun i hi => E2 i (by have := HE.out.1; omega)) (fun i => (HRn.out i).1)
      have HPn : Hid (∀ i, 0 ≤ zn ps i) := fun i => by
        by_cases hi : i < ps.length
        · rw [E2 i (by have h1 := O2.sl.1; omega)]
          have h1 := HRn.out (2 * i)
          have h2 := HRn.out (2 * i + 1)
          omega
        · rw [zn_out ps i (by omega)]; omega
      have HK2 : Hid (Keep [] w w2) := HK.out.trans K2 (by simp)
      have HC2 := Lib.hid (HC.out.keep K2)
      have HM := Lib.hid (merge_c w2 sv _ ss ps (by omega) (by omega) (HS.out w2 HK2.out) O2.is (fun i => (HN.out i).1) HPn.out)
      rw [hpl, HF.out] at HM
      have HG2 : Hid (gc < w2.heap.size) := Nat.lt_of_lt_of_le HGC.out K2.size
      clear O2 K2 E2 HP HRn HPn HK HC HR hgp HGC
      go_wp2_with fail
      refine HM.out.mono ?_; rintro e w3 ⟨g1, g2, rfl, M3, hg1, hg2⟩
      have HK3 : Hid (Keep [] w w3) := HK2.out.trans M3.keep (by simp)
      have HC3 := Lib.hid (HC2.out.keep M3.keep)
      obtain ⟨⟨x1, c1⟩, f1⟩ := HC3.out.at hlt
      obtain ⟨⟨rs1, O3, E3⟩, ⟨arr, B3, s3, a3⟩, _⟩ := M3
      have hn1 : g1 ≠ gc := by have := HG2.out; omega
      have hn2 : g2 ≠ gc := by have := HG2.out; omega
      have HST := Lib.hid (HC3.out.step hlt (.slice (some ⟨g2, 0, none⟩) (ss.length + lvT ss.length k / 2 + 1) (ss.length + lvT ss.length k / 2 + 1)) ⟨g2, rfl, hn2, fun m hm => B3.cell m _ (a3 m hm)⟩)
      have HR4 : Hid (Is .i64 (w3.setCell ⟨gc, k, none⟩ (.slice (some ⟨g2, 0, none⟩) (ss.length + lvT ss.length k / 2 + 1) (ss.length + lvT ss.length k / 2 + 1))) (.slice (some ⟨g1, 0, none⟩) (ss.length + lvT ss.length k / 2) (ss.length + lvT ss.length k / 2)) rs1) := O3.is.keep ((Keep.refl [gc] _).setCell (.inl (by simp)) _) (by simp [Value.ownBlock]; exact hn1)
      have HE4 : Hid (rs1.length = lvT ss.length (k + 1) ∧ ∀ i, i < lvT ss.length (k + 1) → zn rs1 i = (lvW (fn ss) ss.length (k + 1) i : Int)) := ⟨O3.sl.1.symm, fun i hi => E3 i hi⟩
      have HK4 : Hid (Keep [] w (w3.setCell ⟨gc, k, none⟩ (.slice (some ⟨g2, 0, none⟩) (ss.length + lvT ss.length k / 2 + 1) (ss.length + lvT ss.length k / 2 + 1)))) := HK3.out.setCell (.inr (by have := HG.out; simp; omega)) _
      clear O3 E3 B3 s3 a3 HM HK2 HK3 HC2 HC3 hn1 hn2 hg1 hg2 HF hpl hTk
      generalize lvT ss.length k / 2 = tp at HST HR4 HK4 ⊢
      go_wp2_with fail
      go_roundw
      case rel => exact ⟨k + 1, rs1, by omega, by go_num, HR4, HE4, HST, HK4⟩
      case measure => simp [intOf]; omega
    · obtain rfl : k = L := by omega
      go_wp2_with fail
      go_ret
      exact ⟨gc, rfl, HC.out, HK.out, by rw [HG.out]; exact Nat.le_refl _⟩
end Go.Proofs.YtibkepjbblfkoaaGreatDoor
