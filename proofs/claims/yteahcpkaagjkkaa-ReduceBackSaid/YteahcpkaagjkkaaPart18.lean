/- Texts put together: Srg2 Srg3 FolRank Srg4 Srg5 Srg6 -/
import Derived.Test.YteahcpkaagjkkaaPart8
import Derived.Test.YteahcpkaagjkkaaPart1
import Derived.Shelf.Abstract
import Derived.Test.YteahcpkaagjkkaaPart5
namespace Go.Proofs.Yteahcpkaagjkkaa.Sg
set_option linter.unusedVariables false
set_option linter.unusedSimpArgs false
open Go.ChangeShapes Go.WideShapes Go.ChangeAt Go.RowKit

/-- what a comparison answers of two keys -/
def cmpK (x y : Int) : Int := if x < y then -1 else if y < x then 1 else 0
theorem cmpK_lt (x y : Int) (h : x < y) : decide (cmpK x y < 0) = true := by unfold cmpK; rw [if_pos h]; decide
theorem cmpK_ge (x y : Int) (h : ¬ x < y) : decide (cmpK x y < 0) = false := by
  unfold cmpK; rw [if_neg h]; split <;> decide
/-- the function fc, bound to cb, holds the keys of elements with Pd against one another, in whatever world comes of w0 by turns of block g alone -/
def CmpG (fc : Nat) (cb : Array Value) (Pd : SEl → Prop) (kc : SEl → Int) (w0 : World) (g : Nat) : Prop :=
  (∀ args w, (callFunc fc args).run Try.prog w = .ok (.enter fc args) w) ∧
  ∀ w, Keep [g] w0 w → ∀ x y, Pd x → Pd y → Calls Try.prog fc (#[.agg #[eA x, eB x], .agg #[eA y, eB y]] ++ cb) w fun e w' => e = .returned (.int .i64 (cmpK (kc x) (kc y))) ∧ Keep [] w w'
/-- what key says more than kc, the order of the row says already -/
def Sta (kc key : SEl → Int) (zs : List SEl) (n : Nat) : Prop := ∀ p q, p < q → q < n → key (gn zs q) < key (gn zs p) → kc (gn zs q) < kc (gn zs p)
theorem Sta.move {kc key : SEl → Int} {zs zs' : List SEl} {n : Nat} (h : Sta kc key zs n) (f : Nat → Nat) (hf : ∀ p, p < n → f p < n) (he : ∀ p, p < n → gn zs' p = gn zs (f p)) (hi : ∀ p q, p < q → q < n → f p < f q ∨ key (gn zs (f p)) ≤ key (gn zs (f q))) : Sta kc key zs' n := by
  intro p q h1 h2 h3
  rw [he p (by omega), he q h2] at h3 ⊢
  rcases hi p q h1 h2 with h4 | h4
  · exact h _ _ h4 (hf q h2) h3
  · omega
theorem Sta.back {kc key : SEl → Int} {zs : List SEl} {n j : Nat} (h : Sta kc key zs n) (hj0 : 0 < j) (hj : j < n) (hl : n = zs.length) (hlt : key (gn zs j) < key (gn zs (j - 1))) : Sta kc key (gxc zs j (j - 1)) n := by
  refine h.move (fun p => if p = j - 1 then j else if p = j then j - 1 else p) (fun p hp => ?_) (fun p hp => ?_) (fun p q h1 h2 => ?_)
  · repeat' split
    all_goals omega
  · rw [gxc_at _ _ _ _ (by omega) (by omega)]
    repeat' split
    all_goals first | rfl | omega
  · by_cases p1 : p = j - 1
    · rw [if_pos p1]
      by_cases q1 : q = j
      · rw [if_neg (by omega), if_pos q1]; right; omega
      · rw [if_neg (by omega), if_neg q1]; left; omega
    · rw [if_neg p1]
      by_cases p2 : p = j
      · rw [if_pos p2, if_neg (by omega), if_neg (by omega)]; left; omega
      · rw [if_neg p2]
        left
        repeat' split
        all_goals omega
/-- sorted by their keys -/
def Srt (key : SEl → Int) (zs : List SEl) (a b : Nat) : Prop := ∀ p q, a ≤ p → p ≤ q → q < b → key (gn zs p) ≤ key (gn zs q)
/-- [a, i] is sorted but for the number at j, which is no greater than those behind it -/
def Ins (key : SEl → Int) (zs : List SEl) (a i j : Nat) : Prop :=
  (∀ p q, a ≤ p → p ≤ q → q ≤ i → p ≠ j → q ≠ j → key (gn zs p) ≤ key (gn zs q)) ∧ ∀ q, j < q → q ≤ i → key (gn zs j) ≤ key (gn zs q)
theorem Ins.start {key : SEl → Int} {zs : List SEl} {a i : Nat} (h : Srt key zs a i) : Ins key zs a i i :=
  ⟨fun p q h1 h2 h3 h4 h5 => h p q h1 h2 (by omega), fun q h1 h2 => by omega⟩
theorem Ins.step {key : SEl → Int} {zs : List SEl} {a i j : Nat} (h : Ins key zs a i j) (haj : a < j) (hji : j ≤ i) (hi : i < zs.length) (hlt : key (gn zs j) < key (gn zs (j - 1))) : Ins key (gxc zs j (j - 1)) a i (j - 1) := by
  have hx := fun k => gxc_at zs j (j - 1) k (by omega) (by omega)
  refine ⟨fun p q h1 h2 h3 h4 h5 => ?_, fun q h1 h2 => ?_⟩
  · rw [hx p, hx q, if_neg h4, if_neg h5]
    by_cases e1 : p = j
    · rw [if_pos e1]
      by_cases e2 : q = j
      · rw [if_pos e2]; exact Int.le_refl _
      · rw [if_neg e2]; exact h.1 (j - 1) q (by omega) (by omega) h3 (by omega) e2
    · rw [if_neg e1]
      by_cases e2 : q = j
      · rw [if_pos e2]; exact h.1 p (j - 1) h1 (by omega) (by omega) e1 (by omega)
      · rw [if_neg e2]; exact h.1 p q h1 h2 h3 e1 e2
  · rw [hx (j - 1), hx q, if_pos rfl, if_neg (by omega)]
    by_cases e2 : q = j
    · rw [if_pos e2]; omega
    · rw [if_neg e2]; exact h.2 q (by omega) h2
theorem Ins.done {key : SEl → Int} {zs : List SEl} {a i j : Nat} (h : Ins key zs a i j) (haj : a ≤ j) (hs : j = a ∨ ¬ key (gn zs j) < key (gn zs (j - 1))) : Srt key zs a (i + 1) := by
  intro p q h1 h2 h3
  by_cases e1 : p = j
  · by_cases e2 : q = j
    · rw [e1, e2]; exact Int.le_refl _
    · rw [e1]; exact h.2 q (by omega) (by omega)
  · by_cases e2 : q = j
    · rcases hs with hs | hs
      · omega
      · rw [e2]
        have : key (gn zs p) ≤ key (gn zs (j - 1)) := by
          by_cases e3 : p = j - 1
          · rw [e3]; exact Int.le_refl _
          · exact h.1 p (j - 1) h1 (by omega) (by omega) e1 (by omega)
        omega
    · exact h.1 p q h1 h2 (by omega) e1 e2
set_option maxRecDepth 100000 in
set_option maxHeartbeats 8000000 in
theorem insertion_c {w0 : World} {g n cap : Nat} {z0 : List SEl} (fc : Nat) (cb : Array Value) (Pd : SEl → Prop) (kc key : SEl → Int) (hkc : ∀ x y, kc x < kc y → key x < key y) (hC : CmpG fc cb Pd kc w0 g) (hP : ∀ z ∈ z0, Pd z) (hn : n < 4611686018427387904)
    (w : World) (zs : List SEl) (a b : Nat) (hab : a ≤ b) (hb : b ≤ n) (S : SSg w0 g n cap z0 w zs) (T : Sta kc key zs n) :
    Calls Try.prog 115 #[.slice (some ⟨g, 0, none⟩) n cap, .int .i64 a, .int .i64 b, .func (.func fc) #[] cb] w fun e w' => e = .returned (.tuple #[]) ∧ ∃ zs', SSg w0 g n cap z0 w' zs' ∧ Sta kc key zs' n ∧ Srt key zs' a b ∧ ∀ p, p < a ∨ b ≤ p → gn zs' p = gn zs p := by
  have eg := hC.1
  have HC := Lib.hid hC.2
  have HP := Lib.hid hP
  have S0 := Lib.hid S
  have T0 := Lib.hid T
  have HK := Lib.hid hkc
  clear S hC hP T hkc
  go_enter Try.func115, Try.ntmps115
  go_wp2_with fail
  go_loopg [8] (b - a) (fun g1 vi wr => ∃ (i : Nat) (zk : List SEl), vi = .int .i64 i ∧ a < i ∧ i ≤ b + 1 ∧ b + 1 - i ≤ g1 + 1 ∧ Hid (SSg w0 g n cap z0 wr zk) ∧ Hid (Sta kc key zk n) ∧ Hid (Srt key zk a i) ∧ Hid (∀ p, p < a ∨ b ≤ p → gn zk p = gn zs p))
  case atStart => exact ⟨a + 1, zs, by go_num, by omega, by omega, by omega, S0.out, T0.out, fun p q h1 h2 h3 => by rw [show p = q by omega]; exact Int.le_refl _, fun p _ => rfl⟩
  case round =>
    clear S0 T0
    obtain ⟨i, zk, rfl, hai, hib, hg1, HS, HT, HO, HF⟩ := hrel
    by_cases hlt : i < b
    · have hltz : (i : Int) < (b : Int) := by omega
      go_wp2_with fail
      go_loopg [9] i (fun g2 vj wr2 => ∃ (j : Nat) (zj : List SEl), vj = .int .i64 j ∧ a ≤ j ∧ j ≤ i ∧ j ≤ g2 ∧ Hid (SSg w0 g n cap z0 wr2 zj) ∧ Hid (Sta kc key zj n) ∧ Hid (Ins key zj a i j) ∧ Hid (∀ p, p < a ∨ b ≤ p → gn zj p = gn zs p))
      case atStart => exact ⟨i, zk, rfl, by omega, Nat.le_refl _, Nat.le_refl _, HS, HT, Ins.start HO.out, HF.out⟩
      case round =>
        clear HS HT HO HF
        obtain ⟨j, zj, rfl, haj, hji, hg2, HS, HT, HI, HF⟩ := hrel
        by_cases hja : a < j
        · obtain ⟨jp, hjp⟩ : ∃ q, q = j - 1 := ⟨_, rfl⟩
          have hjad : decide ((j : Int) > (a : Int)) = true := decide_eq_true (by omega)
          have hjaz : (a : Int) < (j : Int) := by omega
          have rj : IntKind.i64.wrap ((j : Int) - 1) = (jp : Int) := by rw [IntKind.wrap_i64]; omega
          have hjp1 : jp < j := by omega
          have hjp2 : a ≤ jp := by omega
          have hjj : j ≠ jp := by omega
          have c1 := fun (k : Kept wr) => (HS.out.to k.h).c0 j (by omega)
          have c1b := fun (k : Kept wr) => (HS.out.to k.h).c1 j (by omega)
          have c2 := fun (k : Kept wr) => (HS.out.to k.h).c0 jp (by omega)
          have c2b := fun (k : Kept wr) => (HS.out.to k.h).c1 jp (by omega)
          have hjn : (j : Int) < (n : Int) := by omega
          have hjpn : (jp : Int) < (n : Int) := by omega
          have p1 := HS.out.pd HP.out j (by omega)
          have p2 := HS.out.pd HP.out jp (by omega)
          have hcm := fun (k : Kept wr) => HC.out k.x (HS.out.keep.trans k.h (by simp)) _ _ p1 p2
          have hks : key (gn zj j) < key (gn zj (j - 1)) ↔ kc (gn zj j) < kc (gn zj (j - 1)) := ⟨fun h => HT.out (j - 1) j (by omega) (by omega) h, fun h => HK.out _ _ h⟩
          have HW : Hid (∀ w', Keep [] wr w' → SSg w0 g n cap z0 w' zj) := fun w' k => HS.out.to k
          clear p1 p2
          by_cases hlv : key (gn zj j) < key (gn zj (j - 1))
          · have HX := Lib.hid (fun (w' : World) (h : SSg w0 g n cap z0 w' zj) => (h.gxc j jp (by omega) (by omega)).drew)
            have c3 := Lib.hid (fun (w' : World) (h : SSg w0 g n cap z0 w' zj) => h.d0 j jp (by omega) hjj (gn zj jp))
            have c3b := Lib.hid (fun (w' : World) (h : SSg w0 g n cap z0 w' zj) => h.d1 j jp (by omega) hjj (gn zj jp))
            have c4 := Lib.hid (fun (w' : World) (h : SSg w0 g n cap z0 w' zj) => h.e1 j (by omega) (eA (gn zj jp)))
            have c5 := Lib.hid (fun (w' : World) (h : SSg w0 g n cap z0 w' zj) => h.e2 j jp (by omega) hjj (gn zj jp) (eA (gn zj j)))
            have HI2 : Hid (Ins key (gxc zj j jp) a i jp) := by rw [hjp]; exact HI.out.step hja hji (by rw [HS.out.len]; omega) hlv
            have HT2 : Hid (Sta kc key (gxc zj j jp) n) := by rw [hjp]; exact HT.out.back (by omega) (by omega) HS.out.len.symm hlv
            have HF2 : Hid (∀ p, p < a ∨ b ≤ p → gn (gxc zj j jp) p = gn zs p) := fun p hp => by
              rw [gxc_at _ _ _ _ (by rw [HS.out.len]; omega) (by rw [HS.out.len]; omega), if_neg (by omega), if_neg (by omega)]
              exact HF.out p hp
            have hd := cmpK_lt _ _ (hks.1 hlv)
            rw [← hjp] at hd
            generalize cmpK (kc (gn zj j)) (kc (gn zj jp)) = cc at hcm hd
            simp only [eA, eB] at c1 c1b c2 c2b hcm
            have HCM := Lib.hid hcm
            clear HI HT HF hlv hjp HS hcm hks
            go_wp2_with fail
            refine wp_region_kept (by kernel_rfl) (by kernel_rfl) ?_
            repeat (quiet_step (first | (go_at_fn fc; with_reducible exact kept_of (HCM.out _))))
            refine wpQuiet_nil ?_
            intro _ hw'
            obtain ⟨p, hw''⟩ := hw'
            subst hw''
            have HSP := HW.out p.x p.h
            have g1 := c1 p
            have g1b := c1b p
            have g2 := c2 p
            have g2b := c2b p
            have g3 := c3.out p.x HSP
            have g3b := c3b.out p.x HSP
            have g4 := c4.out p.x HSP
            have g5 := c5.out p.x HSP
            have HX2 := Lib.hid (HX.out p.x HSP)
            have f1 := HSP.free (j * 2)
            have f1b := HSP.free (j * 2 + 1)
            have f2 := HSP.free (jp * 2)
            have f2b := HSP.free (jp * 2 + 1)
            clear c1 c1b c2 c2b c3 c3b c4 c5 HCM HX HW HSP
            generalize p.x = w2 at *
            unfold stE at g3 g3b g5 HX2
            generalize gn zj j = x at g1 g1b g4 g5 HX2
            generalize gn zj jp = y at g2 g2b g3 g3b g4 g5 HX2
            simp only [eA, eB] at g1 g1b g2 g2b g3 g3b g4 g5 HX2
            generalize gxc zj j jp = z1 at HX2 HI2 HT2 HF2
            go_wp2_with fail
            go_region
            go_wp2_with fail
            go_roundg jp
            case measure => omega
            case rel => exact ⟨jp, z1, rfl, by omega, by omega, Nat.le_refl _, HX2, HT2, HI2, HF2⟩
          · have HO2 : Hid (Srt key zj a (i + 1)) := HI.out.done haj (.inr hlv)
            have hd := cmpK_ge _ _ (fun h => hlv (hks.2 h))
            rw [← hjp] at hd
            generalize cmpK (kc (gn zj j)) (kc (gn zj jp)) = cc at hcm hd
            simp only [eA, eB] at c1 c1b c2 c2b hcm
            have HCM := Lib.hid hcm
            clear HI hlv hjp hcm hks
            go_wp2_with fail
            refine wp_region_kept (by kernel_rfl) (by kernel_rfl) ?_
            repeat (quiet_step (first | (go_at_fn fc; with_reducible exact kept_of (HCM.out _))))
            refine wpQuiet_nil ?_
            intro _ hw'
            obtain ⟨p, hw''⟩ := hw'
            subst hw''
            have HX2 := Lib.hid (HW.out p.x p.h)
            clear c1 c1b c2 c2b HCM HW HS
            generalize p.x = w2 at *
            go_wp2_with fail
            go_roundg (b - (i + 1))
            case measure => omega
            case rel => exact ⟨i + 1, zj, by go_num, by omega, by omega, by omega, HX2, HT, HO2, HF⟩
        · have hjaz : decide ((j : Int) > (a : Int)) = false := decide_eq_false (by omega)
          have hjaz' : ¬ (a : Int) < (j : Int) := by omega
          have HO2 : Hid (Srt key zj a (i + 1)) := HI.out.done haj (.inl (by omega))
          have HX2 := Lib.hid HS.out.drew
          clear HS HI
          go_wp2_with fail
          go_region
          go_wp2_with fail
          go_roundg (b - (i + 1))
          case measure => omega
          case rel => exact ⟨i + 1, zj, by go_num, by omega, by omega, by omega, HX2, HT, HO2, HF⟩
    · have hltz : ¬ (i : Int) < (b : Int) := by omega
      go_wp2_with fail
      go_end0
      exact ⟨rfl, zk, HS.out, HT.out, fun p q h1 h2 h3 => HO.out p q h1 h2 (by omega), HF.out⟩
end Go.Proofs.Yteahcpkaagjkkaa.Sg
namespace Go.Proofs.Yteahcpkaagjkkaa.Sg
set_option linter.unusedVariables false
set_option linter.unusedSimpArgs false
open Go.ChangeShapes Go.WideShapes Go.ChangeAt Go.RowKit

/-- zs' is zs with [a, b) sorted -/
structure Mg (key : SEl → Int) (zs zs' : List SEl) (a b : Nat) : Prop where
  srt : Srt key zs' a b
  out : ∀ p, p < a ∨ b ≤ p → gn zs' p = gn zs p
  mem : ∀ p, a ≤ p → p < b → ∃ q, a ≤ q ∧ q < b ∧ gn zs' p = gn zs q
theorem Mg.same {key : SEl → Int} {zs : List SEl} {a b : Nat} (h : Srt key zs a b) : Mg key zs zs a b := ⟨h, fun _ _ => rfl, fun p h1 h2 => ⟨p, h1, h2, rfl⟩⟩
theorem Srt.one (key : SEl → Int) (zs : List SEl) (a b : Nat) (h : b ≤ a + 1) : Srt key zs a b := fun p q h1 h2 h3 => by rw [show p = q by omega]; exact Int.le_refl _
/-- the number at a led up to k -/
def shL (A : Nat → SEl) (a k p : Nat) : SEl := if a ≤ p ∧ p < k then A (p + 1) else if p = k then A a else A p
theorem shL_zero (A : Nat → SEl) (a p : Nat) : A p = shL A a a p := by
  unfold shL; rw [if_neg (by omega)]; split
  · next h => rw [h]
  · rfl
theorem shL_step (l : List SEl) (A : Nat → SEl) (a k : Nat) (hak : a ≤ k) (hk : k + 1 < l.length) (h : ∀ p, gn l p = shL A a k p) (p : Nat) : gn (gxc l k (k + 1)) p = shL A a (k + 1) p := by
  rw [gxc_at l _ _ _ (by omega) (by omega), h, h, h]
  unfold shL
  repeat' split
  all_goals first | omega | (congr 1; omega) | rfl
theorem shL_mg {key : SEl → Int} {zs z2 : List SEl} {a i b : Nat} (hai : a + 1 ≤ i) (hib : i ≤ b) (hs : Srt key zs (a + 1) b) (h1 : ∀ p, a + 1 ≤ p → p < i → key (gn zs p) < key (gn zs a)) (h2 : ∀ p, i ≤ p → p < b → key (gn zs a) ≤ key (gn zs p))
    (h : ∀ p, gn z2 p = shL (gn zs) a (i - 1) p) : Mg key zs z2 a b := by
  refine ⟨fun p q hp hpq hq => ?_, fun p hp => ?_, fun p hp hq => ?_⟩
  · rw [h, h]
    unfold shL
    by_cases p1 : p < i - 1
    · rw [if_pos ⟨hp, p1⟩]
      by_cases q1 : q < i - 1
      · rw [if_pos ⟨by omega, q1⟩]; exact hs _ _ (by omega) (by omega) (by omega)
      · rw [if_neg (by omega)]
        by_cases q2 : q = i - 1
        · rw [if_pos q2]; exact Int.le_of_lt (h1 _ (by omega) (by omega))
        · rw [if_neg q2]; exact hs _ _ (by omega) (by omega) (by omega)
    · rw [if_neg (by omega), if_neg (show ¬ (a ≤ q ∧ q < i - 1) by omega)]
      by_cases p2 : p = i - 1
      · rw [if_pos p2]
        by_cases q2 : q = i - 1
        · rw [if_pos q2]; exact Int.le_refl _
        · rw [if_neg q2]; exact h2 _ (by omega) (by omega)
      · rw [if_neg p2, if_neg (show ¬ q = i - 1 by omega)]; exact hs _ _ (by omega) (by omega) (by omega)
  · rw [h]; unfold shL; rw [if_neg (by omega), if_neg (by omega)]
  · rw [h]; unfold shL
    by_cases p1 : p < i - 1
    · rw [if_pos ⟨hp, p1⟩]; exact ⟨_, by omega, by omega, rfl⟩
    · rw [if_neg (by omega)]
      by_cases p2 : p = i - 1
      · rw [if_pos p2]; exact ⟨a, by omega, by omega, rfl⟩
      · rw [if_neg p2]; exact ⟨p, hp, hq, rfl⟩
/-- the number at m led down to k -/
def shR (A : Nat → SEl) (m k p : Nat) : SEl := if k < p ∧ p ≤ m then A (p - 1) else if p = k then A m else A p
theorem shR_zero (A : Nat → SEl) (m p : Nat) : A p = shR A m m p := by
  unfold shR; rw [if_neg (by omega)]; split
  · next h => rw [h]
  · rfl
theorem shR_step (l : List SEl) (A : Nat → SEl) (m k : Nat) (hk0 : 0 < k) (hkm : k ≤ m) (hk : m < l.length) (h : ∀ p, gn l p = shR A m k p) (p : Nat) : gn (gxc l k (k - 1)) p = shR A m (k - 1) p := by
  rw [gxc_at l _ _ _ (by omega) (by omega), h, h, h]
  unfold shR
  repeat' split
  all_goals first | omega | (congr 1; omega) | rfl
theorem shR_mg {key : SEl → Int} {zs z2 : List SEl} {a i m : Nat} (hai : a ≤ i) (him : i ≤ m) (hs : Srt key zs a m) (h1 : ∀ p, a ≤ p → p < i → key (gn zs p) ≤ key (gn zs m)) (h2 : ∀ p, i ≤ p → p < m → key (gn zs m) < key (gn zs p))
    (h : ∀ p, gn z2 p = shR (gn zs) m i p) : Mg key zs z2 a (m + 1) := by
  refine ⟨fun p q hp hpq hq => ?_, fun p hp => ?_, fun p hp hq => ?_⟩
  · rw [h, h]
    unfold shR
    by_cases p1 : i < p
    · rw [if_pos ⟨p1, by omega⟩, if_pos ⟨by omega, by omega⟩]; exact hs _ _ (by omega) (by omega) (by omega)
    · rw [if_neg (by omega)]
      by_cases p2 : p = i
      · rw [if_pos p2]
        by_cases q2 : q = i
        · rw [if_neg (by omega), if_pos q2]; exact Int.le_refl _
        · rw [if_pos ⟨by omega, by omega⟩]; exact Int.le_of_lt (h2 _ (by omega) (by omega))
      · rw [if_neg p2]
        by_cases q1 : i < q
        · rw [if_pos ⟨q1, by omega⟩]; exact hs _ _ (by omega) (by omega) (by omega)
        · rw [if_neg (by omega)]
          by_cases q2 : q = i
          · rw [if_pos q2]; exact h1 _ hp (by omega)
          · rw [if_neg q2]; exact hs _ _ (by omega) (by omega) (by omega)
  · rw [h]; unfold shR; rw [if_neg (by omega), if_neg (by omega)]
  · rw [h]; unfold shR
    by_cases p1 : i < p
    · rw [if_pos ⟨p1, by omega⟩]; exact ⟨_, by omega, by omega, rfl⟩
    · rw [if_neg (by omega)]
      by_cases p2 : p = i
      · rw [if_pos p2]; exact ⟨m, by omega, by omega, rfl⟩
      · rw [if_neg p2]; exact ⟨p, hp, hq, rfl⟩
/-- behind the turn of [s, m) and [m, e): four sorted rows, none of the first two above any of the last two -/
theorem rot_facts {key : SEl → Int} {zs z1 : List SEl} {a s m mid e b : Nat} (hsm : s ≤ m) (hme : m ≤ e) (has : a ≤ s) (heb : e ≤ b) (hsmid : s ≤ mid) (hN : e + s = mid + m) (hA : Srt key zs a m) (hB : Srt key zs m b)
    (h1 : s = a ∨ e = b ∨ key (gn zs (s - 1)) ≤ key (gn zs e)) (h2 : s = m ∨ e = m ∨ key (gn zs (e - 1)) < key (gn zs s)) (h : ∀ p, gn z1 p = rtR (gn zs) s m e p) :
    Srt key z1 a s ∧ Srt key z1 s mid ∧ Srt key z1 mid e ∧ Srt key z1 e b ∧ ∀ p q, a ≤ p → p < mid → mid ≤ q → q < b → key (gn z1 p) ≤ key (gn z1 q) := by
  have v1 : ∀ p, p < s → gn z1 p = gn zs p := fun p hp => by rw [h]; unfold rtR; rw [if_neg (by omega), if_neg (by omega)]
  have v2 : ∀ p, s ≤ p → p < mid → gn z1 p = gn zs (p + m - s) := fun p hp hq => by rw [h]; unfold rtR; rw [if_pos (by omega)]
  have v3 : ∀ p, mid ≤ p → p < e → gn z1 p = gn zs (p + m - e) := fun p hp hq => by rw [h]; unfold rtR; rw [if_neg (by omega), if_pos (by omega)]
  have v4 : ∀ p, e ≤ p → gn z1 p = gn zs p := fun p hp => by rw [h]; unfold rtR; rw [if_neg (by omega), if_neg (by omega)]
  refine ⟨fun p q hp hpq hq => ?_, fun p q hp hpq hq => ?_, fun p q hp hpq hq => ?_, fun p q hp hpq hq => ?_, fun p q hp hpm hq hqb => ?_⟩
  · rw [v1 p (by omega), v1 q hq]; exact hA _ _ hp hpq (by omega)
  · rw [v2 p hp (by omega), v2 q (by omega) hq]; exact hB _ _ (by omega) (by omega) (by omega)
  · rw [v3 p hp (by omega), v3 q (by omega) hq]; exact hA _ _ (by omega) (by omega) (by omega)
  · rw [v4 p hp, v4 q (by omega)]; exact hB _ _ (by omega) (by omega) (by omega)
  · by_cases p1 : p < s
    · rw [v1 p p1]
      by_cases q1 : q < e
      · rw [v3 q hq q1]; exact hA _ _ hp (by omega) (by omega)
      · rw [v4 q (by omega)]
        rcases h1 with h1 | h1 | h1
        · omega
        · omega
        · have a1 := hA p (s - 1) hp (by omega) (by omega)
          have a2 := hB e q (by omega) (by omega) hqb
          omega
    · rw [v2 p (by omega) hpm]
      by_cases q1 : q < e
      · rw [v3 q hq q1]
        rcases h2 with h2 | h2 | h2
        · omega
        · omega
        · have a1 := hB (p + m - s) (e - 1) (by omega) (by omega) (by omega)
          have a2 := hA s (q + m - e) (by omega) (by omega) (by omega)
          omega
      · rw [v4 q (by omega)]; exact hB _ _ (by omega) (by omega) hqb
theorem mg_both {key : SEl → Int} {zs z1 z2 z3 : List SEl} {a s m mid e b : Nat} (hsm : s ≤ m) (hme : m ≤ e) (has : a ≤ s) (heb : e ≤ b) (hsmid : s ≤ mid) (hmide : mid ≤ e) (hN : e + s = mid + m) (h : ∀ p, gn z1 p = rtR (gn zs) s m e p)
    (hLR : ∀ p q, a ≤ p → p < mid → mid ≤ q → q < b → key (gn z1 p) ≤ key (gn z1 q)) (h2 : Mg key z1 z2 a mid) (h3 : Mg key z2 z3 mid b) : Mg key zs z3 a b := by
  have hz1 : ∀ p, a ≤ p → p < b → ∃ q, a ≤ q ∧ q < b ∧ gn z1 p = gn zs q := fun p hp hq => by
    rw [h]; unfold rtR
    split
    · exact ⟨_, by omega, by omega, rfl⟩
    · split
      · exact ⟨_, by omega, by omega, rfl⟩
      · exact ⟨p, hp, hq, rfl⟩
  have hl : ∀ p, a ≤ p → p < mid → ∃ q, a ≤ q ∧ q < mid ∧ gn z3 p = gn z1 q := fun p hp hq => by
    rw [h3.out p (.inl hq)]; exact h2.mem p hp hq
  have hr : ∀ p, mid ≤ p → p < b → ∃ q, mid ≤ q ∧ q < b ∧ gn z3 p = gn z1 q := fun p hp hq => by
    obtain ⟨q, q1, q2, q3⟩ := h3.mem p hp hq
    exact ⟨q, q1, q2, by rw [q3, h2.out q (.inr q1)]⟩
  refine ⟨fun p q hp hpq hq => ?_, fun p hp => ?_, fun p hp hq => ?_⟩
  · by_cases q1 : q < mid
    · rw [h3.out p (.inl (by omega)), h3.out q (.inl q1)]; exact h2.srt p q hp hpq q1
    · by_cases p1 : p < mid
      · obtain ⟨p', a1, a2, a3⟩ := hl p hp p1
        obtain ⟨q', b1, b2, b3⟩ := hr q (by omega) hq
        rw [a3, b3]; exact hLR p' q' a1 a2 b1 b2
      · exact h3.srt p q (by omega) hpq hq
  · rw [h3.out p (by omega), h2.out p (by omega), h]; unfold rtR; rw [if_neg (by omega), if_neg (by omega)]
  · by_cases p1 : p < mid
    · obtain ⟨p', a1, a2, a3⟩ := hl p hp p1
      obtain ⟨q, b1, b2, b3⟩ := hz1 p' a1 (by omega)
      exact ⟨q, b1, b2, a3.trans b3⟩
    · obtain ⟨p', a1, a2, a3⟩ := hr p (by omega) hq
      obtain ⟨q, b1, b2, b3⟩ := hz1 p' (by omega) a2
      exact ⟨q, b1, b2, a3.trans b3⟩
theorem rtR_none (A : Nat → SEl) (s m e p : Nat) (hsm : s ≤ m) (hme : m ≤ e) (h : s = m ∨ m = e) : A p = rtR A s m e p := by
  unfold rtR
  repeat' split
  all_goals first | omega | (congr 1; omega) | rfl
/-- by the way that an element goes, what the order says stays said -/
theorem Sta.shL {kc key : SEl → Int} {zs z2 : List SEl} {n a i b : Nat} (h : Sta kc key zs n) (hai : a + 1 ≤ i) (hib : i ≤ b) (hb : b ≤ n) (h1 : ∀ p, a + 1 ≤ p → p < i → key (gn zs p) < key (gn zs a)) (he : ∀ p, gn z2 p = Sg.shL (gn zs) a (i - 1) p) : Sta kc key z2 n := by
  refine h.move (fun p => if a ≤ p ∧ p < i - 1 then p + 1 else if p = i - 1 then a else p) (fun p hp => ?_) (fun p hp => ?_) (fun p q hp hq => ?_)
  · repeat' split
    all_goals omega
  · rw [he]; unfold Sg.shL
    repeat' split
    all_goals first | rfl | omega
  · by_cases p1 : a ≤ p ∧ p < i - 1
    · rw [if_pos p1]
      by_cases q1 : q = i - 1
      · rw [if_neg (by omega), if_pos q1]; right; have := h1 (p + 1) (by omega) (by omega); omega
      · left
        repeat' split
        all_goals omega
    · rw [if_neg p1]
      left
      repeat' split
      all_goals omega
theorem Sta.shR {kc key : SEl → Int} {zs z2 : List SEl} {n a i m : Nat} (h : Sta kc key zs n) (hai : a ≤ i) (him : i ≤ m) (hm : m < n) (h2 : ∀ p, i ≤ p → p < m → key (gn zs m) < key (gn zs p)) (he : ∀ p, gn z2 p = Sg.shR (gn zs) m i p) : Sta kc key z2 n := by
  refine h.move (fun p => if i < p ∧ p ≤ m then p - 1 else if p = i then m else p) (fun p hp => ?_) (fun p hp => ?_) (fun p q hp hq => ?_)
  · repeat' split
    all_goals omega
  · rw [he]; unfold Sg.shR
    repeat' split
    all_goals first | rfl | omega
  · by_cases p1 : p = i
    · rw [if_neg (by omega), if_pos p1]
      by_cases q1 : i < q ∧ q ≤ m
      · rw [if_pos q1]; right; have := h2 (q - 1) (by omega) (by omega); omega
      · left
        repeat' split
        all_goals omega
    · left
      repeat' split
      all_goals omega
theorem Sta.rot {kc key : SEl → Int} {zs z1 : List SEl} {n a s m e b : Nat} (h : Sta kc key zs n) (has : a ≤ s) (heb : e ≤ b) (hb : b ≤ n) (hsm : s ≤ m) (hme : m ≤ e) (hA : Srt key zs a m) (hB : Srt key zs m b) (h2 : s = m ∨ e = m ∨ key (gn zs (e - 1)) < key (gn zs s)) (he : ∀ p, gn z1 p = rtR (gn zs) s m e p) : Sta kc key z1 n := by
  refine h.move (fun p => if s ≤ p ∧ p < s + (e - m) then p + m - s else if s + (e - m) ≤ p ∧ p < e then p + m - e else p) (fun p hp => ?_) (fun p hp => ?_) (fun p q hp hq => ?_)
  · repeat' split
    all_goals omega
  · rw [he]; unfold rtR
    repeat' split
    all_goals first | rfl | omega
  · by_cases p1 : s ≤ p ∧ p < s + (e - m)
    · rw [if_pos p1]
      by_cases q1 : s + (e - m) ≤ q ∧ q < e
      · rw [if_neg (by omega), if_pos q1]; right
        rcases h2 with h2 | h2 | h2
        · omega
        · omega
        · have a1 := hB (p + m - s) (e - 1) (by omega) (by omega) (by omega)
          have a2 := hA s (q + m - e) (by omega) (by omega) (by omega)
          omega
      · left
        repeat' split
        all_goals omega
    · rw [if_neg p1]
      left
      repeat' split
      all_goals omega
end Go.Proofs.Yteahcpkaagjkkaa.Sg
namespace Go.Proofs.Yteahcpkaagjkkaa
open Sg
set_option linter.unusedVariables false
set_option linter.unusedSimpArgs false
open Go.ChangeShapes Go.WideShapes Go.ChangeAt Go.RowKit

/-- the bytes below m that come, and how often -/
def sn (n : Nat → Nat) : Nat → List SEl
  | 0 => []
  | m + 1 => if 0 < n m then sn n m ++ [(UInt8.ofNat m, n m)] else sn n m
theorem sn_len (n : Nat → Nat) (m : Nat) : (sn n m).length ≤ m := by
  induction m with
  | zero => exact Nat.le_refl _
  | succ m ih =>
    simp only [sn]
    split
    · rw [List.length_append]; simp; omega
    · omega
theorem sn_mem (n : Nat → Nat) (m : Nat) (hm : m ≤ 256) (x : SEl) : x ∈ sn n m ↔ x.1.toNat < m ∧ 0 < x.2 ∧ x.2 = n x.1.toNat := by
  induction m with
  | zero => simp [sn]
  | succ m ih =>
    have hT : (UInt8.ofNat m).toNat = m := by rw [UInt8.toNat_ofNat']; exact Nat.mod_eq_of_lt (by omega)
    simp only [sn]
    split
    · next h =>
      rw [List.mem_append, ih (by omega), List.mem_singleton]
      constructor
      · rintro (⟨a, b, c⟩ | rfl)
        · exact ⟨by omega, b, c⟩
        · exact ⟨by rw [hT]; omega, h, by rw [hT]⟩
      · rintro ⟨a, b, c⟩
        by_cases e : x.1.toNat = m
        · right
          obtain ⟨x1, x2⟩ := x
          simp only at e c
          rw [e] at c
          rw [Prod.mk.injEq]
          exact ⟨UInt8.toNat_inj.1 (by rw [hT]; exact e), c⟩
        · left; exact ⟨by omega, b, c⟩
    · next h =>
      rw [ih (by omega)]
      constructor
      · rintro ⟨a, b, c⟩; exact ⟨by omega, b, c⟩
      · rintro ⟨a, b, c⟩
        by_cases e : x.1.toNat = m
        · rw [e] at c; omega
        · exact ⟨by omega, b, c⟩
theorem sn_up (n : Nat → Nat) (m : Nat) (hm : m ≤ 256) : (sn n m).Pairwise fun x y => x.1.toNat < y.1.toNat := by
  induction m with
  | zero => simp [sn]
  | succ m ih =>
    simp only [sn]
    split
    · rw [List.pairwise_append]
      refine ⟨ih (by omega), by simp, fun x hx y hy => ?_⟩
      rw [List.mem_singleton] at hy
      subst hy
      have := ((sn_mem n m (by omega) x).1 hx).1
      show _ < (UInt8.ofNat m).toNat
      rw [UInt8.toNat_ofNat', Nat.mod_eq_of_lt (by omega)]; exact this
    · exact ih (by omega)
theorem sn_nodup (n : Nat → Nat) : (sn n 256).Nodup := (sn_up n 256 (Nat.le_refl _)).imp fun h e => by rw [e] at h; omega
/-- those that come more often are less -/
def kcF (x : SEl) : Int := -(x.2 : Int)
/-- of equally many the lesser byte is less -/
def keyF (x : SEl) : Int := (x.1.toNat : Int) - 256 * x.2
theorem kcF_key (x y : SEl) (h : kcF x < kcF y) : keyF x < keyF y := by
  unfold kcF at h; unfold keyF
  have := x.1.toNat_lt
  omega
theorem sn_sta (n : Nat → Nat) (N : Nat) (hN : N = (sn n 256).length) : Sta kcF keyF (sn n 256) N := by
  subst hN
  intro p q h1 h2 h3
  have hu := List.pairwise_iff_getElem.1 (sn_up n 256 (Nat.le_refl _)) p q (by omega) h2 h1
  rw [gn_eq _ _ h2, gn_eq _ _ (show p < (sn n 256).length by omega)] at h3 ⊢
  unfold keyF at h3; unfold kcF
  omega
/-- R is the bytes that come, in order -/
structure Rk (n : Nat → Nat) (R : List SEl) : Prop where
  mem : ∀ x, x ∈ R ↔ 0 < x.2 ∧ x.2 = n x.1.toNat
  up : R.Pairwise fun x y => keyF x < keyF y
theorem keyF_inj (x y : SEl) (h : keyF x = keyF y) : x = y := by
  unfold keyF at h
  have h1 := x.1.toNat_lt
  have h2 := y.1.toNat_lt
  obtain ⟨x1, x2⟩ := x
  obtain ⟨y1, y2⟩ := y
  simp only at h h1 h2
  rw [Prod.mk.injEq]
  exact ⟨UInt8.toNat_inj.1 (by omega), by omega⟩
theorem Rk.of {n : Nat → Nat} {R : List SEl} (hp : R.Perm (sn n 256)) (hs : Srt keyF R 0 R.length) : Rk n R := by
  refine ⟨fun x => ?_, ?_⟩
  · rw [hp.mem_iff, sn_mem n 256 (Nat.le_refl _)]
    have := x.1.toNat_lt
    constructor
    · rintro ⟨_, h⟩; exact h
    · intro h; exact ⟨by omega, h⟩
  · have hn : R.Nodup := hp.nodup_iff.2 (sn_nodup n)
    rw [List.pairwise_iff_getElem]
    intro i j hi hj hij
    have h1 := hs i j (by omega) (by omega) hj
    rw [gn_eq _ _ hi, gn_eq _ _ hj] at h1
    have h2 := List.pairwise_iff_getElem.1 hn i j hi hj hij
    have h3 : keyF R[i] ≠ keyF R[j] := fun e => h2 (keyF_inj _ _ e)
    omega
section
variable {n : Nat → Nat} {R : List SEl}
theorem bk_in (n : Nat → Nat) (l : List UInt8) (m : Nat) (h : 0 ≤ bk n l m) : 0 < n (bk n l m).toNat ∧ inL l (bk n l m).toNat = false ∧ (bk n l m).toNat < m := by
  induction m with
  | zero => simp [bk] at h
  | succ m ih =>
    simp only [bk] at h ⊢
    split
    · next c => exact ⟨by simpa using c.1, by simpa using c.2.1, by simp⟩
    · next c =>
      rw [if_neg c] at h
      have := ih h
      exact ⟨this.1, this.2.1, by omega⟩
theorem bk_is (n : Nat → Nat) (l : List UInt8) (m k : Nat) (hk : k < m) (h0 : 0 < n k) (hl : inL l k = false) (hm : ∀ x, x < m → 0 < n x → inL l x = false → n x < n k ∨ (n x = n k ∧ k ≤ x)) : bk n l m = k := by
  induction m with
  | zero => omega
  | succ m ih =>
    simp only [bk]
    by_cases e : k = m
    · subst e
      rw [if_pos]
      refine ⟨h0, hl, ?_⟩
      by_cases hb : bk n l k < 0
      · exact .inl hb
      · right
        obtain ⟨a, b, c⟩ := bk_in n l k (by omega)
        have := hm _ (by omega) a b
        omega
    · rw [ih (by omega) fun x hx => hm x (by omega), if_neg]
      rintro ⟨a, b, c⟩
      have := hm m (by omega) a b
      simp only [Int.toNat_natCast] at c
      omega
theorem bk_no (n : Nat → Nat) (l : List UInt8) (m : Nat) (h : ∀ x, x < m → 0 < n x → inL l x = true) : bk n l m = -1 := by
  induction m with
  | zero => rfl
  | succ m ih =>
    simp only [bk]
    rw [ih fun x hx => h x (by omega), if_neg]
    rintro ⟨a, b, _⟩
    rw [h m (by omega) a] at b
    cases b
theorem inL_iff (l : List UInt8) (c : Nat) : inL l c = true ↔ ∃ x ∈ l, x.toNat = c := by
  unfold inL; simp
theorem Rk.top (h : Rk n R) (i : Nat) : topF n i = (R.take i).map (·.1) := by
  induction i with
  | zero => simp [topF]
  | succ i ih =>
    simp only [topF, ih]
    by_cases hi : i < R.length
    · have hR := (h.mem R[i]).1 (List.getElem_mem hi)
      have hb : bk n ((R.take i).map (·.1)) 256 = (R[i].1.toNat : Nat) := by
        refine bk_is _ _ _ _ (by have := R[i].1.toNat_lt; omega) (by rw [← hR.2]; exact hR.1) ?_ ?_
        · rw [Bool.eq_false_iff, ne_eq, inL_iff]
          rintro ⟨c, hc, he⟩
          obtain ⟨y, hy, rfl⟩ := List.mem_map.1 hc
          obtain ⟨j, hj, rfl⟩ := List.getElem_of_mem hy
          rw [List.getElem_take] at he
          rw [List.length_take] at hj
          have hlt := List.pairwise_iff_getElem.1 h.up j i (by omega) hi (by omega)
          have h2 := ((h.mem R[j]).1 (List.getElem_mem _)).2
          have h3 := hR.2
          unfold keyF at hlt
          rw [h2, h3, he] at hlt
          omega
        · intro x hx h0 hl
          have hT : (UInt8.ofNat x).toNat = x := by rw [UInt8.toNat_ofNat']; exact Nat.mod_eq_of_lt (by omega)
          have hm : (UInt8.ofNat x, n x) ∈ R := (h.mem _).2 ⟨h0, by rw [hT]⟩
          obtain ⟨q, hq, he⟩ := List.getElem_of_mem hm
          have hqi : i ≤ q := by
            apply Decidable.byContradiction
            intro hlt
            have : inL ((R.take i).map (·.1)) x = true := by
              rw [inL_iff]
              refine ⟨UInt8.ofNat x, List.mem_map.2 ⟨R[q], ?_, by rw [he]⟩, hT⟩
              rw [List.mem_iff_getElem]
              exact ⟨q, by rw [List.length_take]; omega, by rw [List.getElem_take]⟩
            rw [this] at hl; cases hl
          have hkey : keyF R[i] ≤ keyF R[q] := by
            by_cases e : i = q
            · subst e; exact Int.le_refl _
            · exact Int.le_of_lt (List.pairwise_iff_getElem.1 h.up i q hi hq (by omega))
          rw [he] at hkey
          unfold keyF at hkey
          simp only [hT] at hkey
          have := hR.2
          have := R[i].1.toNat_lt
          rw [← hR.2]
          omega
      rw [hb, if_pos (by omega), List.take_succ_eq_append_getElem hi, List.map_append]
      simp
    · have e1 : R.take i = R := List.take_of_length_le (by omega)
      have e2 : R.take (i + 1) = R := List.take_of_length_le (by omega)
      rw [e1, e2, bk_no _ _ _ fun x hx h0 => ?_, if_neg (by decide)]
      have hT : (UInt8.ofNat x).toNat = x := by rw [UInt8.toNat_ofNat']; exact Nat.mod_eq_of_lt (by omega)
      rw [inL_iff]
      exact ⟨UInt8.ofNat x, List.mem_map.2 ⟨(UInt8.ofNat x, n x), (h.mem _).2 ⟨h0, by rw [hT]⟩, rfl⟩, hT⟩
/-- how often the first j come -/
def am (R : List SEl) (j : Nat) : Nat := ((R.take j).map (·.2)).sum
theorem am_zero (R : List SEl) : am R 0 = 0 := by simp [am]
theorem am_succ (R : List SEl) (j : Nat) (h : j < R.length) : am R (j + 1) = am R j + (gn R j).2 := by
  unfold am
  rw [List.take_succ_eq_append_getElem h, List.map_append, List.sum_append, gn_eq _ _ h]; simp
theorem sm_in (n : Nat → Nat) (l : List UInt8) (hl : l.Nodup) : sm (fun x => if inL l x = true then n x else 0) 256 = (l.map fun c => n c.toNat).sum := by
  induction l with
  | nil => rw [sm_eq _ (fun _ => 0) 256 (fun x _ => by simp [inL]), sm_zero]; rfl
  | cons a t ih =>
    rw [List.nodup_cons] at hl
    rw [sm_eq _ (fun x => (if x = a.toNat then n x else 0) + if inL t x = true then n x else 0) 256 (fun x _ => ?_), sm_add, ih hl.2, sm_one _ a.toNat 256 (by have := a.toNat_lt; omega) (fun i hi => if_neg hi), if_pos rfl]
    · simp
    · by_cases e : x = a.toNat
      · subst e
        have h1 : inL (a :: t) a.toNat = true := (inL_iff _ _).2 ⟨a, by simp, rfl⟩
        have h2 : inL t a.toNat = false := by rw [inL_mem]; simpa using hl.1
        simp only [h1, h2]; simp
      · have h1 : inL (a :: t) x = inL t x := by
          unfold inL
          rw [List.any_cons, show (a.toNat == x) = false from by simpa using fun h => e h.symm, Bool.false_or]
        simp only [h1, if_neg e]; omega
theorem Rk.fst_nodup (h : Rk n R) (j : Nat) : ((R.take j).map (·.1)).Nodup := by
  have hu : (R.take j).Pairwise fun x y => keyF x < keyF y := h.up.sublist (List.take_sublist _ _)
  rw [List.Nodup, List.pairwise_map]
  refine List.Pairwise.imp_of_mem ?_ hu
  intro x y hx hy hlt he
  have h1 := ((h.mem x).1 (List.mem_of_mem_take hx)).2
  have h2 := ((h.mem y).1 (List.mem_of_mem_take hy)).2
  unfold keyF at hlt
  rw [h1, h2, he] at hlt
  omega
theorem Rk.am (h : Rk n R) (j : Nat) : sm (fun x => if inL ((R.take j).map (·.1)) x = true then n x else 0) 256 = Yteahcpkaagjkkaa.am R j := by
  rw [sm_in n _ (h.fst_nodup j), List.map_map]
  unfold Yteahcpkaagjkkaa.am
  congr 1
  refine List.map_congr_left fun x hx => ?_
  exact ((h.mem x).1 (List.mem_of_mem_take hx)).2.symm
theorem Rk.all (h : Rk n R) : sm n 256 = Yteahcpkaagjkkaa.am R R.length := by
  rw [← h.am]
  refine sm_eq _ _ _ fun x hx => ?_
  rw [List.take_of_length_le (Nat.le_refl _)]
  by_cases h0 : 0 < n x
  · have hT : (UInt8.ofNat x).toNat = x := by rw [UInt8.toNat_ofNat']; exact Nat.mod_eq_of_lt (by omega)
    rw [if_pos]
    rw [inL_iff]
    exact ⟨UInt8.ofNat x, List.mem_map.2 ⟨(UInt8.ofNat x, n x), (h.mem _).2 ⟨h0, by rw [hT]⟩, rfl⟩, hT⟩
  · split <;> omega
theorem Rk.am_le (h : Rk n R) (j : Nat) : Yteahcpkaagjkkaa.am R j ≤ Yteahcpkaagjkkaa.am R R.length := by
  rw [← h.all, ← h.am]
  refine sm_le _ _ _ fun x _ => ?_
  split <;> omega
theorem Rk.cost0 (h : Rk n R) : cst n [] 256 = 8 * Yteahcpkaagjkkaa.am R R.length := by
  rw [cst_sm, ← h.all, sm_eq _ (fun x => 8 * n x) 256 (fun x _ => by unfold pl; simp; omega)]
  have : ∀ m, sm (fun x => 8 * n x) m = 8 * sm n m := by
    intro m
    induction m with
    | zero => rfl
    | succ m ih => simp only [sm, ih]; omega
  rw [this]; simp
theorem Rk.cost (h : Rk n R) (j : Nat) (hj : 0 < j) (hl : j ≤ R.length) :
    cst n ((R.take j).map (·.1)) 256 = 8 * j + Yteahcpkaagjkkaa.am R R.length + Yteahcpkaagjkkaa.am R j * widthN j + (Yteahcpkaagjkkaa.am R R.length - Yteahcpkaagjkkaa.am R j) * 8 := by
  have hlen : ((R.take j).map (·.1)).length = j := by rw [List.length_map, List.length_take]; omega
  rw [cst_sm, hlen]
  have hA := h.am j
  have hB := h.all
  have hC := h.am_le j
  generalize (R.take j).map (·.1) = l at hlen hA ⊢
  have key : ∀ m, sm (fun x => n x * pl l x) m + 8 * sm (fun x => if inL l x = true then n x else 0) m = 9 * sm n m + widthN j * sm (fun x => if inL l x = true then n x else 0) m := by
    intro m
    induction m with
    | zero => simp [sm]
    | succ m ih =>
      simp only [sm]
      have : n m * pl l m + 8 * (if inL l m = true then n m else 0) = 9 * n m + widthN j * (if inL l m = true then n m else 0) := by
        unfold pl
        rw [if_neg (by omega), hlen]
        split
        · rw [Nat.mul_add, Nat.mul_comm (widthN j)]; omega
        · omega
      rw [Nat.mul_add, Nat.mul_add, Nat.mul_add]
      omega
  have hk := key 256
  rw [hA, hB] at hk
  rw [Nat.mul_comm (Yteahcpkaagjkkaa.am R j)]
  omega
/-- the best of the first 32 -/
def bestR (n : Nat → Nat) (R : List SEl) (i : Nat) : Nat := bl n (topF n 32) i
theorem Rk.take (h : Rk n R) (j : Nat) (hj : j ≤ 32) : (topF n 32).take j = (R.take j).map (·.1) := by
  rw [h.top, ← List.map_take, List.take_take, Nat.min_eq_left hj]
theorem Rk.topLen (h : Rk n R) : (topF n 32).length = min 32 R.length := by rw [h.top, List.length_map, List.length_take]
theorem Rk.one (h : Rk n R) : oneN n = (R.take (bestR n R (min 32 R.length))).map (·.1) := by
  unfold oneN bestR
  rw [h.topLen]
  exact h.take _ (Nat.le_trans (bl_le n _ _) (Nat.min_le_left _ _))
end
end Go.Proofs.Yteahcpkaagjkkaa
namespace Go.Proofs.Yteahcpkaagjkkaa.Sg
set_option linter.unusedVariables false
set_option linter.unusedSimpArgs false
open Go.ChangeShapes Go.WideShapes Go.ChangeAt Go.RowKit

set_option maxRecDepth 100000 in
set_option maxHeartbeats 8000000 in
theorem symmerge_one {w0 : World} {g n cap : Nat} {z0 : List SEl} (fc : Nat) (cb : Array Value) (Pd : SEl → Prop) (kc key : SEl → Int) (hkc : ∀ x y, kc x < kc y → key x < key y) (hC : CmpG fc cb Pd kc w0 g) (hP : ∀ z ∈ z0, Pd z) (hn : n < 4611686018427387904)
    (w : World) (zs : List SEl) (a b : Nat) (hab : a + 1 < b) (hb : b ≤ n) (S : SSg w0 g n cap z0 w zs) (T : Sta kc key zs n) (hs : Srt key zs (a + 1) b) :
    Calls Try.prog 116 #[.slice (some ⟨g, 0, none⟩) n cap, .int .i64 a, .int .i64 ((a + 1 : Nat) : Int), .int .i64 b, .func (.func fc) #[] cb] w fun e w' => e = .returned (.tuple #[]) ∧ ∃ zs', SSg w0 g n cap z0 w' zs' ∧ Sta kc key zs' n ∧ Mg key zs zs' a b := by
  have eg := hC.1
  have HC := Lib.hid hC.2
  have HP := Lib.hid hP
  have S0 := Lib.hid S
  have T0 := Lib.hid T
  have HK := Lib.hid hkc
  have HSR := Lib.hid hs
  obtain ⟨m, hm⟩ : ∃ m, m = a + 1 := ⟨_, rfl⟩
  have r0 : IntKind.i64.wrap ((m : Int) - (a : Int)) = 1 := by rw [IntKind.wrap_i64]; omega
  have hma : a < m := by omega
  have hma2 : m ≤ a + 1 := by omega
  rw [← hm] at HSR ⊢
  clear S hC hP hs hm T hkc
  go_enter Try.func116, Try.ntmps116
  go_wp2_with fail
  go_loopw [10, 11] (fun x y wr => ∃ (i j : Nat), m ≤ i ∧ i ≤ j ∧ j ≤ b ∧ x = .int .i64 i ∧ y = .int .i64 j ∧ Hid (SSg w0 g n cap z0 wr zs) ∧ Hid (∀ p, m ≤ p → p < i → key (gn zs p) < key (gn zs a)) ∧ Hid (∀ p, j ≤ p → p < b → key (gn zs a) ≤ key (gn zs p))) (fun x y _ => (intOf y).toNat - (intOf x).toNat)
  case atStart => exact ⟨m, b, by omega, by omega, by omega, rfl, rfl, S0.out, fun p h1 h2 => by omega, fun p h1 h2 => by omega⟩
  case round =>
    clear S0
    obtain ⟨i, j, hmi, hij, hjb, rfl, rfl, S0, HL, HG⟩ := hrel
    by_cases hlt : i < j
    · have hltz : (i : Int) < (j : Int) := by omega
      obtain ⟨h, hh⟩ : ∃ h, h = (i + j) / 2 := ⟨_, rfl⟩
      have hh1 : i ≤ h := by omega
      have hh2 : h < j := by omega
      have hh3 : ((i : Int) + (j : Int)) / 2 = (h : Int) := by omega
      have hhn : (h : Int) < (n : Int) := by omega
      have han : (a : Int) < (n : Int) := by omega
      have c1 := fun (k : Kept wr) => (S0.out.to k.h).c0 h (by omega)
      have c1b := fun (k : Kept wr) => (S0.out.to k.h).c1 h (by omega)
      have c2 := fun (k : Kept wr) => (S0.out.to k.h).c0 a (by omega)
      have c2b := fun (k : Kept wr) => (S0.out.to k.h).c1 a (by omega)
      have hcm := fun (k : Kept wr) => HC.out k.x (S0.out.keep.trans k.h (by simp)) _ _ (S0.out.pd HP.out h (by omega)) (S0.out.pd HP.out a (by omega))
      have hks : key (gn zs h) < key (gn zs a) ↔ kc (gn zs h) < kc (gn zs a) := ⟨fun h => T0.out _ _ (by omega) (by omega) h, fun h => HK.out _ _ h⟩
      have HW : Hid (∀ w', Keep [] wr w' → SSg w0 g n cap z0 w' zs) := fun w' k => S0.out.to k
      clear hh
      by_cases hlv : key (gn zs h) < key (gn zs a)
      · have hd := cmpK_lt _ _ (hks.1 hlv)
        have HL2 : Hid (∀ p, m ≤ p → p < h + 1 → key (gn zs p) < key (gn zs a)) := fun p h1 h2 => by
          have := HSR.out p h h1 (by omega) (by omega); omega
        generalize cmpK (kc (gn zs h)) (kc (gn zs a)) = cc at hcm hd
        simp only [eA, eB] at c1 c1b c2 c2b hcm
        have HCM := Lib.hid hcm
        clear hcm HL hlv hks
        go_wp2_with fail
        refine wp_region_kept (by kernel_rfl) (by kernel_rfl) ?_
        repeat (quiet_step (first | (go_at_fn fc; with_reducible exact kept_of (HCM.out _))))
        refine wpQuiet_nil ?_
        intro _ hw'
        obtain ⟨p, hw''⟩ := hw'
        subst hw''
        have S1 := Lib.hid (HW.out p.x p.h)
        clear HCM c1 c1b c2 c2b HW S0
        generalize p.x = w2 at *
        go_wp2_with fail
        go_roundw
        case rel => exact ⟨h + 1, j, by omega, by omega, by omega, by go_num, rfl, S1, HL2, HG⟩
        case measure => simp [intOf]; omega
      · have hd := cmpK_ge _ _ (fun h => hlv (hks.2 h))
        have HG2 : Hid (∀ p, h ≤ p → p < b → key (gn zs a) ≤ key (gn zs p)) := fun p h1 h2 => by
          have := HSR.out h p (by omega) h1 h2; omega
        generalize cmpK (kc (gn zs h)) (kc (gn zs a)) = cc at hcm hd
        simp only [eA, eB] at c1 c1b c2 c2b hcm
        have HCM := Lib.hid hcm
        clear hcm HG hlv hks
        go_wp2_with fail
        refine wp_region_kept (by kernel_rfl) (by kernel_rfl) ?_
        repeat (quiet_step (first | (go_at_fn fc; with_reducible exact kept_of (HCM.out _))))
        refine wpQuiet_nil ?_
        intro _ hw'
        obtain ⟨p, hw''⟩ := hw'
        subst hw''
        have S1 := Lib.hid (HW.out p.x p.h)
        clear HCM c1 c1b c2 c2b HW S0
        generalize p.x = w2 at *
        go_wp2_with fail
        go_roundw
        case rel => exact ⟨i, h, by omega, by omega, by omega, rfl, rfl, S1, HL, HG2⟩
        case measure => simp [intOf]; omega
    · obtain rfl : i = j := by omega
      obtain ⟨t, ht⟩ : ∃ t, t = i - 1 := ⟨_, rfl⟩
      have rt : IntKind.i64.wrap ((i : Int) - 1) = (t : Int) := by rw [IntKind.wrap_i64]; omega
      have hat : a ≤ t := by omega
      have htb : t < b := by omega
      have HMG : Hid (∀ z2, (∀ p, gn z2 p = shL (gn zs) a t p) → Mg key zs z2 a b) := fun z2 h => shL_mg (i := i) (by omega) (by omega) (by rw [show a + 1 = m by omega]; exact HSR.out) (by rw [show a + 1 = m by omega]; exact HL.out) HG.out (by rw [← ht]; exact h)
      have HTG : Hid (∀ z2, (∀ p, gn z2 p = shL (gn zs) a t p) → Sta kc key z2 n) := fun z2 h => T0.out.shL (a := a) (i := i) (b := b) (by omega) (by omega) hb (by rw [show a + 1 = m by omega]; exact HL.out) (by rw [← ht]; exact h)
      clear HL HG ht
      go_wp2_with fail
      go_loopw [13] (fun x wr => ∃ (k : Nat) (zk : List SEl), a ≤ k ∧ k ≤ t ∧ x = .int .i64 k ∧ Hid (SSg w0 g n cap z0 wr zk) ∧ Hid (∀ p, gn zk p = shL (gn zs) a k p)) (fun x _ => t - (intOf x).toNat)
      case atStart => exact ⟨a, zs, by omega, by omega, rfl, S0.out, shL_zero _ a⟩
      case round =>
        clear S0
        obtain ⟨k, zk, hak, hkt, rfl, HS, HE⟩ := hrel
        by_cases hltk : k < t
        · have hltz : (k : Int) < (t : Int) := by omega
          have e2 : (0 : Int) ≤ (k : Int) + 1 := by omega
          have e3 : (k : Int) + 1 < (n : Int) := by omega
          have e4 : IntKind.i64.wrap ((k : Int) + 1) = (k : Int) + 1 := by rw [IntKind.wrap_i64]; omega
          have e5 : (k : Int) < (n : Int) := by omega
          have hij : k ≠ (k + 1) := by omega
          have c1 := HS.out.c0 k (by omega)
          have c1b := HS.out.c1 k (by omega)
          have c2 := HS.out.c0 (k + 1) (by omega)
          have c2b := HS.out.c1 (k + 1) (by omega)
          have f1 := HS.out.free (k * 2)
          have f1b := HS.out.free (k * 2 + 1)
          have f2 := HS.out.free ((k + 1) * 2)
          have f2b := HS.out.free ((k + 1) * 2 + 1)
          have c3 := HS.out.d0 k (k + 1) (by omega) hij (gn zk (k + 1))
          have c3b := HS.out.d1 k (k + 1) (by omega) hij (gn zk (k + 1))
          have c4 := HS.out.e1 k (by omega) (eA (gn zk (k + 1)))
          have c5 := HS.out.e2 k (k + 1) (by omega) hij (gn zk (k + 1)) (eA (gn zk k))
          have HX := Lib.hid ((HS.out.gxc k (k + 1) (by omega) (by omega)).drew)
          have HE2 : Hid (∀ p, gn (gxc zk k (k + 1)) p = shL (gn zs) a (k + 1) p) := by
            exact shL_step zk _ a k hak (by rw [HS.out.len]; omega) HE.out
          unfold stE at c3 c3b c5 HX
          obtain ⟨x, hx⟩ : ∃ x, gn zk k = x := ⟨_, rfl⟩
          obtain ⟨y, hy⟩ : ∃ y, gn zk (k + 1) = y := ⟨_, rfl⟩
          rw [hx] at c1 c1b c4 c5 HX
          rw [hy] at c2 c2b c3 c3b c4 c5 HX
          clear hx hy
          simp only [eA, eB] at c1 c1b c2 c2b c3 c3b c4 c5 HX
          generalize gxc zk k (k + 1) = z1 at HX HE2
          clear HS HE
          go_wp2_with fail
          go_region
          go_wp2_with fail
          go_roundw
          case rel => exact ⟨k + 1, z1, by omega, by omega, by go_num, HX, HE2⟩
          case measure => simp [intOf]; omega
        · obtain rfl : k = t := by omega
          go_wp2_with fail
          refine bodyPost_ret (results_none rfl _ _ _) rfl ?_
          exact ⟨rfl, zk, HS.out, HTG.out zk HE.out, HMG.out zk HE.out⟩
set_option maxRecDepth 100000 in
set_option maxHeartbeats 8000000 in
theorem symmerge_last {w0 : World} {g n cap : Nat} {z0 : List SEl} (fc : Nat) (cb : Array Value) (Pd : SEl → Prop) (kc key : SEl → Int) (hkc : ∀ x y, kc x < kc y → key x < key y) (hC : CmpG fc cb Pd kc w0 g) (hP : ∀ z ∈ z0, Pd z) (hn : n < 4611686018427387904)
    (w : World) (zs : List SEl) (a m : Nat) (hab : a + 1 < m) (hb : m + 1 ≤ n) (S : SSg w0 g n cap z0 w zs) (T : Sta kc key zs n) (hs : Srt key zs a m) :
    Calls Try.prog 116 #[.slice (some ⟨g, 0, none⟩) n cap, .int .i64 a, .int .i64 m, .int .i64 ((m + 1 : Nat) : Int), .func (.func fc) #[] cb] w fun e w' => e = .returned (.tuple #[]) ∧ ∃ zs', SSg w0 g n cap z0 w' zs' ∧ Sta kc key zs' n ∧ Mg key zs zs' a (m + 1) := by
  have eg := hC.1
  have HC := Lib.hid hC.2
  have HP := Lib.hid hP
  have S0 := Lib.hid S
  have T0 := Lib.hid T
  have HK := Lib.hid hkc
  have HSR := Lib.hid hs
  obtain ⟨b, hm⟩ : ∃ b, b = m + 1 := ⟨_, rfl⟩
  have r0 : IntKind.i64.wrap ((m : Int) - (a : Int)) = (m : Int) - (a : Int) := by rw [IntKind.wrap_i64]; omega
  have r00 : ((m : Int) - (a : Int) == 1) = false := by rw [beq_eq_false_iff_ne]; omega
  have r1 : IntKind.i64.wrap ((b : Int) - (m : Int)) = 1 := by rw [IntKind.wrap_i64]; omega
  have hma : m < b := by omega
  have hma2 : b ≤ m + 1 := by omega
  have hmn : (m : Int) < (n : Int) := by omega
  rw [← hm]
  clear S hC hP hs hm T hkc
  go_enter Try.func116, Try.ntmps116
  go_wp2_with fail
  go_loopw [14, 15] (fun x y wr => ∃ (i j : Nat), a ≤ i ∧ i ≤ j ∧ j ≤ m ∧ x = .int .i64 i ∧ y = .int .i64 j ∧ Hid (SSg w0 g n cap z0 wr zs) ∧ Hid (∀ p, a ≤ p → p < i → key (gn zs p) ≤ key (gn zs m)) ∧ Hid (∀ p, j ≤ p → p < m → key (gn zs m) < key (gn zs p))) (fun x y _ => (intOf y).toNat - (intOf x).toNat)
  case atStart => exact ⟨a, m, by omega, by omega, by omega, rfl, rfl, S0.out, fun p h1 h2 => by omega, fun p h1 h2 => by omega⟩
  case round =>
    clear S0
    obtain ⟨i, j, hmi, hij, hjb, rfl, rfl, S0, HL, HG⟩ := hrel
    by_cases hlt : i < j
    · have hltz : (i : Int) < (j : Int) := by omega
      obtain ⟨h, hh⟩ : ∃ h, h = (i + j) / 2 := ⟨_, rfl⟩
      have hh1 : i ≤ h := by omega
      have hh2 : h < j := by omega
      have hh3 : ((i : Int) + (j : Int)) / 2 = (h : Int) := by omega
      have hhn : (h : Int) < (n : Int) := by omega
      have c1 := fun (k : Kept wr) => (S0.out.to k.h).c0 h (by omega)
      have c1b := fun (k : Kept wr) => (S0.out.to k.h).c1 h (by omega)
      have c2 := fun (k : Kept wr) => (S0.out.to k.h).c0 m (by omega)
      have c2b := fun (k : Kept wr) => (S0.out.to k.h).c1 m (by omega)
      have hcm := fun (k : Kept wr) => HC.out k.x (S0.out.keep.trans k.h (by simp)) _ _ (S0.out.pd HP.out m (by omega)) (S0.out.pd HP.out h (by omega))
      have hks : key (gn zs m) < key (gn zs h) ↔ kc (gn zs m) < kc (gn zs h) := ⟨fun h => T0.out _ _ (by omega) (by omega) h, fun h => HK.out _ _ h⟩
      have HW : Hid (∀ w', Keep [] wr w' → SSg w0 g n cap z0 w' zs) := fun w' k => S0.out.to k
      clear hh
      by_cases hlv : ¬ key (gn zs m) < key (gn zs h)
      · have hd := cmpK_ge _ _ (fun h => hlv (hks.2 h))
        have HL2 : Hid (∀ p, a ≤ p → p < h + 1 → key (gn zs p) ≤ key (gn zs m)) := fun p h1 h2 => by
          have := HSR.out p h h1 (by omega) (by omega); omega
        generalize cmpK (kc (gn zs m)) (kc (gn zs h)) = cc at hcm hd
        simp only [eA, eB] at c1 c1b c2 c2b hcm
        have HCM := Lib.hid hcm
        clear hcm HL hlv hks
        go_wp2_with fail
        refine wp_region_kept (by kernel_rfl) (by kernel_rfl) ?_
        repeat (quiet_step (first | (go_at_fn fc; with_reducible exact kept_of (HCM.out _))))
        refine wpQuiet_nil ?_
        intro _ hw'
        obtain ⟨p, hw''⟩ := hw'
        subst hw''
        have S1 := Lib.hid (HW.out p.x p.h)
        clear HCM c1 c1b c2 c2b HW S0
        generalize p.x = w2 at *
        go_wp2_with fail
        go_roundw
        case rel => exact ⟨h + 1, j, by omega, by omega, by omega, by go_num, rfl, S1, HL2, HG⟩
        case measure => simp [intOf]; omega
      · have hd := cmpK_lt _ _ (hks.1 (Decidable.not_not.1 hlv))
        have HG2 : Hid (∀ p, h ≤ p → p < m → key (gn zs m) < key (gn zs p)) := fun p h1 h2 => by
          have hlv2 := Decidable.not_not.1 hlv
          have := HSR.out h p (by omega) h1 h2; omega
        generalize cmpK (kc (gn zs m)) (kc (gn zs h)) = cc at hcm hd
        simp only [eA, eB] at c1 c1b c2 c2b hcm
        have HCM := Lib.hid hcm
        clear hcm HG hlv hks
        go_wp2_with fail
        refine wp_region_kept (by kernel_rfl) (by kernel_rfl) ?_
        repeat (quiet_step (first | (go_at_fn fc; with_reducible exact kept_of (HCM.out _))))
        refine wpQuiet_nil ?_
        intro _ hw'
        obtain ⟨p, hw''⟩ := hw'
        subst hw''
        have S1 := Lib.hid (HW.out p.x p.h)
        clear HCM c1 c1b c2 c2b HW S0
        generalize p.x = w2 at *
        go_wp2_with fail
        go_roundw
        case rel => exact ⟨i, h, by omega, by omega, by omega, rfl, rfl, S1, HL, HG2⟩
        case measure => simp [intOf]; omega
    · obtain rfl : i = j := by omega
      have HMG : Hid (∀ z2, (∀ p, gn z2 p = shR (gn zs) m i p) → Mg key zs z2 a b) := fun z2 h => by
        rw [show b = m + 1 by omega]
        exact shR_mg (i := i) (by omega) (by omega) HSR.out HL.out HG.out h
      have HTG : Hid (∀ z2, (∀ p, gn z2 p = shR (gn zs) m i p) → Sta kc key z2 n) := fun z2 h => T0.out.shR (i := i) (a := a) (m := m) (by omega) (by omega) (by omega) HG.out h
      clear HL HG
      go_wp2_with fail
      go_loopw [17] (fun x wr => ∃ (k : Nat) (zk : List SEl), i ≤ k ∧ k ≤ m ∧ x = .int .i64 k ∧ Hid (SSg w0 g n cap z0 wr zk) ∧ Hid (∀ p, gn zk p = shR (gn zs) m k p)) (fun x _ => (intOf x).toNat)
      case atStart => exact ⟨m, zs, by omega, by omega, rfl, S0.out, shR_zero _ m⟩
      case round =>
        clear S0
        obtain ⟨k, zk, hak, hkt, rfl, HS, HE⟩ := hrel
        by_cases hltk : i < k
        · have hltz : (i : Int) < (k : Int) := by omega
          obtain ⟨kp, hkp⟩ : ∃ q, q = k - 1 := ⟨_, rfl⟩
          have hkp1 : kp < k := by omega
          have hkp2 : i ≤ kp := by omega
          have e4 : IntKind.i64.wrap ((k : Int) - 1) = (kp : Int) := by rw [IntKind.wrap_i64]; omega
          have e5 : (k : Int) < (n : Int) := by omega
          have e6 : (kp : Int) < (n : Int) := by omega
          have hij : k ≠ kp := by omega
          have c1 := HS.out.c0 k (by omega)
          have c1b := HS.out.c1 k (by omega)
          have c2 := HS.out.c0 kp (by omega)
          have c2b := HS.out.c1 kp (by omega)
          have f1 := HS.out.free (k * 2)
          have f1b := HS.out.free (k * 2 + 1)
          have f2 := HS.out.free (kp * 2)
          have f2b := HS.out.free (kp * 2 + 1)
          have c3 := HS.out.d0 k kp (by omega) hij (gn zk kp)
          have c3b := HS.out.d1 k kp (by omega) hij (gn zk kp)
          have c4 := HS.out.e1 k (by omega) (eA (gn zk kp))
          have c5 := HS.out.e2 k kp (by omega) hij (gn zk kp) (eA (gn zk k))
          have HX := Lib.hid ((HS.out.gxc k kp (by omega) (by omega)).drew)
          have HE2 : Hid (∀ p, gn (gxc zk k kp) p = shR (gn zs) m kp p) := by
            rw [hkp]; exact shR_step zk _ m k (by omega) (by omega) (by rw [HS.out.len]; omega) HE.out
          unfold stE at c3 c3b c5 HX
          obtain ⟨x, hx⟩ : ∃ x, gn zk k = x := ⟨_, rfl⟩
          obtain ⟨y, hy⟩ : ∃ y, gn zk kp = y := ⟨_, rfl⟩
          rw [hx] at c1 c1b c4 c5 HX
          rw [hy] at c2 c2b c3 c3b c4 c5 HX
          clear hx hy
          simp only [eA, eB] at c1 c1b c2 c2b c3 c3b c4 c5 HX
          generalize gxc zk k kp = z1 at HX HE2
          clear HS HE hkp
          go_wp2_with fail
          go_region
          go_wp2_with fail
          go_roundw
          case rel => exact ⟨kp, z1, by omega, by omega, rfl, HX, HE2⟩
          case measure => simp [intOf]; omega
        · obtain rfl : k = i := by omega
          go_wp2_with fail
          refine bodyPost_ret (results_none rfl _ _ _) rfl ?_
          exact ⟨rfl, zk, HS.out, HTG.out zk HE.out, HMG.out zk HE.out⟩
end Go.Proofs.Yteahcpkaagjkkaa.Sg
namespace Go.Proofs.Yteahcpkaagjkkaa.Sg
set_option linter.unusedVariables false
set_option linter.unusedSimpArgs false
open Go.ChangeShapes Go.WideShapes Go.ChangeAt Go.RowKit

/-- the state of a sort, in whose row the order says what key says more than kc -/
def STg (kc key : SEl → Int) (w0 : World) (g n cap : Nat) (z0 : List SEl) (w : World) (zs : List SEl) : Prop := SSg w0 g n cap z0 w zs ∧ Sta kc key zs n
set_option maxRecDepth 1000000 in
set_option maxHeartbeats 8000000 in
theorem symmerge_gen {w0 : World} {g n cap : Nat} {z0 : List SEl} (fc : Nat) (cb : Array Value) (Pd : SEl → Prop) (kc key : SEl → Int) (hkc : ∀ x y, kc x < kc y → key x < key y) (hC : CmpG fc cb Pd kc w0 g) (hP : ∀ z ∈ z0, Pd z) (hn : n < 4611686018427387904)
    (w : World) (zs : List SEl) (a m b : Nat) (ham : a + 1 < m) (hmb : m + 1 < b) (hb : b ≤ n) (S : STg kc key w0 g n cap z0 w zs) (hA : Srt key zs a m) (hB : Srt key zs m b)
    (ih : ∀ (w : World) (zs : List SEl) (a' m' b' : Nat), b' - a' < b - a → a' < m' → m' < b' → b' ≤ n → STg kc key w0 g n cap z0 w zs → Srt key zs a' m' → Srt key zs m' b' →
      Calls Try.prog 116 #[.slice (some ⟨g, 0, none⟩) n cap, .int .i64 a', .int .i64 m', .int .i64 b', .func (.func fc) #[] cb] w fun e w' => e = .returned (.tuple #[]) ∧ ∃ zs', STg kc key w0 g n cap z0 w' zs' ∧ Mg key zs zs' a' b') :
    Calls Try.prog 116 #[.slice (some ⟨g, 0, none⟩) n cap, .int .i64 a, .int .i64 m, .int .i64 b, .func (.func fc) #[] cb] w fun e w' => e = .returned (.tuple #[]) ∧ ∃ zs', STg kc key w0 g n cap z0 w' zs' ∧ Mg key zs zs' a b := by
  have eg := hC.1
  have HC := Lib.hid hC.2
  have HP := Lib.hid hP
  have HK := Lib.hid hkc
  have S0 := Lib.hid S
  have HA := Lib.hid hA
  have HB := Lib.hid hB
  have IH := Lib.hid ih
  have HR := Lib.hid (fun (w : World) zs a' m' b' h1 h2 h3 S => rotate_c (w0 := w0) (g := g) (n := n) (cap := cap) (z0 := z0) (.func (.func fc) #[] cb) w zs a' m' b' h1 h2 h3 hn S)
  obtain ⟨mid, hmid⟩ : ∃ x, x = (a + b) / 2 := ⟨_, rfl⟩
  obtain ⟨N, hN⟩ : ∃ x, x = mid + m := ⟨_, rfl⟩
  have r0 : IntKind.i64.wrap ((m : Int) - (a : Int)) = (m : Int) - (a : Int) := by rw [IntKind.wrap_i64]; omega
  have r00 : ((m : Int) - (a : Int) == 1) = false := by rw [beq_eq_false_iff_ne]; omega
  have r1 : IntKind.i64.wrap ((b : Int) - (m : Int)) = (b : Int) - (m : Int) := by rw [IntKind.wrap_i64]; omega
  have r11 : ((b : Int) - (m : Int) == 1) = false := by rw [beq_eq_false_iff_ne]; omega
  have r2 : ((a : Int) + (b : Int)) / 2 = (mid : Int) := by omega
  have s1 : (0 : Int) ≤ (a : Int) + (b : Int) := by omega
  have s2 : (a : Int) + (b : Int) < 9223372036854775808 := by omega
  have s3 : a < m := by omega
  have s4 : m < b := by omega
  have r3 : IntKind.i64.wrap ((mid : Int) + (m : Int)) = (N : Int) := by rw [IntKind.wrap_i64]; omega
  have d1 : 2 * mid ≤ a + b := by omega
  have d2 : a + b ≤ 2 * mid + 1 := by omega
  have d3 : N ≤ mid + m := by omega
  have d4 : mid + m ≤ N := by omega
  clear S hC hP hA hB ih hmid hN hkc
  go_enter Try.func116, Try.ntmps116
  go_upto_if 140 with fail
  clear r0 r00 r1 r11 r2 r3 s1 s2
  go_cut [20, 21] (fun s r wx => ∃ lo hi : Nat, s = .int .i64 lo ∧ r = .int .i64 hi ∧ a ≤ lo ∧ N ≤ b + lo ∧ lo ≤ hi ∧ hi ≤ mid ∧ hi ≤ m ∧ (lo = a ∨ N = b + lo) ∧ (hi = m ∨ N = m + hi) ∧ Hid (STg kc key w0 g n cap z0 wx zs))
  case first =>
    as_aux_lemma =>
    by_cases hgt : mid < m
    · have hgt1 : (m : Int) > (mid : Int) := by omega
      obtain ⟨lo, hlo⟩ : ∃ x, x = N - b := ⟨_, rfl⟩
      have r4 : IntKind.i64.wrap ((N : Int) - (b : Int)) = (lo : Int) := by rw [IntKind.wrap_i64]; omega
      have q1 : a ≤ lo := by omega
      have q2 : N ≤ b + lo := by omega
      have q3 : lo ≤ mid := by omega
      have q4 : lo = a ∨ N = b + lo := by omega
      have q5 : mid = m ∨ N = m + mid := by omega
      have Q4 := Lib.hid q4
      have Q5 := Lib.hid q5
      clear hlo q4 q5 HA HB IH HR HC HP
      go_wp2_with fail
      go_meet
      exact ⟨lo, mid, rfl, rfl, q1, q2, q3, by omega, by omega, Q4, Q5, S0⟩
    · have hgt1 : ¬ (m : Int) > (mid : Int) := by omega
      go_wp2_with fail
      go_meet
      exact ⟨a, m, rfl, rfl, by omega, by omega, by omega, by omega, by omega, by omega, by omega, S0⟩
  case rest =>
    as_aux_lemma =>
    clear S0
    obtain ⟨lo, hi, rfl, rfl, q1, q2, q3, q4, q5, q6, q7, S0⟩ := hcut
    have Q6 := Lib.hid q6
    have Q7 := Lib.hid q7
    clear q6 q7
    obtain ⟨p, hp⟩ : ∃ x, x = N - 1 := ⟨_, rfl⟩
    have t1 : IntKind.i64.wrap ((N : Int) - 1) = (p : Int) := by rw [IntKind.wrap_i64]; omega
    have t2 : N ≤ p + 1 := by omega
    have t3 : p + 1 ≤ N := by omega
    clear hp
    go_wp2_with fail
    clear t1
    go_loopw [20, 21] (fun x y wr => ∃ (s r : Nat), lo ≤ s ∧ s ≤ r ∧ r ≤ hi ∧ x = .int .i64 s ∧ y = .int .i64 r ∧ Hid (STg kc key w0 g n cap z0 wr zs) ∧ Hid (s = lo ∨ key (gn zs (s - 1)) ≤ key (gn zs (N - s))) ∧ Hid (r = hi ∨ key (gn zs (N - r - 1)) < key (gn zs r))) (fun x y _ => (intOf y).toNat - (intOf x).toNat)
    case atStart => exact ⟨lo, hi, by omega, by omega, by omega, rfl, rfl, S0.out, .inl rfl, .inl rfl⟩
    case round =>
      clear S0
      obtain ⟨s, r, u1, u2, u3, rfl, rfl, S0, HL, HG⟩ := hrel
      by_cases hlt : s < r
      · have hltz : (s : Int) < (r : Int) := by omega
        obtain ⟨c, hc⟩ : ∃ x, x = (s + r) / 2 := ⟨_, rfl⟩
        obtain ⟨f, hf⟩ : ∃ x, x = p - c := ⟨_, rfl⟩
        have hc1 : s ≤ c := by omega
        have hc2 : c < r := by omega
        have hc3 : ((s : Int) + (r : Int)) / 2 = (c : Int) := by omega
        have hc4 : (c : Int) < (n : Int) := by omega
        have hf1 : IntKind.i64.wrap ((p : Int) - (c : Int)) = (f : Int) := by rw [IntKind.wrap_i64]; omega
        have hf2 : (f : Int) < (n : Int) := by omega
        have c1 := fun (k : Kept wr) => (S0.out.1.to k.h).c0 f (by omega)
        have c1b := fun (k : Kept wr) => (S0.out.1.to k.h).c1 f (by omega)
        have c2 := fun (k : Kept wr) => (S0.out.1.to k.h).c0 c (by omega)
        have c2b := fun (k : Kept wr) => (S0.out.1.to k.h).c1 c (by omega)
        have hcm := fun (k : Kept wr) => HC.out k.x (S0.out.1.keep.trans k.h (by simp)) _ _ (S0.out.1.pd HP.out f (by omega)) (S0.out.1.pd HP.out c (by omega))
        have hks : key (gn zs f) < key (gn zs c) ↔ kc (gn zs f) < kc (gn zs c) := ⟨fun h => S0.out.2 _ _ (by omega) (by omega) h, fun h => HK.out _ _ h⟩
        have HW : Hid (∀ w', Keep [] wr w' → STg kc key w0 g n cap z0 w' zs) := fun w' k => ⟨S0.out.1.to k, S0.out.2⟩
        have e1 : N - (c + 1) = f := by omega
        have e2 : N - c - 1 = f := by omega
        clear hc hf
        by_cases hlv : ¬ key (gn zs f) < key (gn zs c)
        · have hd := cmpK_ge _ _ (fun h => hlv (hks.2 h))
          have HL2 : Hid (c + 1 = lo ∨ key (gn zs (c + 1 - 1)) ≤ key (gn zs (N - (c + 1)))) := by
            right; rw [e1, show c + 1 - 1 = c by omega]; omega
          generalize cmpK (kc (gn zs f)) (kc (gn zs c)) = cc at hcm hd
          simp only [eA, eB] at c1 c1b c2 c2b hcm
          have HCM := Lib.hid hcm
          clear hcm hks hlv e1 e2 HL
          go_wp2_with fail
          refine wp_region_kept (by kernel_rfl) (by kernel_rfl) ?_
          repeat (quiet_step (first | (go_at_fn fc; with_reducible exact kept_of (HCM.out _))))
          refine wpQuiet_nil ?_
          intro _ hw'
          obtain ⟨pp, hw''⟩ := hw'
          subst hw''
          have S1 := Lib.hid (HW.out pp.x pp.h)
          clear HCM c1 c1b c2 c2b HW S0
          generalize pp.x = w2 at *
          go_wp2_with fail
          go_roundw
          case rel => exact ⟨c + 1, r, by omega, by omega, by omega, by go_num, rfl, S1, HL2, HG⟩
          case measure => simp [intOf]; omega
        · have hlv2 := Decidable.not_not.1 hlv
          have hd := cmpK_lt _ _ (hks.1 hlv2)
          have HG2 : Hid (c = hi ∨ key (gn zs (N - c - 1)) < key (gn zs c)) := by
            right; rw [e2]; exact hlv2
          generalize cmpK (kc (gn zs f)) (kc (gn zs c)) = cc at hcm hd
          simp only [eA, eB] at c1 c1b c2 c2b hcm
          have HCM := Lib.hid hcm
          clear hcm hks hlv hlv2 e1 e2 HG
          go_wp2_with fail
          refine wp_region_kept (by kernel_rfl) (by kernel_rfl) ?_
          repeat (quiet_step (first | (go_at_fn fc; with_reducible exact kept_of (HCM.out _))))
          refine wpQuiet_nil ?_
          intro _ hw'
          obtain ⟨pp, hw''⟩ := hw'
          subst hw''
          have S1 := Lib.hid (HW.out pp.x pp.h)
          clear HCM c1 c1b c2 c2b HW S0
          generalize pp.x = w2 at *
          go_wp2_with fail
          go_roundw
          case rel => exact ⟨s, c, by omega, by omega, by omega, rfl, rfl, S1, HL, HG2⟩
          case measure => simp [intOf]; omega
      · obtain rfl : s = r := by omega
        obtain ⟨e, he⟩ : ∃ x, x = N - s := ⟨_, rfl⟩
        have w1 : IntKind.i64.wrap ((N : Int) - (s : Int)) = (e : Int) := by rw [IntKind.wrap_i64]; omega
        have v1 : a ≤ s := by omega
        have v2 : s ≤ mid := by omega
        have v3 : s ≤ m := by omega
        have v4 : m ≤ e := by omega
        have v5 : e ≤ b := by omega
        have v6 : mid ≤ e := by omega
        have v7 : e + s ≤ mid + m := by omega
        have v8 : mid + m ≤ e + s := by omega
        have H1 : Hid (s = a ∨ e = b ∨ key (gn zs (s - 1)) ≤ key (gn zs e)) := by
          rcases HL.out with h | h
          · rcases Q6.out with h2 | h2
            · left; omega
            · right; left; omega
          · right; right; rw [he]; exact h
        have H2 : Hid (s = m ∨ e = m ∨ key (gn zs (e - 1)) < key (gn zs s)) := by
          rcases HG.out with h | h
          · rcases Q7.out with h2 | h2
            · left; omega
            · right; left; omega
          · right; right; rw [he]; exact h
        have HRF := Lib.hid (fun z1 (h : ∀ p, gn z1 p = rtR (gn zs) s m e p) => rot_facts (key := key) v3 v4 v1 v5 v2 (by omega) HA.out HB.out H1.out H2.out h)
        have HTR := Lib.hid (fun z1 (hT : Sta kc key zs n) (h : ∀ p, gn z1 p = rtR (gn zs) s m e p) => hT.rot v1 v5 hb v3 v4 HA.out HB.out H2.out h)
        have HMB := Lib.hid (fun z1 z2 z3 (h : ∀ p, gn z1 p = rtR (gn zs) s m e p) hLR h2 h3 => mg_both (key := key) (z2 := z2) (z3 := z3) v3 v4 v1 v5 v2 v6 (by omega) h hLR h2 h3)
        clear HL HG Q6 Q7 H1 H2 hlt he HA HB HC HP
        have x1 : a < mid := by omega
        have x2 : mid < b := by omega
        clear q1 q2 q3 q4 q5 u1 u2 u3 t2 t3 d1 d2 d3 d4
        go_upto_region 39 with fail
        clear w1
        go_cut [185] (fun c wx => ∃ bb : Bool, c = .bool bb ∧ Hid (bb = true ↔ s < m ∧ m < e) ∧ Hid (STg kc key w0 g n cap z0 wx zs))
        case first =>
          as_aux_lemma =>
          by_cases h1 : s < m
          · have h1z : (s : Int) < (m : Int) := by omega
            by_cases h2 : m < e
            · have h2z : (m : Int) < (e : Int) := by omega
              go_wp2_with fail
              go_meet
              exact ⟨true, rfl, (show _ ↔ _ from by simp [h1, h2]), S0⟩
            · have h2z : ¬ (m : Int) < (e : Int) := by omega
              go_wp2_with fail
              go_meet
              exact ⟨false, rfl, (show _ ↔ _ from by simp; omega), S0⟩
          · have h1z : ¬ (s : Int) < (m : Int) := by omega
            go_wp2_with fail
            go_meet
            exact ⟨false, rfl, (show _ ↔ _ from by simp; omega), S0⟩
        case rest =>
          as_aux_lemma =>
          clear S0
          obtain ⟨bb, rfl, HBB, S0⟩ := hcut
          go_upto_if 185 with fail
          go_cut [24] (fun ev wx => ∃ z1, ev = .int .i64 e ∧ Hid (STg kc key w0 g n cap z0 wx z1) ∧ Hid (∀ p, gn z1 p = rtR (gn zs) s m e p))
          case first =>
            as_aux_lemma =>
            cases bb with
            | true =>
              obtain ⟨h1, h2⟩ := HBB.out.1 rfl
              have HRR := Lib.hid (HR.out _ zs s m e h1 h2 (by omega) S0.out.1)
              have ST0 : Hid (Sta kc key zs n) := S0.out.2
              clear h1 h2
              go_wp2_with fail
              refine HRR.out.mono ?_; rintro er w2 ⟨rfl, z2, S2, E2⟩
              go_wp2_with fail
              go_meet
              exact ⟨z2, rfl, ⟨S2, HTR.out z2 ST0.out E2⟩, E2⟩
            | false =>
              have hb : s = m ∨ m = e := by
                have := HBB.out
                simp at this
                omega
              have HZ : Hid (∀ p, gn zs p = rtR (gn zs) s m e p) := fun p => rtR_none _ _ _ _ p v3 v4 hb
              clear hb
              go_wp2_with fail
              go_meet
              exact ⟨zs, rfl, S0, HZ⟩
          case rest =>
            as_aux_lemma =>
            clear S0 HR HBB HTR
            obtain ⟨z1, rfl, S1, E1⟩ := hcut
            obtain ⟨k1, k2, k3, k4, k5⟩ := HRF.out z1 E1.out
            have K1 := Lib.hid k1
            have K2 := Lib.hid k2
            have K3 := Lib.hid k3
            have K4 := Lib.hid k4
            have K5 := Lib.hid k5
            clear k1 k2 k3 k4 k5 HRF
            go_upto_region 41 with fail
            go_cut [199] (fun c wx => ∃ bb : Bool, c = .bool bb ∧ Hid (bb = true ↔ a < s ∧ s < mid) ∧ Hid (STg kc key w0 g n cap z0 wx z1))
            case first =>
              as_aux_lemma =>
              by_cases h1 : a < s
              · have h1z : (a : Int) < (s : Int) := by omega
                by_cases h2 : s < mid
                · have h2z : (s : Int) < (mid : Int) := by omega
                  go_wp2_with fail
                  go_meet
                  exact ⟨true, rfl, (show _ ↔ _ from by simp [h1, h2]), S1⟩
                · have h2z : ¬ (s : Int) < (mid : Int) := by omega
                  go_wp2_with fail
                  go_meet
                  exact ⟨false, rfl, (show _ ↔ _ from by simp; omega), S1⟩
              · have h1z : ¬ (a : Int) < (s : Int) := by omega
                go_wp2_with fail
                go_meet
                exact ⟨false, rfl, (show _ ↔ _ from by simp; omega), S1⟩
            case rest =>
              as_aux_lemma =>
              clear S1
              obtain ⟨bb, rfl, HBB, S1⟩ := hcut
              go_upto_if 199 with fail
              go_cut [24] (fun ev wx => ∃ z2, ev = .int .i64 e ∧ Hid (STg kc key w0 g n cap z0 wx z2) ∧ Hid (Mg key z1 z2 a mid))
              case first =>
                as_aux_lemma =>
                cases bb with
                | true =>
                  obtain ⟨h1, h2⟩ := HBB.out.1 rfl
                  have HRR := Lib.hid (IH.out _ z1 a s mid (by omega) h1 h2 (by omega) S1.out K1.out K2.out)
                  clear h1 h2
                  go_wp2_with fail
                  refine HRR.out.mono ?_; rintro er w2 ⟨rfl, z2, S2, E2⟩
                  go_wp2_with fail
                  go_meet
                  exact ⟨z2, rfl, S2, E2⟩
                | false =>
                  have hb : s = a ∨ s = mid := by
                    have := HBB.out
                    simp at this
                    omega
                  have HZ : Hid (Mg key z1 z1 a mid) := Mg.same (by
                    rcases hb with h | h
                    · subst h; exact K2.out
                    · subst h; exact K1.out)
                  clear hb
                  go_wp2_with fail
                  go_meet
                  exact ⟨z1, rfl, S1, HZ⟩
              case rest =>
                as_aux_lemma =>
                clear S1 HBB
                obtain ⟨z2, rfl, S2, E2⟩ := hcut
                have L3 : Hid (Srt key z2 mid e) := fun p q h1 h2 h3 => by rw [E2.out.out p (.inr h1), E2.out.out q (.inr (by omega))]; exact K3.out p q h1 h2 h3
                have L4 : Hid (Srt key z2 e b) := fun p q h1 h2 h3 => by rw [E2.out.out p (.inr (by omega)), E2.out.out q (.inr (by omega))]; exact K4.out p q h1 h2 h3
                clear K1 K2 K3 K4
                go_upto_region 43 with fail
                go_cut [213] (fun c wx => ∃ bb : Bool, c = .bool bb ∧ Hid (bb = true ↔ mid < e ∧ e < b) ∧ Hid (STg kc key w0 g n cap z0 wx z2))
                case first =>
                  as_aux_lemma =>
                  by_cases h1 : mid < e
                  · have h1z : (mid : Int) < (e : Int) := by omega
                    by_cases h2 : e < b
                    · have h2z : (e : Int) < (b : Int) := by omega
                      go_wp2_with fail
                      go_meet
                      exact ⟨true, rfl, (show _ ↔ _ from by simp [h1, h2]), S2⟩
                    · have h2z : ¬ (e : Int) < (b : Int) := by omega
                      go_wp2_with fail
                      go_meet
                      exact ⟨false, rfl, (show _ ↔ _ from by simp; omega), S2⟩
                  · have h1z : ¬ (mid : Int) < (e : Int) := by omega
                    go_wp2_with fail
                    go_meet
                    exact ⟨false, rfl, (show _ ↔ _ from by simp; omega), S2⟩
                case rest =>
                  as_aux_lemma =>
                  clear S2
                  obtain ⟨bb, rfl, HBB, S2⟩ := hcut
                  go_upto_if 213 with fail
                  cases bb with
                  | true =>
                    obtain ⟨h1, h2⟩ := HBB.out.1 rfl
                    have HRR := Lib.hid (IH.out _ z2 mid e b (by omega) h1 h2 hb S2.out L3.out L4.out)
                    clear h1 h2 IH
                    go_wp2_with fail
                    refine HRR.out.mono ?_; rintro er w2 ⟨rfl, z3, S3, E3⟩
                    go_wp2_with fail
                    go_end0
                    exact ⟨rfl, z3, S3, HMB.out z1 z2 z3 E1.out K5.out E2.out E3⟩
                  | false =>
                    have hb2 : mid = e ∨ e = b := by
                      have := HBB.out
                      simp at this
                      omega
                    have HZ : Hid (Mg key z2 z2 mid b) := Mg.same (by
                      rcases hb2 with h | h
                      · rw [h]; exact L4.out
                      · rw [← h]; exact L3.out)
                    clear hb2 IH
                    go_wp2_with fail
                    go_end0
                    exact ⟨rfl, z2, S2.out, HMB.out z1 z2 z2 E1.out K5.out E2.out HZ.out⟩
theorem symmerge_c {w0 : World} {g n cap : Nat} {z0 : List SEl} (fc : Nat) (cb : Array Value) (Pd : SEl → Prop) (kc key : SEl → Int) (hkc : ∀ x y, kc x < kc y → key x < key y) (hC : CmpG fc cb Pd kc w0 g) (hP : ∀ z ∈ z0, Pd z) (hn : n < 4611686018427387904) :
    ∀ (d : Nat) (w : World) (zs : List SEl) (a m b : Nat), b - a ≤ d → a < m → m < b → b ≤ n → STg kc key w0 g n cap z0 w zs → Srt key zs a m → Srt key zs m b →
    Calls Try.prog 116 #[.slice (some ⟨g, 0, none⟩) n cap, .int .i64 a, .int .i64 m, .int .i64 b, .func (.func fc) #[] cb] w fun e w' => e = .returned (.tuple #[]) ∧ ∃ zs', STg kc key w0 g n cap z0 w' zs' ∧ Mg key zs zs' a b := by
  intro d
  induction d with
  | zero => intro w zs a m b h1 h2 h3; omega
  | succ d ih =>
    intro w zs a m b hd ham hmb hb S hA hB
    by_cases h1 : m = a + 1
    · subst h1
      exact (symmerge_one fc cb Pd kc key hkc hC hP hn w zs a b hmb hb S.1 S.2 hB).mono fun e w' ⟨h1, z, h2, h3, h4⟩ => ⟨h1, z, ⟨h2, h3⟩, h4⟩
    · by_cases h2 : b = m + 1
      · subst h2
        exact (symmerge_last fc cb Pd kc key hkc hC hP hn w zs a m (by omega) hb S.1 S.2 hA).mono fun e w' ⟨h1, z, h2, h3, h4⟩ => ⟨h1, z, ⟨h2, h3⟩, h4⟩
      · exact symmerge_gen fc cb Pd kc key hkc hC hP hn w zs a m b (by omega) (by omega) hb S hA hB (fun w zs a' m' b' hlt h3 h4 h5 S' hA' hB' => ih w zs a' m' b' (by omega) h3 h4 h5 S' hA' hB')
end Go.Proofs.Yteahcpkaagjkkaa.Sg
namespace Go.Proofs.Yteahcpkaagjkkaa.Sg
set_option linter.unusedVariables false
set_option linter.unusedSimpArgs false
open Go.ChangeShapes Go.WideShapes Go.ChangeAt Go.RowKit

/-- each row of bs numbers is sorted -/
def Bk (key : SEl → Int) (zs : List SEl) (bs n : Nat) : Prop := ∀ j, Srt key zs (j * bs) (min ((j + 1) * bs) n)
theorem Srt.moved {key : SEl → Int} {zs zs' : List SEl} {a b : Nat} (h : Srt key zs a b) (he : ∀ p, a ≤ p → p < b → gn zs' p = gn zs p) : Srt key zs' a b :=
  fun p q h1 h2 h3 => by rw [he p h1 (by omega), he q (by omega) h3]; exact h p q h1 h2 h3
structure Q1 (key : SEl → Int) (k A : Nat) (zs : List SEl) : Prop where
  at_ : A = k * 20
  srt : ∀ j, j < k → Srt key zs (j * 20) ((j + 1) * 20)
theorem Q1.step {key : SEl → Int} {k A : Nat} {zs zs' : List SEl} (h : Q1 key k A zs) (hs : Srt key zs' A (A + 20)) (ho : ∀ p, p < A ∨ A + 20 ≤ p → gn zs' p = gn zs p) : Q1 key (k + 1) (A + 20) zs' := by
  have ha := h.at_
  refine ⟨by omega, fun j hj => ?_⟩
  by_cases e : j = k
  · subst e; rw [← ha, show (j + 1) * 20 = A + 20 by omega]; exact hs
  · exact (h.srt j (by omega)).moved (fun p _ h2 => ho p (.inl (by omega)))
theorem Q1.done {key : SEl → Int} {k A n : Nat} {zs zs' : List SEl} (h : Q1 key k A zs) (hA : A ≤ n) (hn : n < A + 20) (hs : Srt key zs' A n) (ho : ∀ p, p < A ∨ n ≤ p → gn zs' p = gn zs p) : Bk key zs' 20 n := by
  have ha := h.at_
  intro j
  by_cases e : j < k
  · rw [show min ((j + 1) * 20) n = (j + 1) * 20 by omega]
    exact (h.srt j e).moved (fun p _ h2 => ho p (.inl (by omega)))
  · by_cases e2 : j = k
    · subst e2; rw [← ha, show min ((j + 1) * 20) n = n by omega]; exact hs
    · exact Srt.one _ _ _ _ (by omega)
structure Q2 (key : SEl → Int) (bs n K A : Nat) (zs : List SEl) : Prop where
  at_ : A = K * (2 * bs)
  lo : ∀ j, j < K → Srt key zs (j * (2 * bs)) ((j + 1) * (2 * bs))
  hi : ∀ j, 2 * K ≤ j → Srt key zs (j * bs) (min ((j + 1) * bs) n)
theorem Q2.start {key : SEl → Int} {bs n : Nat} {zs : List SEl} (h : Bk key zs bs n) : Q2 key bs n 0 0 zs := ⟨by omega, fun j hj => by omega, fun j _ => h j⟩
section
variable {key : SEl → Int} {bs n K A : Nat} {zs zs' : List SEl}
theorem Q2.m1 (h : Q2 key bs n K A zs) : (2 * K) * bs = A ∧ (2 * K + 1) * bs = A + bs ∧ (2 * K + 1 + 1) * bs = A + 2 * bs ∧ (K + 1) * (2 * bs) = A + 2 * bs := by
  have ha := h.at_
  have e1 : (2 * K) * bs = K * (2 * bs) := by rw [Nat.mul_comm 2 K, Nat.mul_assoc]
  refine ⟨by omega, by rw [Nat.add_mul]; omega, by rw [Nat.add_mul, Nat.add_mul]; omega, by rw [Nat.add_mul]; omega⟩
theorem Q2.left (h : Q2 key bs n K A zs) (hn : A + 2 * bs ≤ n) : Srt key zs A (A + bs) ∧ Srt key zs (A + bs) (A + 2 * bs) := by
  obtain ⟨e1, e2, e3, _⟩ := h.m1
  have h1 := h.hi (2 * K) (by omega)
  have h2 := h.hi (2 * K + 1) (by omega)
  rw [e1, e2, show min (A + bs) n = A + bs by omega] at h1
  rw [e2, e3, show min (A + 2 * bs) n = A + 2 * bs by omega] at h2
  exact ⟨h1, h2⟩
theorem Q2.step (h : Q2 key bs n K A zs) (hm : Mg key zs zs' A (A + 2 * bs)) : Q2 key bs n (K + 1) (A + 2 * bs) zs' := by
  obtain ⟨e1, e2, e3, e4⟩ := h.m1
  have ha := h.at_
  refine ⟨e4.symm, fun j hj => ?_, fun j hj => ?_⟩
  · by_cases e : j = K
    · subst e; rw [← ha, e4]; exact hm.srt
    · have : (j + 1) * (2 * bs) ≤ K * (2 * bs) := Nat.mul_le_mul_right _ (by omega)
      exact (h.lo j (by omega)).moved (fun p _ h2 => hm.out p (.inl (by omega)))
  · have : (2 * K + 1 + 1) * bs ≤ j * bs := Nat.mul_le_mul_right _ (by omega)
    exact (h.hi j (by omega)).moved (fun p h1 _ => hm.out p (.inr (by omega)))
theorem Q2.last (h : Q2 key bs n K A zs) (hn : n < A + 2 * bs) : Srt key zs A (min (A + bs) n) ∧ (A + bs < n → Srt key zs A (A + bs) ∧ Srt key zs (A + bs) n) := by
  obtain ⟨e1, e2, e3, _⟩ := h.m1
  have h1 := h.hi (2 * K) (by omega)
  have h2 := h.hi (2 * K + 1) (by omega)
  rw [e1, e2] at h1
  rw [e2, e3, show min (A + 2 * bs) n = n by omega] at h2
  exact ⟨h1, fun hl => by rw [show min (A + bs) n = A + bs by omega] at h1; exact ⟨h1, h2⟩⟩
theorem Q2.done (h : Q2 key bs n K A zs) (hA : A ≤ n) (hn : n < A + 2 * bs) (hs : Srt key zs' A n) (ho : ∀ p, p < A → gn zs' p = gn zs p) : Bk key zs' (2 * bs) n := by
  obtain ⟨e1, e2, e3, e4⟩ := h.m1
  have ha := h.at_
  intro j
  by_cases e : j < K
  · have : (j + 1) * (2 * bs) ≤ K * (2 * bs) := Nat.mul_le_mul_right _ (by omega)
    rw [show min ((j + 1) * (2 * bs)) n = (j + 1) * (2 * bs) by omega]
    exact (h.lo j e).moved (fun p _ h2 => ho p (by omega))
  · by_cases e2 : j = K
    · subst e2; rw [← ha, e4, show min (A + 2 * bs) n = n by omega]; exact hs
    · have : (K + 1) * (2 * bs) ≤ j * (2 * bs) := Nat.mul_le_mul_right _ (by omega)
      exact Srt.one _ _ _ _ (by omega)
end
theorem Bk.all {key : SEl → Int} {zs : List SEl} {bs n : Nat} (h : Bk key zs bs n) (hn : n ≤ bs) : Srt key zs 0 n := by
  have h0 := h 0
  rw [Nat.zero_mul, show min ((0 + 1) * bs) n = n by omega] at h0
  exact h0
set_option maxRecDepth 100000 in
set_option maxHeartbeats 8000000 in
theorem stable_c {w0 : World} {g n cap : Nat} {z0 : List SEl} (fc : Nat) (cb : Array Value) (Pd : SEl → Prop) (kc key : SEl → Int) (hkc : ∀ x y, kc x < kc y → key x < key y) (hC : CmpG fc cb Pd kc w0 g) (hP : ∀ z ∈ z0, Pd z) (hn : n < 1152921504606846976)
    (w : World) (zs : List SEl) (S : STg kc key w0 g n cap z0 w zs) :
    Calls Try.prog 107 #[.slice (some ⟨g, 0, none⟩) n cap, .int .i64 n, .func (.func fc) #[] cb] w fun e w' => e = .returned (.tuple #[]) ∧ ∃ zs', STg kc key w0 g n cap z0 w' zs' ∧ Srt key zs' 0 n := by
  have hn2 : n < 4611686018427387904 := by omega
  have HI := Lib.hid (fun w zs a b h1 h2 S => (insertion_c (w0 := w0) (g := g) (n := n) (cap := cap) (z0 := z0) fc cb Pd kc key hkc hC hP hn2 w zs a b h1 h2 (show STg kc key w0 g n cap z0 w zs from S).1 S.2).mono (R' := fun e w' => e = .returned (.tuple #[]) ∧ ∃ zs', STg kc key w0 g n cap z0 w' zs' ∧ Srt key zs' a b ∧ ∀ p, p < a ∨ b ≤ p → gn zs' p = gn zs p) fun e w' ⟨h1, z, h2, h3, h4⟩ => ⟨h1, z, ⟨h2, h3⟩, h4⟩)
  have HM := Lib.hid (fun w zs a m b h1 h2 h3 S hA hB => symmerge_c (w0 := w0) (g := g) (n := n) (cap := cap) (z0 := z0) fc cb Pd kc key hkc hC hP hn2 (b - a) w zs a m b (Nat.le_refl _) h1 h2 h3 S hA hB)
  have S0 := Lib.hid S
  clear S hC hP hkc
  go_enter Try.func107, Try.ntmps107
  go_wp2_with fail
  go_loopw [7, 8] (fun x y wr => ∃ (k A B : Nat) (zk : List SEl), A ≤ n ∧ B ≤ A + 20 ∧ A + 20 ≤ B ∧ x = .int .i64 A ∧ y = .int .i64 B ∧ Hid (Q1 key k A zk) ∧ Hid (STg kc key w0 g n cap z0 wr zk)) (fun _ y _ => n + 20 - (intOf y).toNat)
  case atStart => exact ⟨0, 0, 20, zs, by omega, by omega, by omega, rfl, rfl, ⟨by omega, fun j hj => by omega⟩, S0.out⟩
  case round =>
    clear S0
    obtain ⟨k, A, B, zk, hA, hB1, hB2, rfl, rfl, HQ, HS⟩ := hrel
    by_cases hlt : B ≤ n
    · have hltz : (B : Int) ≤ (n : Int) := by omega
      have HC := Lib.hid (HI.out wr zk A B (by omega) hlt HS.out)
      have HQ2 := Lib.hid (fun z2 h1 h2 => HQ.out.step (zs' := z2) h1 h2)
      have hBA : B = A + 20 := by omega
      rw [← hBA] at HQ2
      clear hBA HS HQ
      go_wp2_with fail
      refine HC.out.mono ?_; rintro er w2 ⟨rfl, z2, S2, E2, E3⟩
      have HS2 := Lib.hid S2
      have HQ3 := Lib.hid (HQ2.out z2 E2 E3)
      clear S2 E2 E3 HC HQ2
      go_wp2_with fail
      go_roundw
      case rel => exact ⟨k + 1, B, B + 20, z2, by omega, by omega, by omega, rfl, by go_num, HQ3, HS2⟩
      case measure => simp [intOf]; omega
    · have hltz : ¬ (B : Int) ≤ (n : Int) := by omega
      have HC := Lib.hid (HI.out wr zk A n (by omega) (by omega) HS.out)
      have HQ2 := Lib.hid (fun z2 h1 h2 => HQ.out.done (n := n) (zs' := z2) hA (by omega) h1 h2)
      clear HS HQ
      go_wp2_with fail
      refine HC.out.mono ?_; rintro er w2 ⟨rfl, z2, S2, E2, E3⟩
      have HS2 := Lib.hid S2
      have HQ3 := Lib.hid (HQ2.out z2 E2 E3)
      clear S2 E2 E3 HC HQ2 HI
      go_wp2_with fail
      go_loopw [6] (fun x wr => ∃ (bs : Nat) (zk : List SEl), 0 < bs ∧ bs ≤ 2 * n + 20 ∧ x = .int .i64 bs ∧ Hid (Bk key zk bs n) ∧ Hid (STg kc key w0 g n cap z0 wr zk)) (fun x _ => n - (intOf x).toNat)
      case atStart => exact ⟨20, z2, by omega, by omega, rfl, HQ3, HS2⟩
      case round =>
        clear HQ3 HS2 hltz hlt hA hB1 hB2
        obtain ⟨bs, zk, hb0, hb1, rfl, HB, HS⟩ := hrel
        by_cases hlt : bs < n
        · have hltz : (bs : Int) < (n : Int) := by omega
          obtain ⟨b2, hb2⟩ : ∃ x, x = 2 * bs := ⟨_, rfl⟩
          have r1 : IntKind.i64.wrap (2 * (bs : Int)) = (b2 : Int) := by rw [IntKind.wrap_i64]; omega
          have r2 : IntKind.i64.wrap ((bs : Int) * 2) = (b2 : Int) := by rw [IntKind.wrap_i64]; omega
          have hb3 : b2 ≤ 2 * bs := by omega
          have hb4 : 2 * bs ≤ b2 := by omega
          have HQ0 := Lib.hid (Q2.start HB.out)
          clear HB
          go_wp2_with fail
          go_loopw [7, 8] (fun x y wr => ∃ (K A B : Nat) (zk : List SEl), A ≤ n ∧ B ≤ A + b2 ∧ A + b2 ≤ B ∧ x = .int .i64 A ∧ y = .int .i64 B ∧ Hid (Q2 key bs n K A zk) ∧ Hid (STg kc key w0 g n cap z0 wr zk)) (fun _ y _ => n + b2 - (intOf y).toNat)
          case atStart => exact ⟨0, 0, b2, zk, by omega, by omega, by omega, rfl, by first | rfl | (congr 1; omega), HQ0.out, HS.out⟩
          case round =>
            clear HQ0 HS
            obtain ⟨K, A, B, zk, hA, hB1, hB2, rfl, rfl, HQ, HS⟩ := hrel
            obtain ⟨m, hm⟩ : ∃ x, x = A + bs := ⟨_, rfl⟩
            have r3 : IntKind.i64.wrap ((A : Int) + (bs : Int)) = (m : Int) := by rw [IntKind.wrap_i64]; omega
            by_cases hle : B ≤ n
            · have hlez : (B : Int) ≤ (n : Int) := by omega
              have hBA : B = A + 2 * bs := by omega
              obtain ⟨l1, l2⟩ := HQ.out.left (by omega)
              rw [← hm] at l1 l2
              rw [← hBA] at l2
              have HC := Lib.hid (HM.out wr zk A m B (by omega) (by omega) hle HS.out l1 l2)
              have HQ2 := Lib.hid (fun z2 h1 => HQ.out.step (zs' := z2) h1)
              rw [← hBA] at HQ2
              have r4 : IntKind.i64.wrap ((B : Int) + (b2 : Int)) = ((B + b2 : Nat) : Int) := by rw [IntKind.wrap_i64]; omega
              clear hBA HS HQ l1 l2 hm r2
              go_wp2_with fail
              refine HC.out.mono ?_; rintro er w3 ⟨rfl, z3, S3, E3⟩
              have HS3 := Lib.hid S3
              have HQ3 := Lib.hid (HQ2.out z3 E3)
              clear S3 E3 HC HQ2
              go_wp2_with fail
              go_roundw
              case rel => exact ⟨K + 1, B, B + b2, z3, by omega, by omega, by omega, rfl, by go_num, HQ3, HS3⟩
              case measure => simp [intOf]; omega
            · have hlez : ¬ (B : Int) ≤ (n : Int) := by omega
              obtain ⟨l1, l2⟩ := HQ.out.last (by omega)
              rw [← hm] at l1 l2
              have HQ2 := Lib.hid (fun z2 h1 h2 => HQ.out.done (zs' := z2) hA (by omega) h1 h2)
              rw [← hb2] at HQ2
              by_cases hmn : m < n
              · have hmnz : (m : Int) < (n : Int) := by omega
                have HC := Lib.hid (HM.out wr zk A m n (by omega) hmn (Nat.le_refl _) HS.out (l2 hmn).1 (l2 hmn).2)
                clear HS HQ l1 l2 hm r1 hb2
                go_wp2_with fail
                refine HC.out.mono ?_; rintro er w3 ⟨rfl, z3, S3, E3⟩
                have HS3 := Lib.hid S3
                have HQ3 := Lib.hid (HQ2.out z3 E3.srt (fun p hp => E3.out p (.inl hp)))
                clear S3 E3 HC HQ2
                go_wp2_with fail
                go_roundw
                case rel => exact ⟨b2, z3, by omega, by omega, rfl, HQ3, HS3⟩
                case measure => simp [intOf]; omega
              · have hmnz : ¬ (m : Int) < (n : Int) := by omega
                have HQ3 := Lib.hid (HQ2.out zk (by rw [show n = min m n by omega]; exact l1) (fun _ _ => rfl))
                clear HQ HQ2 l1 l2 hm r1 hb2
                go_wp2_with fail
                go_roundw
                case rel => exact ⟨b2, zk, by omega, by omega, rfl, HQ3, HS⟩
                case measure => simp [intOf]; omega
        · have hltz : ¬ (bs : Int) < (n : Int) := by omega
          go_wp2_with fail
          go_end0
          exact ⟨rfl, zk, HS.out, HB.out.all (by omega)⟩
set_option maxRecDepth 100000 in
theorem sortstable_c (fc : Nat) (cb : Array Value) (Pd : SEl → Prop) (kc key : SEl → Int) (hkc : ∀ x y, kc x < kc y → key x < key y) (w : World) (g n cap : Nat) (zs : List SEl) (h : OwnG ESl w (.slice (some ⟨g, 0, none⟩) n cap) zs) (hT : Sta kc key zs n) (hC : CmpG fc cb Pd kc w g) (hP : ∀ z ∈ zs, Pd z) (hn : n < 1152921504606846976) :
    Calls Try.prog 88 #[.slice (some ⟨g, 0, none⟩) n cap, .func (.func fc) #[] cb] w fun e w' => e = .returned (.tuple #[]) ∧ ∃ zs', OwnG ESl w' (.slice (some ⟨g, 0, none⟩) n cap) zs' ∧ Keep [g] w w' ∧ zs'.Perm zs ∧ Srt key zs' 0 n := by
  have HS := Lib.hid (stable_c (w0 := w) (z0 := zs) fc cb Pd kc key hkc hC hP hn w zs ⟨⟨h, Keep.refl _ _, List.Perm.refl _⟩, hT⟩)
  clear h hC hP hT hkc
  go_enter Try.func88, Try.ntmps88
  go_wp2_with fail
  refine HS.out.mono ?_; rintro er w2 ⟨rfl, z2, S2, E2⟩
  go_wp2_with fail
  go_end0
  exact ⟨rfl, z2, S2.1.own, S2.1.keep, S2.1.perm, E2⟩
set_option maxHeartbeats 2000000 in
theorem insertion_nil (cv : Value) (w : World) : Calls Try.prog 115 #[.slice none 0 0, .int .i64 0, .int .i64 0, cv] w fun e w' => e = .returned (.tuple #[]) ∧ Keep [] w w' := by
  go_enter Try.func115, Try.ntmps115
  go_wp2_with fail
  go_loopw [8] (fun x wr => x = .int .i64 1 ∧ Keep [] w wr) (fun _ _ => 0)
  case atStart => exact ⟨by go_num, Keep.refl _ _⟩
  case round =>
    obtain ⟨rfl, KK⟩ := hrel
    go_wp2_with fail
    go_end0
    exact ⟨rfl, KK⟩
set_option maxHeartbeats 2000000 in
theorem stable_nil (cv : Value) (w : World) : Calls Try.prog 107 #[.slice none 0 0, .int .i64 0, cv] w fun e w' => e = .returned (.tuple #[]) ∧ Keep [] w w' := by
  have HI := Lib.hid (fun w => insertion_nil cv w)
  go_enter Try.func107, Try.ntmps107
  go_wp2_with fail
  go_loopw [7, 8] (fun x y wr => x = .int .i64 0 ∧ y = .int .i64 20 ∧ Keep [] w wr) (fun _ _ _ => 0)
  case atStart => exact ⟨rfl, rfl, Keep.refl _ _⟩
  case round =>
    obtain ⟨rfl, rfl, KK⟩ := hrel
    have HC := Lib.hid (HI.out wr)
    go_wp2_with fail
    refine HC.out.mono ?_; rintro er w2 ⟨rfl, K2⟩
    have KK2 := Lib.hid (KK.trans K2 (by simp))
    clear KK K2 HC HI
    go_wp2_with fail
    go_loopw [6] (fun x wr => x = .int .i64 20 ∧ Keep [] w wr) (fun _ _ => 0)
    case atStart => exact ⟨rfl, KK2.out⟩
    case round =>
      obtain ⟨rfl, KK⟩ := hrel
      go_wp2_with fail
      go_end0
      exact ⟨rfl, KK⟩
/-- of an empty row -/
theorem sortstable_nil (cv : Value) (w : World) :
    Calls Try.prog 88 #[.slice none 0 0, cv] w fun e w' => e = .returned (.tuple #[]) ∧ Keep [] w w' := by
  have HC := Lib.hid (stable_nil cv w)
  go_enter Try.func88, Try.ntmps88
  go_wp2_with fail
  refine HC.out.mono ?_; rintro er w2 ⟨rfl, K2⟩
  go_wp2_with fail
  go_end0
  exact ⟨rfl, K2⟩
end Go.Proofs.Yteahcpkaagjkkaa.Sg
