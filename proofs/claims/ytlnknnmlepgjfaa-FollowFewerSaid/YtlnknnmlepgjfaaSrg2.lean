/- Contract of the library's insertionSortCmpFunc at rows of elements of two cells. -/
import Derived.Test.YtlnknnmlepgjfaaSrg1
import Derived.Test.YtlnknnmlepgjfaaKept
import Derived.Shelf.Abstract
namespace Go.Proofs.Ytlnknnmlepgjfaa.Sg
set_option linter.unusedVariables false
set_option linter.unusedSimpArgs false
open Go.ChangeShapes Go.WideShapes Go.ChangeAt Go.RowKit

/-- what a comparison answers of two keys -/
def cmpK (x y : Int) : Int := if x < y then -1 else if y < x then 1 else 0
theorem cmpK_lt (x y : Int) (h : x < y) : decide (cmpK x y < 0) = true := by unfold cmpK; rw [if_pos h]; decide
theorem cmpK_ge (x y : Int) (h : ¬ x < y) : decide (cmpK x y < 0) = false := by
  unfold cmpK; rw [if_neg h]; split <;> decide
/-- the function fc, bound to cb, holds the keys of elements with Pd against one another, in whatever world comes of w0 by turns of block g alone -/
def CmpG (fc : Nat) (cb : Array Value) (Pd : SEl → Prop) (kc : SEl → Int) (w0 : World) (g : Nat) : Prop :=
  (∀ args w, (callFunc fc args).run Try.prog w = .ok (.enter fc args) w) ∧
  ∀ w, Keep [g] w0 w → ∀ x y, Pd x → Pd y → Calls Try.prog fc (#[.agg #[eA x, eB x], .agg #[eA y, eB y]] ++ cb) w fun e w' => e = .returned (.int .i64 (cmpK (kc x) (kc y))) ∧ Keep [] w w'
/-- what key says more than kc, the order of the row says already -/
def Sta (kc key : SEl → Int) (zs : List SEl) (n : Nat) : Prop := ∀ p q, p < q → q < n → key (gn zs q) < key (gn zs p) → kc (gn zs q) < kc (gn zs p)
theorem Sta.move {kc key : SEl → Int} {zs zs' : List SEl} {n : Nat} (h : Sta kc key zs n) (f : Nat → Nat) (hf : ∀ p, p < n → f p < n) (he : ∀ p, p < n → gn zs' p = gn zs (f p)) (hi : ∀ p q, p < q → q < n → f p < f q ∨ key (gn zs (f p)) ≤ key (gn zs (f q))) : Sta kc key zs' n := by
  intro p q h1 h2 h3
  rw [he p (by omega), he q h2] at h3 ⊢
  rcases hi p q h1 h2 with h4 | h4
  · exact h _ _ h4 (hf q h2) h3
  · omega
theorem Sta.back {kc key : SEl → Int} {zs : List SEl} {n j : Nat} (h : Sta kc key zs n) (hj0 : 0 < j) (hj : j < n) (hl : n = zs.length) (hlt : key (gn zs j) < key (gn zs (j - 1))) : Sta kc key (gxc zs j (j - 1)) n := by
  refine h.move (fun p => if p = j - 1 then j else if p = j then j - 1 else p) (fun p hp => ?_) (fun p hp => ?_) (fun p q h1 h2 => ?_)
  · repeat' split
    all_goals omega
  · rw [gxc_at _ _ _ _ (by omega) (by omega)]
    repeat' split
    all_goals first | rfl | omega
  · by_cases p1 : p = j - 1
    · rw [if_pos p1]
      by_cases q1 : q = j
      · rw [if_neg (by omega), if_pos q1]; right; omega
      · rw [if_neg (by omega), if_neg q1]; left; omega
    · rw [if_neg p1]
      by_cases p2 : p = j
      · rw [if_pos p2, if_neg (by omega), if_neg (by omega)]; left; omega
      · rw [if_neg p2]
        left
        repeat' split
        all_goals omega
/-- sorted by their keys -/
def Srt (key : SEl → Int) (zs : List SEl) (a b : Nat) : Prop := ∀ p q, a ≤ p → p ≤ q → q < b → key (gn zs p) ≤ key (gn zs q)
/-- [a, i] is sorted but for the number at j, which is no greater than those behind it -/
def Ins (key : SEl → Int) (zs : List SEl) (a i j : Nat) : Prop :=
  (∀ p q, a ≤ p → p ≤ q → q ≤ i → p ≠ j → q ≠ j → key (gn zs p) ≤ key (gn zs q)) ∧ ∀ q, j < q → q ≤ i → key (gn zs j) ≤ key (gn zs q)
theorem Ins.start {key : SEl → Int} {zs : List SEl} {a i : Nat} (h : Srt key zs a i) : Ins key zs a i i :=
  ⟨fun p q h1 h2 h3 h4 h5 => h p q h1 h2 (by omega), fun q h1 h2 => by omega⟩
theorem Ins.step {key : SEl → Int} {zs : List SEl} {a i j : Nat} (h : Ins key zs a i j) (haj : a < j) (hji : j ≤ i) (hi : i < zs.length) (hlt : key (gn zs j) < key (gn zs (j - 1))) : Ins key (gxc zs j (j - 1)) a i (j - 1) := by
  have hx := fun k => gxc_at zs j (j - 1) k (by omega) (by omega)
  refine ⟨fun p q h1 h2 h3 h4 h5 => ?_, fun q h1 h2 => ?_⟩
  · rw [hx p, hx q, if_neg h4, if_neg h5]
    by_cases e1 : p = j
    · rw [if_pos e1]
      by_cases e2 : q = j
      · rw [if_pos e2]; exact Int.le_refl _
      · rw [if_neg e2]; exact h.1 (j - 1) q (by omega) (by omega) h3 (by omega) e2
    · rw [if_neg e1]
      by_cases e2 : q = j
      · rw [if_pos e2]; exact h.1 p (j - 1) h1 (by omega) (by omega) e1 (by omega)
      · rw [if_neg e2]; exact h.1 p q h1 h2 h3 e1 e2
  · rw [hx (j - 1), hx q, if_pos rfl, if_neg (by omega)]
    by_cases e2 : q = j
    · rw [if_pos e2]; omega
    · rw [if_neg e2]; exact h.2 q (by omega) h2
theorem Ins.done {key : SEl → Int} {zs : List SEl} {a i j : Nat} (h : Ins key zs a i j) (haj : a ≤ j) (hs : j = a ∨ ¬ key (gn zs j) < key (gn zs (j - 1))) : Srt key zs a (i + 1) := by
  intro p q h1 h2 h3
  by_cases e1 : p = j
  · by_cases e2 : q = j
    · rw [e1, e2]; exact Int.le_refl _
    · rw [e1]; exact h.2 q (by omega) (by omega)
  · by_cases e2 : q = j
    · rcases hs with hs | hs
      · omega
      · rw [e2]
        have : key (gn zs p) ≤ key (gn zs (j - 1)) := by
          by_cases e3 : p = j - 1
          · rw [e3]; exact Int.le_refl _
          · exact h.1 p (j - 1) h1 (by omega) (by omega) e1 (by omega)
        omega
    · exact h.1 p q h1 h2 (by omega) e1 e2
set_option maxRecDepth 100000 in
set_option maxHeartbeats 8000000 in
theorem insertion_c {w0 : World} {g n cap : Nat} {z0 : List SEl} (fc : Nat) (cb : Array Value) (Pd : SEl → Prop) (kc key : SEl → Int) (hkc : ∀ x y, kc x < kc y → key x < key y) (hC : CmpG fc cb Pd kc w0 g) (hP : ∀ z ∈ z0, Pd z) (hn : n < 4611686018427387904)
    (w : World) (zs : List SEl) (a b : Nat) (hab : a ≤ b) (hb : b ≤ n) (S : SSg w0 g n cap z0 w zs) (T : Sta kc key zs n) :
    Calls Try.prog 41 #[.slice (some ⟨g, 0, none⟩) n cap, .int .i64 a, .int .i64 b, .func (.func fc) #[] cb] w fun e w' => e = .returned (.tuple #[]) ∧ ∃ zs', SSg w0 g n cap z0 w' zs' ∧ Sta kc key zs' n ∧ Srt key zs' a b ∧ ∀ p, p < a ∨ b ≤ p → gn zs' p = gn zs p := by
  have eg := hC.1
  have HC := Lib.hid hC.2
  have HP := Lib.hid hP
  have S0 := Lib.hid S
  have T0 := Lib.hid T
  have HK := Lib.hid hkc
  clear S hC hP T hkc
  go_enter Try.func41, Try.ntmps41
  go_wp2_with fail
  go_loopg [8] (b - a) (fun g1 vi wr => ∃ (i : Nat) (zk : List SEl), vi = .int .i64 i ∧ a < i ∧ i ≤ b + 1 ∧ b + 1 - i ≤ g1 + 1 ∧ Hid (SSg w0 g n cap z0 wr zk) ∧ Hid (Sta kc key zk n) ∧ Hid (Srt key zk a i) ∧ Hid (∀ p, p < a ∨ b ≤ p → gn zk p = gn zs p))
  case atStart => exact ⟨a + 1, zs, by go_num, by omega, by omega, by omega, S0.out, T0.out, fun p q h1 h2 h3 => by rw [show p = q by omega]; exact Int.le_refl _, fun p _ => rfl⟩
  case round =>
    clear S0 T0
    obtain ⟨i, zk, rfl, hai, hib, hg1, HS, HT, HO, HF⟩ := hrel
    by_cases hlt : i < b
    · have hltz : (i : Int) < (b : Int) := by omega
      go_wp2_with fail
      go_loopg [9] i (fun g2 vj wr2 => ∃ (j : Nat) (zj : List SEl), vj = .int .i64 j ∧ a ≤ j ∧ j ≤ i ∧ j ≤ g2 ∧ Hid (SSg w0 g n cap z0 wr2 zj) ∧ Hid (Sta kc key zj n) ∧ Hid (Ins key zj a i j) ∧ Hid (∀ p, p < a ∨ b ≤ p → gn zj p = gn zs p))
      case atStart => exact ⟨i, zk, rfl, by omega, Nat.le_refl _, Nat.le_refl _, HS, HT, Ins.start HO.out, HF.out⟩
      case round =>
        clear HS HT HO HF
        obtain ⟨j, zj, rfl, haj, hji, hg2, HS, HT, HI, HF⟩ := hrel
        by_cases hja : a < j
        · obtain ⟨jp, hjp⟩ : ∃ q, q = j - 1 := ⟨_, rfl⟩
          have hjad : decide ((j : Int) > (a : Int)) = true := decide_eq_true (by omega)
          have hjaz : (a : Int) < (j : Int) := by omega
          have rj : IntKind.i64.wrap ((j : Int) - 1) = (jp : Int) := by rw [IntKind.wrap_i64]; omega
          have hjp1 : jp < j := by omega
          have hjp2 : a ≤ jp := by omega
          have hjj : j ≠ jp := by omega
          have c1 := fun (k : Kept wr) => (HS.out.to k.h).c0 j (by omega)
          have c1b := fun (k : Kept wr) => (HS.out.to k.h).c1 j (by omega)
          have c2 := fun (k : Kept wr) => (HS.out.to k.h).c0 jp (by omega)
          have c2b := fun (k : Kept wr) => (HS.out.to k.h).c1 jp (by omega)
          have hjn : (j : Int) < (n : Int) := by omega
          have hjpn : (jp : Int) < (n : Int) := by omega
          have p1 := HS.out.pd HP.out j (by omega)
          have p2 := HS.out.pd HP.out jp (by omega)
          have hcm := fun (k : Kept wr) => HC.out k.x (HS.out.keep.trans k.h (by simp)) _ _ p1 p2
          have hks : key (gn zj j) < key (gn zj (j - 1)) ↔ kc (gn zj j) < kc (gn zj (j - 1)) := ⟨fun h => HT.out (j - 1) j (by omega) (by omega) h, fun h => HK.out _ _ h⟩
          have HW : Hid (∀ w', Keep [] wr w' → SSg w0 g n cap z0 w' zj) := fun w' k => HS.out.to k
          clear p1 p2
          by_cases hlv : key (gn zj j) < key (gn zj (j - 1))
          · have HX := Lib.hid (fun (w' : World) (h : SSg w0 g n cap z0 w' zj) => (h.gxc j jp (by omega) (by omega)).drew)
            have c3 := Lib.hid (fun (w' : World) (h : SSg w0 g n cap z0 w' zj) => h.d0 j jp (by omega) hjj (gn zj jp))
            have c3b := Lib.hid (fun (w' : World) (h : SSg w0 g n cap z0 w' zj) => h.d1 j jp (by omega) hjj (gn zj jp))
            have c4 := Lib.hid (fun (w' : World) (h : SSg w0 g n cap z0 w' zj) => h.e1 j (by omega) (eA (gn zj jp)))
            have c5 := Lib.hid (fun (w' : World) (h : SSg w0 g n cap z0 w' zj) => h.e2 j jp (by omega) hjj (gn zj jp) (eA (gn zj j)))
            have HI2 : Hid (Ins key (gxc zj j jp) a i jp) := by rw [hjp]; exact HI.out.step hja hji (by rw [HS.out.len]; omega) hlv
            have HT2 : Hid (Sta kc key (gxc zj j jp) n) := by rw [hjp]; exact HT.out.back (by omega) (by omega) HS.out.len.symm hlv
            have HF2 : Hid (∀ p, p < a ∨ b ≤ p → gn (gxc zj j jp) p = gn zs p) := fun p hp => by
              rw [gxc_at _ _ _ _ (by rw [HS.out.len]; omega) (by rw [HS.out.len]; omega), if_neg (by omega), if_neg (by omega)]
              exact HF.out p hp
            have hd := cmpK_lt _ _ (hks.1 hlv)
            rw [← hjp] at hd
            generalize cmpK (kc (gn zj j)) (kc (gn zj jp)) = cc at hcm hd
            simp only [eA, eB] at c1 c1b c2 c2b hcm
            have HCM := Lib.hid hcm
            clear HI HT HF hlv hjp HS hcm hks
            go_wp2_with fail
            refine wp_region_kept (by kernel_rfl) (by kernel_rfl) ?_
            repeat (quiet_step (first | (go_at_fn fc; with_reducible exact kept_of (HCM.out _))))
            refine wpQuiet_nil ?_
            intro _ hw'
            obtain ⟨p, hw''⟩ := hw'
            subst hw''
            have HSP := HW.out p.x p.h
            have g1 := c1 p
            have g1b := c1b p
            have g2 := c2 p
            have g2b := c2b p
            have g3 := c3.out p.x HSP
            have g3b := c3b.out p.x HSP
            have g4 := c4.out p.x HSP
            have g5 := c5.out p.x HSP
            have HX2 := Lib.hid (HX.out p.x HSP)
            have f1 := HSP.free (j * 2)
            have f1b := HSP.free (j * 2 + 1)
            have f2 := HSP.free (jp * 2)
            have f2b := HSP.free (jp * 2 + 1)
            clear c1 c1b c2 c2b c3 c3b c4 c5 HCM HX HW HSP
            generalize p.x = w2 at *
            unfold stE at g3 g3b g5 HX2
            generalize gn zj j = x at g1 g1b g4 g5 HX2
            generalize gn zj jp = y at g2 g2b g3 g3b g4 g5 HX2
            simp only [eA, eB] at g1 g1b g2 g2b g3 g3b g4 g5 HX2
            generalize gxc zj j jp = z1 at HX2 HI2 HT2 HF2
            go_wp2_with fail
            go_region
            go_wp2_with fail
            go_roundg jp
            case measure => omega
            case rel => exact ⟨jp, z1, rfl, by omega, by omega, Nat.le_refl _, HX2, HT2, HI2, HF2⟩
          · have HO2 : Hid (Srt key zj a (i + 1)) := HI.out.done haj (.inr hlv)
            have hd := cmpK_ge _ _ (fun h => hlv (hks.2 h))
            rw [← hjp] at hd
            generalize cmpK (kc (gn zj j)) (kc (gn zj jp)) = cc at hcm hd
            simp only [eA, eB] at c1 c1b c2 c2b hcm
            have HCM := Lib.hid hcm
            clear HI hlv hjp hcm hks
            go_wp2_with fail
            refine wp_region_kept (by kernel_rfl) (by kernel_rfl) ?_
            repeat (quiet_step (first | (go_at_fn fc; with_reducible exact kept_of (HCM.out _))))
            refine wpQuiet_nil ?_
            intro _ hw'
            obtain ⟨p, hw''⟩ := hw'
            subst hw''
            have HX2 := Lib.hid (HW.out p.x p.h)
            clear c1 c1b c2 c2b HCM HW HS
            generalize p.x = w2 at *
            go_wp2_with fail
            go_roundg (b - (i + 1))
            case measure => omega
            case rel => exact ⟨i + 1, zj, by go_num, by omega, by omega, by omega, HX2, HT, HO2, HF⟩
        · have hjaz : decide ((j : Int) > (a : Int)) = false := decide_eq_false (by omega)
          have hjaz' : ¬ (a : Int) < (j : Int) := by omega
          have HO2 : Hid (Srt key zj a (i + 1)) := HI.out.done haj (.inl (by omega))
          have HX2 := Lib.hid HS.out.drew
          clear HS HI
          go_wp2_with fail
          go_region
          go_wp2_with fail
          go_roundg (b - (i + 1))
          case measure => omega
          case rel => exact ⟨i + 1, zj, by go_num, by omega, by omega, by omega, HX2, HT, HO2, HF⟩
    · have hltz : ¬ (i : Int) < (b : Int) := by omega
      go_wp2_with fail
      go_end0
      exact ⟨rfl, zk, HS.out, HT.out, fun p q h1 h2 h3 => HO.out p q h1 h2 (by omega), HF.out⟩
end Go.Proofs.Ytlnknnmlepgjfaa.Sg
