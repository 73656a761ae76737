/- Contract of the library's insertionSortCmpFunc at rows of int. -/
import Derived.Test.YtibhelfiibincaaSrt1
import Derived.Shelf.Abstract
namespace Go.Proofs.Ytibhelfiibincaa
set_option linter.unusedVariables false
set_option linter.unusedSimpArgs false
open Go.ChangeShapes Go.WideShapes Go.ChangeAt Go.RowKit

/-- what a comparison answers of two keys -/
def cmpK (x y : Int) : Int := if x < y then -1 else if y < x then 1 else 0
theorem cmpK_lt (x y : Int) (h : x < y) : decide (cmpK x y < 0) = true := by unfold cmpK; rw [if_pos h]; decide
theorem cmpK_ge (x y : Int) (h : ¬ x < y) : decide (cmpK x y < 0) = false := by
  unfold cmpK; rw [if_neg h]; split <;> decide
/-- the function fc, bound to cb, holds the keys of numbers with Pd against one another, in whatever world comes of w0 by turns of block g alone -/
def CmpBy (fc : Nat) (cb : Array Value) (Pd : Int → Prop) (key : Int → Int) (w0 : World) (g : Nat) : Prop :=
  (∀ args w, (callFunc fc args).run Try.prog w = .ok (.enter fc args) w) ∧
  ∀ w, Keep [g] w0 w → ∀ x y, Pd x → Pd y → Calls Try.prog fc (#[.int .i64 x, .int .i64 y] ++ cb) w fun e w' => e = .returned (.int .i64 (cmpK (key x) (key y))) ∧ ∃ n, w' = w.drewN n
/-- sorted by their keys -/
def Srt (key : Int → Int) (zs : List Int) (a b : Nat) : Prop := ∀ p q, a ≤ p → p ≤ q → q < b → key (zn zs p) ≤ key (zn zs q)
theorem SS.pd {Pd : Int → Prop} {w0 w : World} {g n cap : Nat} {z0 zs : List Int} (h : SS w0 g n cap z0 w zs) (hP : ∀ z ∈ z0, Pd z) (i : Nat) (hi : i < n) : Pd (zn zs i) := by
  refine hP _ (h.perm.mem_iff.1 ?_)
  have hl := h.len
  unfold zn
  rw [List.getD_eq_getElem?_getD, List.getElem?_eq_getElem (by omega)]
  exact List.getElem_mem _
/-- [a, i] is sorted but for the number at j, which is no greater than those behind it -/
def Ins (key : Int → Int) (zs : List Int) (a i j : Nat) : Prop :=
  (∀ p q, a ≤ p → p ≤ q → q ≤ i → p ≠ j → q ≠ j → key (zn zs p) ≤ key (zn zs q)) ∧ ∀ q, j < q → q ≤ i → key (zn zs j) ≤ key (zn zs q)
theorem Ins.start {key : Int → Int} {zs : List Int} {a i : Nat} (h : Srt key zs a i) : Ins key zs a i i :=
  ⟨fun p q h1 h2 h3 h4 h5 => h p q h1 h2 (by omega), fun q h1 h2 => by omega⟩
theorem Ins.step {key : Int → Int} {zs : List Int} {a i j : Nat} (h : Ins key zs a i j) (haj : a < j) (hji : j ≤ i) (hi : i < zs.length) (hlt : key (zn zs j) < key (zn zs (j - 1))) : Ins key (xch zs j (j - 1)) a i (j - 1) := by
  have hx := fun k => xch_at zs j (j - 1) k (by omega) (by omega)
  refine ⟨fun p q h1 h2 h3 h4 h5 => ?_, fun q h1 h2 => ?_⟩
  · rw [hx p, hx q, if_neg h4, if_neg h5]
    by_cases e1 : p = j
    · rw [if_pos e1]
      by_cases e2 : q = j
      · rw [if_pos e2]; exact Int.le_refl _
      · rw [if_neg e2]; exact h.1 (j - 1) q (by omega) (by omega) h3 (by omega) e2
    · rw [if_neg e1]
      by_cases e2 : q = j
      · rw [if_pos e2]; exact h.1 p (j - 1) h1 (by omega) (by omega) e1 (by omega)
      · rw [if_neg e2]; exact h.1 p q h1 h2 h3 e1 e2
  · rw [hx (j - 1), hx q, if_pos rfl, if_neg (by omega)]
    by_cases e2 : q = j
    · rw [if_pos e2]; omega
    · rw [if_neg e2]; exact h.2 q (by omega) h2
theorem Ins.done {key : Int → Int} {zs : List Int} {a i j : Nat} (h : Ins key zs a i j) (haj : a ≤ j) (hs : j = a ∨ ¬ key (zn zs j) < key (zn zs (j - 1))) : Srt key zs a (i + 1) := by
  intro p q h1 h2 h3
  by_cases e1 : p = j
  · by_cases e2 : q = j
    · rw [e1, e2]; exact Int.le_refl _
    · rw [e1]; exact h.2 q (by omega) (by omega)
  · by_cases e2 : q = j
    · rcases hs with hs | hs
      · omega
      · rw [e2]
        have : key (zn zs p) ≤ key (zn zs (j - 1)) := by
          by_cases e3 : p = j - 1
          · rw [e3]; exact Int.le_refl _
          · exact h.1 p (j - 1) h1 (by omega) (by omega) e1 (by omega)
        omega
    · exact h.1 p q h1 h2 (by omega) e1 e2
set_option maxRecDepth 100000 in
set_option maxHeartbeats 8000000 in
theorem insertion_c {w0 : World} {g n cap : Nat} {z0 : List Int} (fc : Nat) (cb : Array Value) (Pd : Int → Prop) (key : Int → Int) (hC : CmpBy fc cb Pd key w0 g) (hP : ∀ z ∈ z0, Pd z) (hn : n < 4611686018427387904)
    (w : World) (zs : List Int) (a b : Nat) (hab : a ≤ b) (hb : b ≤ n) (S : SS w0 g n cap z0 w zs) :
    Calls Try.prog 36 #[.slice (some ⟨g, 0, none⟩) n cap, .int .i64 a, .int .i64 b, .func (.func fc) #[] cb] w fun e w' => e = .returned (.tuple #[]) ∧ ∃ zs', SS w0 g n cap z0 w' zs' ∧ Srt key zs' a b ∧ ∀ p, p < a ∨ b ≤ p → zn zs' p = zn zs p := by
  have eg := hC.1
  have HC := Lib.hid hC.2
  have HP := Lib.hid hP
  have S0 := Lib.hid S
  clear S hC hP
  go_enter Try.func36, Try.ntmps36
  go_wp2_with fail
  go_loopg [8] (b - a) (fun g1 vi wr => ∃ (i : Nat) (zk : List Int), vi = .int .i64 i ∧ a < i ∧ i ≤ b + 1 ∧ b + 1 - i ≤ g1 + 1 ∧ Hid (SS w0 g n cap z0 wr zk) ∧ Hid (Srt key zk a i) ∧ Hid (∀ p, p < a ∨ b ≤ p → zn zk p = zn zs p))
  case atStart => exact ⟨a + 1, zs, by go_num, by omega, by omega, by omega, S0.out, fun p q h1 h2 h3 => by rw [show p = q by omega]; exact Int.le_refl _, fun p _ => rfl⟩
  case round =>
    clear S0
    obtain ⟨i, zk, rfl, hai, hib, hg1, HS, HO, HF⟩ := hrel
    by_cases hlt : i < b
    · have hltz : (i : Int) < (b : Int) := by omega
      go_wp2_with fail
      go_loopg [9] i (fun g2 vj wr2 => ∃ (j : Nat) (zj : List Int), vj = .int .i64 j ∧ a ≤ j ∧ j ≤ i ∧ j ≤ g2 ∧ Hid (SS w0 g n cap z0 wr2 zj) ∧ Hid (Ins key zj a i j) ∧ Hid (∀ p, p < a ∨ b ≤ p → zn zj p = zn zs p))
      case atStart => exact ⟨i, zk, rfl, by omega, Nat.le_refl _, Nat.le_refl _, HS, Ins.start HO.out, HF.out⟩
      case round =>
        clear HS HO HF
        obtain ⟨j, zj, rfl, haj, hji, hg2, HS, HI, HF⟩ := hrel
        by_cases hja : a < j
        · obtain ⟨jp, hjp⟩ : ∃ q, q = j - 1 := ⟨_, rfl⟩
          have hjad : decide ((j : Int) > (a : Int)) = true := decide_eq_true (by omega)
          have hjaz : (a : Int) < (j : Int) := by omega
          have rj : IntKind.i64.wrap ((j : Int) - 1) = (jp : Int) := by rw [IntKind.wrap_i64]; omega
          have hjp1 : jp < j := by omega
          have hjp2 : a ≤ jp := by omega
          have c1 := HS.out.cell j (by omega)
          have c2 := HS.out.cell jp (by omega)
          have f1 := HS.out.free j
          have f2 := HS.out.free jp
          have hjn : (j : Int) < (n : Int) := by omega
          have hjpn : (jp : Int) < (n : Int) := by omega
          have p1 := HS.out.pd HP.out j (by omega)
          have p2 := HS.out.pd HP.out jp (by omega)
          have hcm := fun m => HC.out (wr.drewN m) (HS.out.keep.drewN m) _ _ p1 p2
          clear p1 p2
          by_cases hlv : key (zn zj j) < key (zn zj (j - 1))
          · have HX := Lib.hid (fun m => ((HS.out.drewN m).xch j jp (by omega) (by omega)).drew)
            have c3 := fun m => (HS.out.drewN m).c2 j jp (by omega) (by omega) (.int .i64 (zn zj jp))
            have HI2 : Hid (Ins key (xch zj j jp) a i jp) := by rw [hjp]; exact HI.out.step hja hji (by rw [HS.out.len]; omega) hlv
            have HF2 : Hid (∀ p, p < a ∨ b ≤ p → zn (xch zj j jp) p = zn zs p) := fun p hp => by
              rw [xch_at _ _ _ _ (by rw [HS.out.len]; omega) (by rw [HS.out.len]; omega), if_neg (by omega), if_neg (by omega)]
              exact HF.out p hp
            have hd := cmpK_lt _ _ hlv
            rw [← hjp] at hd
            generalize cmpK (key (zn zj j)) (key (zn zj jp)) = cc at hcm hd
            generalize zn zj j = x at c1 HX hcm
            generalize zn zj jp = y at c2 c3 HX hcm
            generalize xch zj j jp = z1 at HX HI2 HF2
            have HCM := Lib.hid hcm
            clear HI HF hlv hjp HS hcm
            go_wp2_with fail
            go_quiet (first | (go_at_fn fc; refine Calls.quiet_of (HCM.out _)))
            have HX2 := Lib.hid (HX.out nq)
            have g1 : (wr.drewN nq).cell? ⟨g, j, none⟩ = some (.int .i64 x) := c1
            have g2 : (wr.drewN nq).cell? ⟨g, jp, none⟩ = some (.int .i64 y) := c2
            have g3 := c3 nq
            have e1 : (wr.drewN nq).frozen? ⟨g, j, none⟩ = false := f1
            have e2 : (wr.drewN nq).frozen? ⟨g, jp, none⟩ = false := f2
            clear c1 c2 c3 f1 f2 HX HCM
            generalize wr.drewN nq = w2 at HX2 g1 g2 g3 e1 e2 ⊢
            go_wp2_with fail
            go_region
            go_wp2_with fail
            go_roundg jp
            case measure => omega
            case rel => exact ⟨jp, z1, rfl, by omega, by omega, Nat.le_refl _, HX2, HI2, HF2⟩
          · have HO2 : Hid (Srt key zj a (i + 1)) := HI.out.done haj (.inr hlv)
            have hd := cmpK_ge _ _ hlv
            rw [← hjp] at hd
            generalize cmpK (key (zn zj j)) (key (zn zj jp)) = cc at hcm hd
            generalize zn zj j = x at c1 hcm
            generalize zn zj jp = y at c2 hcm
            have HCM := Lib.hid hcm
            clear HI hlv hjp hcm
            go_wp2_with fail
            go_quiet (first | (go_at_fn fc; refine Calls.quiet_of (HCM.out _)))
            have HX2 := Lib.hid (HS.out.drewN nq)
            clear c1 c2 f1 f2 HS HCM
            generalize wr.drewN nq = w2 at HX2 ⊢
            go_wp2_with fail
            go_roundg (b - (i + 1))
            case measure => omega
            case rel => exact ⟨i + 1, zj, by go_num, by omega, by omega, by omega, HX2, HO2, HF⟩
        · have hjaz : decide ((j : Int) > (a : Int)) = false := decide_eq_false (by omega)
          have hjaz' : ¬ (a : Int) < (j : Int) := by omega
          have HO2 : Hid (Srt key zj a (i + 1)) := HI.out.done haj (.inl (by omega))
          have HX2 := Lib.hid HS.out.drew
          clear HS HI
          go_wp2_with fail
          go_region
          go_wp2_with fail
          go_roundg (b - (i + 1))
          case measure => omega
          case rel => exact ⟨i + 1, zj, by go_num, by omega, by omega, by omega, HX2, HO2, HF⟩
    · have hltz : ¬ (i : Int) < (b : Int) := by omega
      go_wp2_with fail
      go_end0
      exact ⟨rfl, zk, HS.out, fun p q h1 h2 h3 => HO.out p q h1 h2 (by omega), HF.out⟩
end Go.Proofs.Ytibhelfiibincaa
