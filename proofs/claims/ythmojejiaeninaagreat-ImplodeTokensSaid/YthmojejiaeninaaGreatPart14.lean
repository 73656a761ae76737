/- Texts put together: Round -/
import Derived.Test.YthmojejiaeninaaGreatPart13
import Derived.Test.YthmojejiaeninaaGreatPart10
namespace Go.Proofs.YthmojejiaeninaaGreat
set_option linter.unusedVariables false
set_option linter.unusedSimpArgs false
open Go.ChangeShapes Go.WideShapes Go.ChangeAt Go.RowKit Go.Shelf

/-- what goes on as usual -/
def onlyN (R : Exit → Act → World → Prop) : Exit → Act → World → Prop := fun e a w => e = .normal ∧ R .normal a w
theorem oper_round {P : Program} {o : Oper} {a : Act} {w : World} {l n : Nat} {K K' : Act → World → Prop} {R : Exit → Act → World → Prop} (hd : ∀ c, o.op ≠ .defer c) (hK : ∀ a w, K a w → K' a w) (h : o.wp P a w K (onlyN R)) :
    o.wpIn (Fence.wide.inRound l) n P a w K' R := by
  refine ⟨fun _ _ => trivial, ?_⟩
  have e : o.semAt (Fence.wide.inRound l).round a.eval = execOp a.eval o := Oper.semAt_some l _ _ hd
  rw [e]
  unfold Oper.wp at h
  generalize (execOp a.eval o).run P w = r at h ⊢
  rcases r with ⟨x, w'⟩ | _
  · cases x with
    | value v => exact hK _ _ h
    | skip => exact hK _ _ h
    | defer d => exact hK _ _ h
    | enter f args =>
      refine ⟨fun h => by simp [Fence.wide] at h, ?_⟩
      have h : Calls P f args w' _ := h
      refine CallsIn.inRound l ((callsIn_wide.2 h).mono ?_)
      rintro e w'' he
      cases e with
      | returned v => exact hK _ _ he
      | panicked chain => exact absurd he.1 (by simp)
      | outgrown => obtain ⟨_, _, he, _⟩ := he; cases he
    | row row args =>
      refine ⟨fun h => by simp [Fence.wide] at h, ?_⟩
      exact fun c cs _ => let ⟨v, w'', hv, hs⟩ := h c cs; ⟨v, w'', hK _ _ hv, stepsIn_wide.2 hs⟩
    | _ => exact False.elim h
  · rename_i hh w'
    cases hh with
    | panic v => exact absurd h.1 (by simp)
    | _ => exact False.elim h
theorem wpAny_round {P : Program} {md : Region.Mode} {ops : Array Oper} {l n : Nat} {R : Exit → Act → World → Prop} (hd : ∀ (i : Nat) (o : Oper), ops[i]? = some o → ∀ c, o.op ≠ .defer c) : ∀ (fuel : Nat) (listed : Array Bool) (a : Act) (w : World),
    wpAny P md ops (onlyN R) fuel listed a w → wpAnyIn (Fence.wide.inRound l) n P md ops R fuel listed a w := by
  intro fuel
  induction fuel with
  | zero => intro listed a w h; exact ⟨h.1, h.2.2⟩
  | succ f ih =>
    intro listed a w h
    refine ⟨fun he => (h.1 he).2, fun i hi => ?_⟩
    have h2 := h.2 i hi
    unfold wpOp at h2
    unfold wpOpIn
    split
    · rename_i ho; simp only [ho] at h2; exact ih _ _ _ h2
    · rename_i o ho
      simp only [ho] at h2
      split
      · rename_i hw
        simp only [hw, if_true] at h2
        rcases h2 with h2 | ⟨_, _, _, h2, _⟩
        · exact oper_round (hd i o ho) (fun a w h => ih _ a w h) h2
        · cases h2
      · rename_i hw
        simp only [hw] at h2
        exact ⟨fun _ _ => trivial, ih _ _ _ h2⟩
def noDefer (l : List Oper) : Bool := l.all fun o => match o.op with | .defer _ => false | _ => true
theorem noDefer_spec {l : List Oper} (h : noDefer l = true) : ∀ (i : Nat) (o : Oper), l.toArray[i]? = some o → ∀ c, o.op ≠ .defer c := by
  intro i o ho c he
  have hm : o ∈ l := by simpa using List.mem_of_getElem? (by simpa using ho : l[i]? = some o)
  have := List.all_eq_true.1 h o hm
  rw [he] at this
  cases this
theorem wpIn_region_kept_tail {P : Program} {id l' m : Nat} {R : Exit → Act → World → Prop} {a : Act} {w : World} {l : List Oper} (n : Nat) (hm : P.follows .mixedOrders = true) (hd : noDefer l = true) (hB : Region.lexTailB .any l.toArray n = true)
    (h : wpQuiet P l.toArray (fun w' => ∃ p : Kept w, w' = p.x) (fun a' => ∀ w', (∃ p : Kept w, w' = p.x) → wpList P l.toArray (onlyN R) (l.drop n) a' w') (l.take n) a) : (Code.region id l.toArray true).wpIn (Fence.wide.inRound l') m P R a w :=
  wpIn_region_any hm (wpAny_round (noDefer_spec hd) _ _ _ _ (wpAny_quiet_tail (C := fun w' => ∃ p : Kept w, w' = p.x) n hB ⟨⟨w.drew, (Keep.refl [] w).drew⟩, rfl⟩ h))
end Go.Proofs.YthmojejiaeninaaGreat
