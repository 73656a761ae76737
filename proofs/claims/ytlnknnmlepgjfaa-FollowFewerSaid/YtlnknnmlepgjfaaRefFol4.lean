/- Sets as a value and in a block; contracts of plain and of the document's Same of layer 12. No condition beyond each theorem's own premises. -/
import Derived.Test.YtlnknnmlepgjfaaRefFol3
namespace Go.Proofs.Ytlnknnmlepgjfaa
set_option linter.unusedVariables false
set_option linter.unusedSimpArgs false
set_option maxRecDepth 100000
open Go.ChangeShapes Go.WideShapes Go.ChangeAt Go.RowKit

/-- cells of 256 slices that hold the bytes f -/
def SC (w : World) (cs : Array Value) (f : Nat → List UInt8) : Prop := cs.size = 256 ∧ ∀ c, c < 256 → ∃ v, cs[c]? = some v ∧ Bs w v (f c)
/-- sets as a value -/
def SV (w : World) (V : Value) (f : Nat → List UInt8) : Prop := ∃ cs, V = .agg cs ∧ SC w cs f
theorem SC.keep {w w' : World} {cs : Array Value} {f : Nat → List UInt8} (h : SC w cs f) (k : Keep [] w w') : SC w' cs f :=
  ⟨h.1, fun c hc => by obtain ⟨v, h1, h2⟩ := h.2 c hc; exact ⟨v, h1, h2.keep k (by simp)⟩⟩
theorem SV.keep {w w' : World} {V : Value} {f : Nat → List UInt8} (h : SV w V f) (k : Keep [] w w') : SV w' V f := by
  obtain ⟨cs, rfl, h⟩ := h; exact ⟨cs, rfl, h.keep k⟩
theorem SC.one {w : World} {cs : Array Value} {f : Nat → List UInt8} (h : SC w cs f) : ∀ v ∈ cs.toList, v.oneCell' = true := by
  intro v hv
  obtain ⟨i, hi, rfl⟩ := List.getElem_of_mem hv
  have hi2 : i < 256 := by have := h.1; simp at hi; omega
  obtain ⟨v, h1, h2⟩ := h.2 i hi2
  obtain ⟨a, cp, rfl, _⟩ := h2.shape
  have : cs.toList[i] = .slice a (f i).length cp := by
    have := Array.getElem?_eq_some_iff.1 h1
    simpa using this.2
  rw [this]; rfl
/-- sets in the block q -/
def SB (w : World) (q : Nat) (t : TypeId) (f : Nat → List UInt8) : Prop := ∃ cs, Blk w q cs t ∧ cs.size = 256 ∧ ∀ c, c < 256 → ∃ v, cs[c]? = some v ∧ Bs w v (f c) ∧ (f c ≠ [] → ∀ x, v.ownBlock = some x → x ≠ q)
theorem SB.keep {w w' : World} {q : Nat} {t : TypeId} {f : Nat → List UInt8} (h : SB w q t f) (k : Keep [] w w') : SB w' q t f := by
  obtain ⟨cs, h1, h2, h3⟩ := h
  refine ⟨cs, h1.keep k (by simp), h2, fun c hc => ?_⟩
  obtain ⟨v, a, b, d⟩ := h3 c hc
  exact ⟨v, a, b.keep k (by simp), d⟩
theorem SB.lt {w : World} {q : Nat} {t : TypeId} {f : Nat → List UInt8} (h : SB w q t f) : q < w.heap.size := by
  obtain ⟨cs, h1, _⟩ := h; exact h1.lt
theorem SB.cell {w : World} {q : Nat} {t : TypeId} {f : Nat → List UInt8} (h : SB w q t f) (c : Nat) (hc : c < 256) : ∃ a cp, w.cell? ⟨q, c, none⟩ = some (.slice a (f c).length cp) ∧ Bs w (.slice a (f c).length cp) (f c) := by
  obtain ⟨cs, h1, h2, h3⟩ := h
  obtain ⟨v, a, b, d⟩ := h3 c hc
  obtain ⟨ad, cp, rfl, _⟩ := b.shape
  exact ⟨ad, cp, h1.cell c _ a, b⟩
theorem SB.free {w : World} {q : Nat} {t : TypeId} {f : Nat → List UInt8} (h : SB w q t f) (c : Nat) : w.frozen? ⟨q, c, none⟩ = false := by
  obtain ⟨cs, h1, _⟩ := h; exact h1.free c
theorem SB.set {w : World} {q : Nat} {t : TypeId} {f : Nat → List UInt8} (h : SB w q t f) (c : Nat) (hc : c < 256) (v : Value) (l : List UInt8) (hv : Bs w v l) (hq : l ≠ [] → ∀ x, v.ownBlock = some x → x ≠ q) : SB (w.setCell ⟨q, c, none⟩ v) q t (fun i => if i = c then l else f i) := by
  obtain ⟨cs, h1, h2, h3⟩ := h
  have KC : Keep [q] w (w.setCell ⟨q, c, none⟩ v) := (Keep.refl [q] w).setCell (by simp) _
  refine ⟨_, h1.set c v, by simp [h2], fun i hi => ?_⟩
  rw [Array.getElem?_setIfInBounds, h2]
  by_cases e : i = c
  · subst e
    rw [if_pos rfl, if_pos hc]
    exact ⟨v, rfl, by show Bs _ v (if i = i then l else f i); rw [if_pos rfl]; exact hv.keep' KC (by simpa using hq), fun hne => hq (by simpa using hne)⟩
  · rw [if_neg (fun h => e h.symm)]
    obtain ⟨u, a, b, d⟩ := h3 i hi
    exact ⟨u, a, by show Bs _ u (if i = c then l else f i); rw [if_neg e]; exact b.keep' KC (by simpa using d), fun hne => d (by simpa [e] using hne)⟩
theorem SB.congr {w : World} {q : Nat} {t : TypeId} {f f' : Nat → List UInt8} (h : SB w q t f) (e : ∀ c, c < 256 → f c = f' c) : SB w q t f' := by
  obtain ⟨cs, h1, h2, h3⟩ := h
  exact ⟨cs, h1, h2, fun c hc => by rw [← e c hc]; exact h3 c hc⟩
/-- sets without followers -/
def zset : Array Value := Array.replicate 256 (.slice none 0 0)
theorem setsInfo : (Try.prog.info? 39).map (fun i => (i.zero, i.size)) = some (some (.agg zset), 256) := by kernel_rfl
theorem SB.zero {w : World} {q : Nat} {t : TypeId} (h : Blk w q zset t) : SB w q t (fun _ => []) := by
  refine ⟨zset, h, by simp [zset], fun c hc => ⟨.slice none 0 0, ?_, Bs.nil _, by simp [Value.ownBlock]⟩⟩
  simp [zset, hc]
set_option maxHeartbeats 2000000 in
theorem plain12_c (w : World) (V : Value) (f : Nat → List UInt8) (h : SV w V f) : Calls Try.prog 7 #[V] w fun e w' => ∃ q, e = .returned (.pointer (some ⟨q, 0, none⟩)) ∧ SB w' q 39 f ∧ Keep [] w w' := by
  obtain ⟨cs, rfl, hS⟩ := h
  have hz := (zero_of_info (P := Try.prog) setsInfo).1
  generalize hZ : zset = Z at hz
  have HZ := Lib.hid hZ; clear hZ
  go_enter Try.func7, Try.ntmps7
  go_wp2_with fail
  have KA : Keep [] w ((w.alloc (.cells cs 28)).alloc (.cells Z 39)) := ((Keep.refl [] w).alloc _).alloc _
  have hA : Blk ((w.alloc (.cells cs 28)).alloc (.cells Z 39)) w.heap.size cs 28 := (Blk.new w _ _).alloc _
  have hB : SB ((w.alloc (.cells cs 28)).alloc (.cells Z 39)) (w.heap.size + 1) 39 (fun _ => []) := by
    refine SB.zero ?_
    have := Blk.new (w.alloc (.cells cs 28)) Z 39
    rw [HZ.out]; simpa using this
  generalize (w.alloc (.cells cs 28)).alloc (.cells Z 39) = w1 at KA hA hB ⊢
  have HS := Lib.hid hS
  clear hS hz
  go_wp2_with fail
  go_loopw [4] (fun iv wr => ∃ k : Nat, k ≤ 256 ∧ iv = .int .i64 k ∧ Blk wr w.heap.size cs 28 ∧ SB wr (w.heap.size + 1) 39 (fun c => if c < k then f c else []) ∧ Keep [] w wr) (fun iv _ => 256 - (intOf iv).toNat)
  case atStart => exact ⟨0, by omega, rfl, hA, hB.congr (fun c _ => by simp), KA⟩
  case round =>
    obtain ⟨k, hk, rfl, hA2, hB2, KK⟩ := hrel
    by_cases hx : k < 256
    · have t1 : decide (k < 256) = true := by simpa using hx
      have t1' : decide ((k : Int) < 256) = true := by simp; omega
      have hxi : (k : Int) < 256 := by omega
      have hs1 : IntKind.i64.wrap ((k : Int) + 1) = ((k + 1 : Nat) : Int) := by rw [IntKind.wrap_i64]; omega
      obtain ⟨v, hv, hvb⟩ := HS.out.2 k hx
      obtain ⟨a, cp, rfl, _⟩ := hvb.shape
      have cell := hA2.cell k _ hv
      have hvb2 := (hvb.keep KK (by simp)).keep ((Keep.refl [] wr).drew) (by simp)
      have hB3 := hB2.keep ((Keep.refl [] wr).drew)
      have hA3 := hA2.keep ((Keep.refl [] wr).drew) (by simp)
      have KK3 := KK.drew
      have hvo : ∀ x, (Value.slice a (f k).length cp).ownBlock = some x → f k ≠ [] → x ≠ w.heap.size + 1 := by
        intro x hx' hne e
        have := hvb.lt hne x hx'
        omega
      go_upto_region 5 with fail
      go_still_tail 7, (by kernel_rfl)
      change wpList _ _ _ _ _ wr.drew
      generalize wr.drew = w2 at hvb2 hB3 hA3 KK3 ⊢
      clear cell hA2 hB2 KK
      obtain ⟨a0, cp0, cell0, _⟩ := hB3.cell k hx
      have ff := hB3.free k
      have hB4 := hB3.set k hx _ _ hvb2 (fun hne x hx' => hvo x hx' hne)
      have hA4 : Blk (w2.setCell ⟨w.heap.size + 1, k, none⟩ (.slice a (f k).length cp)) w.heap.size cs 28 := hA3.other (by simp) _
      have KK4 : Keep [] w (w2.setCell ⟨w.heap.size + 1, k, none⟩ (.slice a (f k).length cp)) := KK3.setCell (.inr (by simp)) _
      go_wp2_with fail
      go_roundw
      case rel => exact ⟨k + 1, by omega, rfl, hA4, hB4.congr (fun c hc => by
        by_cases e : c = k
        · subst e; simp
        · rw [if_neg e]
          by_cases e2 : c < k
          · rw [if_pos e2, if_pos (by omega)]
          · rw [if_neg e2, if_neg (by omega)]), KK4⟩
      case measure => simp [intOf]; omega
    · have t1 : decide (k < 256) = false := by simpa using hx
      have t1' : decide ((k : Int) < 256) = false := by simp; omega
      have hk2 : k = 256 := by omega
      have HK := Lib.hid hk2
      clear hx hk2
      go_wp2_with fail
      go_ret
      exact ⟨w.heap.size + 1, rfl, hB2.congr (fun c hc => by rw [if_pos (by have := HK.out; omega)]), KK⟩
set_option maxHeartbeats 2000000 in
theorem same12_c (w : World) (q q' : Nat) (f : Nat → List UInt8) (h : SB w q 39 f) (h' : SB w q' 39 f) : Calls Try.prog 6 #[.pointer (some ⟨q, 0, none⟩), .pointer (some ⟨q', 0, none⟩)] w fun e w' => e = .returned (.bool true) ∧ Keep [] w w' := by
  have HA := Lib.hid h; have HB := Lib.hid h'
  clear h h'
  go_enter Try.func6, Try.ntmps6
  go_wp2_with fail
  go_loopw [5] (fun iv wr => ∃ k : Nat, k ≤ 256 ∧ iv = .int .i64 k ∧ Keep [] w wr) (fun iv _ => 256 - (intOf iv).toNat)
  case atStart => exact ⟨0, by omega, rfl, Keep.refl _ _⟩
  case round =>
    obtain ⟨k, hk, rfl, KK⟩ := hrel
    by_cases hx : k < 256
    · have t1 : decide (k < 256) = true := by simpa using hx
      have t1' : decide ((k : Int) < 256) = true := by simp; omega
      have hxi : (k : Int) < 256 := by omega
      have hs1 : IntKind.i64.wrap ((k : Int) + 1) = ((k + 1 : Nat) : Int) := by rw [IntKind.wrap_i64]; omega
      obtain ⟨a, cp, cell, hb⟩ := (HA.out.keep KK).cell k hx
      obtain ⟨a', cp', cell', hb'⟩ := (HB.out.keep KK).cell k hx
      have hsm := fun m => same_c (wr.drewN m) _ _ (f k) (f k) (hb.keep ((Keep.refl [] wr).drewN m) (by simp)) (hb'.keep ((Keep.refl [] wr).drewN m) (by simp))
      simp only [decide_true] at hsm
      have HSM := Lib.hid hsm
      clear hsm hb hb'
      generalize (f k).length = ln at cell cell' HSM
      go_upto_region 4 with fail
      go_quiet ((go_at_call 15; exact Calls.quiet_of (HSM.out _)))
      go_wp2_with fail
      go_roundw
      case rel => exact ⟨k + 1, by omega, rfl, KK.drewN _⟩
      case measure => simp [intOf]; omega
    · have t1 : decide (k < 256) = false := by simpa using hx
      have t1' : decide ((k : Int) < 256) = false := by simp; omega
      clear hx
      go_wp2_with fail
      go_ret
      exact ⟨rfl, KK⟩
end Go.Proofs.Ytlnknnmlepgjfaa
