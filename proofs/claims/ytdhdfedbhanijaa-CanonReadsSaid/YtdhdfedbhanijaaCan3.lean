/- Contract of canon's layShort: a word laid wherever the bits looked up begin with it. -/
import Derived.Test.YtdhdfedbhanijaaCan2
import Derived.Test.YtdhdfedbhanijaaQuietTail
import Derived.Laws.Tables
namespace Go.Proofs.Ytdhdfedbhanijaa
set_option linter.unusedVariables false
set_option linter.unusedSimpArgs false
open Go.ChangeShapes Go.WideShapes Go.ChangeAt Go.RowKit

/-- the cells of a Decoder -/
def DC (b : Bool) (lg : Int) (f g h : Nat → Nat) (sy : Value) (sh : List Value) : List Value :=
  .bool b :: .int .i64 lg :: ((List.range 17).map fun n => Value.int .i64 (f n)) ++ ((List.range 17).map fun n => Value.int .i64 (g n)) ++ ((List.range 17).map fun n => Value.int .i64 (h n)) ++ sy :: sh
/-- the cells of a Decoder that New did not make -/
def pz : Array Value := (DC false 0 (fun _ => 0) (fun _ => 0) (fun _ => 0) (.slice none 0 0) (List.replicate 1024 (.int .i16 0))).toArray
set_option maxRecDepth 100000 in
theorem decInfo : (Try.prog.info? 70).map (fun i => (i.zero, i.size)) = some (some (.agg pz), 1078) := by kernel_rfl
set_option maxRecDepth 100000 in
theorem decBuilt (lg : Int) (f g h : Nat → Nat) : Try.prog.built 70 [(0, .bool true), (1, .int .i64 lg), (2, .agg (BL f)), (3, .agg (BL g)), (4, .agg (BL h))] = some (DC true lg f g h (.slice none 0 0) (List.replicate 1024 (.int .i16 0))).toArray := by kernel_rfl
theorem same_res (x a c q : Nat) (h1 : x % q = c) (h2 : a % q = c) (h3 : a ≤ x) (h4 : x < a + q) : x = a := by
  have := Nat.sub_mod_eq_zero_of_mod_eq (h1.trans h2.symm)
  rw [Nat.mod_eq_of_lt (by omega)] at this
  omega
/-- the cells from cs on: bits that begin with the word cd of n bits, below a, tell symbol s -/
def Laid (cs cs' : Array Value) (s cd n a : Nat) : Prop := cs'.size = cs.size ∧ (∀ i, i < 54 → cs'[i]? = cs[i]?) ∧
  ∀ x, x < 512 → ((x % 2 ^ n = cd ∧ x < a) → cs'[54 + x * 2]? = some (.int .i16 s) ∧ cs'[54 + x * 2 + 1]? = some (.int .i16 n)) ∧
    (¬ (x % 2 ^ n = cd ∧ x < a) → cs'[54 + x * 2]? = cs[54 + x * 2]? ∧ cs'[54 + x * 2 + 1]? = cs[54 + x * 2 + 1]?)
theorem Laid.start (cs : Array Value) (s cd n : Nat) (h : cd < 2 ^ n) : Laid cs cs s cd n cd :=
  ⟨rfl, fun _ _ => rfl, fun x hx => ⟨fun ⟨h1, h2⟩ => by
    have := Nat.mod_le x (2 ^ n)
    omega, fun _ => ⟨rfl, rfl⟩⟩⟩
theorem Laid.step {cs cs' : Array Value} {s cd n a : Nat} (h : Laid cs cs' s cd n a) (hs : cs.size = 1078) (ha : a < 512) (hr : a % 2 ^ n = cd) :
    Laid cs ((cs'.setIfInBounds (54 + a * 2) (.int .i16 s)).setIfInBounds (54 + a * 2 + 1) (.int .i16 n)) s cd n (a + 2 ^ n) := by
  obtain ⟨h1, h2, h3⟩ := h
  refine ⟨by simpa using h1, fun i hi => ?_, fun x hx => ?_⟩
  · rw [Array.getElem?_setIfInBounds, if_neg (by omega), Array.getElem?_setIfInBounds, if_neg (by omega)]
    exact h2 i hi
  · obtain ⟨h4, h5⟩ := h3 x hx
    have hq : 0 < 2 ^ n := Nat.two_pow_pos n
    by_cases e : x = a
    · subst e
      refine ⟨fun _ => ?_, fun hn => absurd ⟨hr, by omega⟩ hn⟩
      simp only [Array.getElem?_setIfInBounds, Array.size_setIfInBounds]
      simp [h1, hs]; omega
    · have g1 : ¬ 54 + a * 2 + 1 = 54 + x * 2 := by omega
      have g2 : ¬ 54 + a * 2 = 54 + x * 2 := by omega
      have g3 : ¬ 54 + a * 2 + 1 = 54 + x * 2 + 1 := by omega
      have g4 : ¬ 54 + a * 2 = 54 + x * 2 + 1 := by omega
      simp only [Array.getElem?_setIfInBounds, Array.size_setIfInBounds, if_neg g1, if_neg g2, if_neg g3, if_neg g4]
      refine ⟨fun ⟨a1, a2⟩ => h4 ⟨a1, ?_⟩, fun hn => h5 fun ⟨a1, a2⟩ => hn ⟨a1, by omega⟩⟩
      rcases Nat.lt_or_ge x a with h | h
      · exact h
      · exact absurd (same_res x a cd _ a1 hr h a2) e
set_option maxRecDepth 100000 in
set_option maxHeartbeats 4000000 in
theorem layshort_c (w : World) (q : Nat) (cs : Array Value) (s cd n : Nat) (hb : Blk w q cs 70) (hsz : cs.size = 1078) (hs : s < 4096) (hn0 : 0 < n) (hn : n ≤ 16) (hcd : cd < 2 ^ n) :
    Calls Try.prog 39 #[.pointer (some ⟨q, 0, none⟩), .int .i64 s, .agg #[.int .u32 cd, .int .i64 n]] w fun e w' => e = .returned (.tuple #[]) ∧ Keep [q] w w' ∧ ∃ cs', Blk w' q cs' 70 ∧ (n ≤ 9 → Laid cs cs' s cd n 512) ∧ (9 < n → cs' = cs) := by
  have KA : Keep [q] w (w.alloc (.cells #[.int .u32 cd, .int .i64 n] 56)) := (Keep.refl [q] w).alloc _
  have hA := hb.alloc (.cells #[.int .u32 cd, .int .i64 n] 56)
  have hB := Blk.new w #[.int .u32 cd, .int .i64 n] 56
  have hq := hb.lt
  have b0 := hB.cell 0 _ rfl
  have b1 := hB.cell 1 _ rfl
  by_cases h9 : 9 < n
  · have h9' : decide ((9 : Int) < n) = true := by simp; omega
    go_enter Try.func39, Try.ntmps39
    go_wp2_with fail
    refine bodyPost_ret (results_none rfl _ _ _) rfl ?_
    exact ⟨rfl, KA, cs, hA, fun h => absurd h (by omega), fun _ => rfl⟩
  · have h16 : 2 ^ n ≤ 512 := Nat.pow_le_pow_right (n := 2) (j := 9) (by decide) (by omega)
    have HLs := Lib.hid (Laid.start cs s cd n hcd)
    have HST := Lib.hid (fun cs' a => @Laid.step cs cs' s cd n a)
    have hp : 0 < 2 ^ n := Nat.two_pow_pos n
    have hsh : (2 : Int) ^ n = ((2 ^ n : Nat) : Int) := by simp
    have HMOD := Lib.hid (fun a => Nat.add_mod_right a (2 ^ n))
    have HM0 := Lib.hid (Nat.mod_eq_of_lt hcd)
    clear hb
    generalize hQ : 2 ^ n = Q at *
    go_enter Try.func39, Try.ntmps39
    go_wp2_with fail
    generalize w.alloc (.cells #[.int .u32 cd, .int .i64 n] 56) = wA at KA hA hB b0 b1 ⊢
    go_loopw [6] (fun i wr => ∃ (a : Nat) (cs' : Array Value), a ≤ 1024 ∧ i = .int .i64 a ∧ Hid (a % Q = cd) ∧ Hid (Laid cs cs' s cd n a) ∧ Blk wr q cs' 70 ∧ Blk wr w.heap.size #[.int .u32 cd, .int .i64 n] 56 ∧ Keep [q] w wr) (fun i _ => 1024 - (intOf i).toNat)
    case atStart => exact ⟨cd, cs, by omega, rfl, HM0.out, HLs.out, hA, hB, KA⟩
    case round =>
      clear hA hB b0 b1 KA
      obtain ⟨a, cs', ha, rfl, HR, HL, hA, hB, KA⟩ := hrel
      by_cases hlt : a < 512
      · have b1 := hB.cell 1 _ rfl
        have HL2 := Lib.hid (HST.out cs' a HL.out hsz hlt HR.out)
        have HR2 : Hid ((a + Q) % Q = cd) := by unfold Hid; rw [HMOD.out]; exact HR.out
        have hsz' : cs'.size = 1078 := by rw [HL.out.1]; exact hsz
        have hd512 : (a : Int) < 512 := by omega
        have hw1 : IntKind.i16.wrap (s : Int) = s := by rw [IntKind.wrap]; simp [IntKind.bits, IntKind.signed]; omega
        have hw2 : IntKind.i16.wrap (n : Int) = n := by rw [IntKind.wrap]; simp [IntKind.bits, IntKind.signed]; omega
        have hA1 := hA.keep ((Keep.refl [] wr).drew) (by simp)
        have hB1 := hB.keep ((Keep.refl [] wr).drew) (by simp)
        have K1 := KA.drew
        clear HL HR
        go_wp2_with fail
        go_still_tail 11, (by kernel_rfl)
        change wpList _ _ _ _ _ wr.drew
        generalize wr.drew = w2 at hA1 hB1 K1 ⊢
        have d0 := hA1.cell (54 + a * 2) _ (Array.getElem?_eq_getElem (by omega))
        have d1 := hA1.cell (54 + a * 2 + 1) _ (Array.getElem?_eq_getElem (by omega))
        have p0 := hA1.free (54 + a * 2)
        have p1 := hA1.free (54 + a * 2 + 1)
        have hA2 := (hA1.set (54 + a * 2) (.int .i16 s)).set (54 + a * 2 + 1) (.int .i16 n)
        have hqw : w.heap.size ≠ q := by omega
        have hB2 := (hB1.other (p := ⟨q, 54 + a * 2, none⟩) hqw (.int .i16 s)).other (p := ⟨q, 54 + a * 2 + 1, none⟩) hqw (.int .i16 n)
        have K2 := (K1.setCell (p := ⟨q, 54 + a * 2, none⟩) (by simp) (.int .i16 s)).setCell (p := ⟨q, 54 + a * 2 + 1, none⟩) (by simp) (.int .i16 n)
        have b2 := hB2.cell 1 _ rfl
        clear hA1 hB1 K1 b1 hA hB KA
        go_wp2_with fail
        go_roundw
        case rel => exact ⟨a + Q, _, by omega, by go_num, HR2, HL2, hA2, hB2, K2⟩
        case measure => simp [intOf]; omega
      · have hd512 : ¬ (a : Int) < 512 := by omega
        have HE : Hid (Laid cs cs' s cd n 512) := by
          obtain ⟨h1, h2, h3⟩ := HL.out
          refine ⟨h1, h2, fun x hx => ?_⟩
          obtain ⟨h4, h5⟩ := h3 x hx
          exact ⟨fun ⟨a1, a2⟩ => h4 ⟨a1, by omega⟩, fun hn => h5 fun ⟨a1, a2⟩ => hn ⟨a1, hx⟩⟩
        clear HL HR hlt
        go_wp2_with fail
        go_end0
        first | exact ⟨rfl, KA, cs', hA, fun _ => HE.out, fun h => absurd h h9⟩ | exact ⟨rfl, KA, cs', hA, fun _ => HE.out⟩
end Go.Proofs.Ytdhdfedbhanijaa
