/- Texts put together: Lz1 -/
import Derived.Test.YtkefidbokeifdaaPart5
import Derived.Test.YtkefidbokeifdaaPart6
import Derived.BigQuiet
import Derived.Laws.Cover3
import Derived.Laws.Rows
namespace Go.Proofs.Ytkefidbokeifdaa
set_option linter.unusedVariables false
set_option linter.unusedSimpArgs false
open Go.ChangeShapes Go.WideShapes Go.ChangeAt Go.RowKit

/-- a slot of the table -/
def ES : El Slt := ⟨3, 121, 97, 4, fun s => [.int .i16 s.par, .int .u8 s.byt.toNat, .bool s.on]⟩
theorem ESg : ES.Good := by
  refine ⟨by decide, fun _ => rfl, fun x u hu => ?_, by kernel_rfl, Try.underlying97, by decide⟩
  simp only [ES, List.mem_cons, List.not_mem_nil, or_false] at hu
  rcases hu with rfl | rfl | rfl <;> rfl
/-- a code in a row of codes -/
def EI : El Nat := ⟨1, 3, 33, 8, fun n => [.int .i64 n]⟩
theorem EIg : EI.Good := by
  refine ⟨by decide, fun _ => rfl, fun x u hu => ?_, by kernel_rfl, Try.underlying33, by decide⟩
  simp only [EI, List.mem_cons, List.not_mem_nil, or_false] at hu
  subst hu; rfl
/-- the slots' value -/
def svv (sb : Nat) : Value := .slice (some ⟨sb, 0, none⟩) 8192 8192
/-- block q is the landed table: slots in block sb, codes vg, map g with k codes -/
structure LTb (w : World) (q sb : Nat) (vg : Value) (g k : Nat) (gs : List Nat) (s : LT) : Prop where
  box : Blk w q #[.slice (some ⟨sb, 0, none⟩) 8192 8192, vg, .map (some g), .int .i64 k, .int .i64 s.next] 100
  slo : OwnG ES w (.slice (some ⟨sb, 0, none⟩) 8192 8192) (slots (sloF s.rows))
  giv : OwnG EI w vg gs
  lea : ∃ L, LinkM w g k L ∧ Lst s.rows (gs.take k) L
  per : Gvn s.rows gs
  kle : k ≤ gs.length
  ok : s.ok
  qs : q ≠ sb
  qg : q ≠ g
  sg : sb ≠ g
  vb : ∀ b, vg.ownBlock = some b → b ≠ q ∧ b ≠ sb ∧ b ≠ g
theorem LTb.keep {w w' : World} {q sb : Nat} {vg : Value} {g k : Nat} {gs : List Nat} {s : LT} {S : List Nat} (h : LTb w q sb vg g k gs s) (kp : Keep S w w') (h1 : q ∉ S) (h2 : sb ∉ S) (h3 : g ∉ S) (h4 : ∀ b, vg.ownBlock = some b → b ∉ S) : LTb w' q sb vg g k gs s := by
  obtain ⟨L, hL, hl⟩ := h.lea
  exact ⟨h.box.keep kp h1, h.slo.keep kp (by simpa [Value.ownBlock] using h2), h.giv.keep kp h4, ⟨L, hL.keep kp h3, hl⟩, h.per, h.kle, h.ok, h.qs, h.qg, h.sg, h.vb⟩
theorem LTb.drewN {w : World} {q sb : Nat} {vg : Value} {g k : Nat} {gs : List Nat} {s : LT} (h : LTb w q sb vg g k gs s) (n : Nat) : LTb (w.drewN n) q sb vg g k gs s := h.keep (S := []) ((Keep.refl [] w).drewN n) (by simp) (by simp) (by simp) (by simp)
theorem LTb.slot {w : World} {q sb : Nat} {vg : Value} {g k : Nat} {gs : List Nat} {s : LT} (h : LTb w q sb vg g k gs s) (c : Nat) (hc : c < 8192) :
    w.cell? ⟨sb, c * 3, none⟩ = some (.int .i16 (sloF s.rows c).par) ∧ w.cell? ⟨sb, c * 3 + 1, none⟩ = some (.int .u8 (sloF s.rows c).byt.toNat) ∧ w.cell? ⟨sb, c * 3 + 2, none⟩ = some (.bool (sloF s.rows c).on) := by
  have hl : c < (slots (sloF s.rows)).length := by rw [slots_len]; exact hc
  have h0 := h.slo.cell ESg c 0 hl (by decide)
  have h1 := h.slo.cell ESg c 1 hl (by decide)
  have h2 := h.slo.cell ESg c 2 hl (by decide)
  rw [slots_get] at h0 h1 h2
  exact ⟨h0, h1, h2⟩
theorem LTb.next_wf {w : World} {q sb : Nat} {vg : Value} {g k : Nat} {gs : List Nat} {s : LT} (h : LTb w q sb vg g k gs s) : -1 ≤ s.next ∧ s.next < 8192 := by
  rcases s.next_cases h.ok with h1 | ⟨n, h1, h2, h3, _⟩ <;> omega
/-- a table that New did not make -/
def ltz : Array Value := #[.slice none 0 0, .slice none 0 0, .map none, .int .i64 0, .int .i64 0]
theorem ltInfo : (Try.prog.info? 100).map (fun i => (i.zero, i.size)) = some (some (.agg ltz), 5) := by kernel_rfl
theorem ltBuilt : Try.prog.built 100 [] = some ltz := by kernel_rfl
def LtPlain (w : World) (q : Nat) : Prop := Blk w q ltz 100
theorem LtPlain.keep {w w' : World} {q : Nat} {S : List Nat} (h : LtPlain w q) (k : Keep S w w') (hq : q ∉ S) : LtPlain w' q := Blk.keep h k hq
theorem ltz_plain (w : World) (q : Nat) (h : Blk w q ltz 100) : LtPlain w q := h

theorem lmade_none (w : World) : Calls Try.prog 59 #[.pointer none] w fun e w' => e = .returned (.bool false) ∧ w = w' := by
  go_enter Try.func59, Try.ntmps59
  go_wp2
  go_ret
  exact ⟨rfl, rfl⟩
theorem lmade_plain (w : World) (q : Nat) (h : LtPlain w q) : Calls Try.prog 59 #[.pointer (some ⟨q, 0, none⟩)] w fun e w' => e = .returned (.bool false) ∧ w = w' := by
  have c0 : w.cell? ⟨q, 0, none⟩ = some (.slice none 0 0) := Blk.cell h 0 _ rfl
  go_enter Try.func59, Try.ntmps59
  go_wp2
  go_ret
  exact ⟨rfl, rfl⟩
theorem lmade_c (w : World) (q sb : Nat) (c0 : w.cell? ⟨q, 0, none⟩ = some (.slice (some ⟨sb, 0, none⟩) 8192 8192)) : Calls Try.prog 59 #[.pointer (some ⟨q, 0, none⟩)] w fun e w' => e = .returned (.bool true) ∧ w = w' := by
  go_enter Try.func59, Try.ntmps59
  go_wp2
  go_ret
  exact ⟨rfl, rfl⟩
theorem iscode_c (w : World) (n : Int) : Calls Try.prog 76 #[.int .i64 n] w fun e w' => e = .returned (.bool (decide (0 ≤ n ∧ n < 8192))) ∧ w = w' := by
  by_cases h0 : 0 ≤ n
  · have d0 : decide (0 ≤ n) = true := by simpa using h0
    have e : decide (0 ≤ n ∧ n < 8192) = decide (n < 8192) := by simp [h0]
    rw [e]
    clear h0 e
    go_enter Try.func76, Try.ntmps76
    go_wp2
    go_ret
    exact ⟨rfl, rfl⟩
  · have d0 : decide (0 ≤ n) = false := by simpa using h0
    have e : decide (0 ≤ n ∧ n < 8192) = false := by simp [h0]
    rw [e]
    clear h0 e
    go_enter Try.func76, Try.ntmps76
    go_wp2
    go_ret
    exact ⟨rfl, rfl⟩
theorem lnext_c (w : World) (q sb : Nat) (vg : Value) (g k : Nat) (gs : List Nat) (s : LT) (h : LTb w q sb vg g k gs s) : Calls Try.prog 47 #[.pointer (some ⟨q, 0, none⟩)] w fun e w' => e = .returned (.int .i64 s.next) ∧ w = w' := by
  have c0 : w.cell? ⟨q, 0, none⟩ = some (.slice (some ⟨sb, 0, none⟩) 8192 8192) := h.box.cell 0 _ rfl
  have HM := Lib.hid (lmade_c w q sb c0)
  have c4 : w.cell? ⟨q, 4, none⟩ = some (.int .i64 s.next) := h.box.cell 4 _ rfl
  clear h c0
  generalize s.next = nx at *
  go_enter Try.func47, Try.ntmps47
  go_wp2_with fail
  refine HM.out.mono ?_; rintro e w' ⟨rfl, rfl⟩
  clear HM
  go_wp2_with fail
  go_ret
  exact ⟨rfl, rfl⟩
set_option maxRecDepth 100000 in
theorem lfree_c (w : World) (q sb : Nat) (rows : List Lk) (la : Nat) (c0 : w.cell? ⟨q, 0, none⟩ = some (.slice (some ⟨sb, 0, none⟩) 8192 8192)) (hla : la ≤ 8191)
    (hs : ∀ c, c < 8192 → w.cell? ⟨sb, c * 3 + 2, none⟩ = some (.bool (sloF rows c).on)) : Calls Try.prog 70 #[.pointer (some ⟨q, 0, none⟩), .int .i64 ((la : Int) + 1)] w fun e w' => e = .returned (.int .i64 (LT.next ⟨rows, la⟩)) ∧ w = w' := by
  have HN : Hid (LT.next ⟨rows, la⟩ = nxF rows 8192 (la + 1)) := rfl
  generalize LT.next ⟨rows, la⟩ = nx at *
  have HS := Lib.hid hs
  have HX := Lib.hid (nxF_succ rows)
  clear hs
  go_enter Try.func70, Try.ntmps70
  go_wp2_with fail
  go_loopw [5] (fun iv wr => ∃ i f : Nat, iv = .int .i64 i ∧ i ≤ 8192 ∧ Hid (8192 ≤ i + f) ∧ Hid (nx = nxF rows f i) ∧ wr = w) (fun iv _ => 8192 - (intOf iv).toNat)
  case atStart => exact ⟨la + 1, 8192, by simp, by omega, by show 8192 ≤ _; omega, HN, rfl⟩
  case round =>
    obtain ⟨i, f, rfl, hi, hf, hx, rfl⟩ := hrel
    clear HN
    by_cases hlt : i < 8192
    · have h2 : (i : Int) < 8192 := by omega
      have hc := HS.out i hlt
      obtain ⟨f', rfl⟩ : ∃ f', f = f' + 1 := ⟨f - 1, by have := hf.out; omega⟩
      have hx2 := hx.out
      rw [HX.out, if_pos hlt] at hx2
      have hon := sloF_on (rows := rows) (c := i)
      by_cases hz : atI rows (i : Nat) < 0
      · rw [if_pos hz] at hx2
        rw [decide_eq_false (by omega)] at hon
        rw [hon] at hc
        have HR := Lib.hid hx2
        clear hx2 hz hon hx
        go_wp2_with fail
        go_ret
        exact ⟨by rw [HR.out]; rfl, rfl⟩
      · rw [if_neg hz] at hx2
        rw [decide_eq_true (by omega)] at hon
        rw [hon] at hc
        have HR := Lib.hid hx2
        have HF := Lib.hid (show 8192 ≤ i + 1 + f' by have := hf.out; omega)
        clear hx2 hz hon hx hf
        go_wp2_with fail
        go_roundw
        case rel => exact ⟨i + 1, f', by go_num, by omega, HF, HR, trivial⟩
        case measure => simp [intOf]; omega
    · have h2 : ¬ (i : Int) < 8192 := by omega
      have HR : Hid (nx = -1) := by
        have := hx.out
        cases f with
        | zero => exact this
        | succ f => rw [HX.out, if_neg hlt] at this; exact this
      clear hx hf hlt
      go_wp2_with fail
      go_ret
      exact ⟨by rw [HR.out]; rfl, rfl⟩
theorem lkBuilt : Try.prog.built 108 [] = some #[.int .i64 0, .int .u8 0] := by kernel_rfl
theorem llink_c (w : World) (p : Nat) (c : UInt8) (on : Bool) (hp : p < 8192) : Calls Try.prog 81 #[.agg #[.int .i16 p, .int .u8 c.toNat, .bool on]] w fun e w' => e = .returned (.agg #[.int .i64 p, .int .u8 c.toNat]) ∧ Keep [] w w' := by
  have hw : IntKind.i64.wrap (p : Int) = p := by rw [IntKind.wrap_i64]; omega
  go_enter Try.func81, Try.ntmps81
  go_wp2_with fail
  have HB := Lib.hid (Blk.new (w.alloc (.cells #[.int .i16 p, .int .u8 c.toNat, .bool on] 121)) #[.int .i64 p, .int .u8 c.toNat] 108)
  have hsz : (w.alloc (.cells #[.int .i16 p, .int .u8 c.toNat, .bool on] 121)).heap.size = w.heap.size + 1 := by simp
  rw [hsz] at HB
  refine bodyPost_ret (results_cell_row rfl _ _ _ _ _ (0, 0) _ rfl HB.out Try.underlying108 rfl (by kernel_rfl)) rfl ?_
  exact ⟨rfl, (((Keep.refl [] w).alloc _).alloc _)⟩
end Go.Proofs.Ytkefidbokeifdaa
