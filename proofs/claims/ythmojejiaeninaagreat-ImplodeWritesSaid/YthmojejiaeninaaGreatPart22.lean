/- Texts put together: Exp1 Exp2 Exp3 Exp4 Exp5 Exp -/
import Derived.Test.YthmojejiaeninaaGreatPart7
import Derived.Test.YthmojejiaeninaaGreatPart17
import Derived.Test.YthmojejiaeninaaGreatPart21
import Derived.Test.YthmojejiaeninaaGreatPart6
import Derived.Test.YthmojejiaeninaaGreatPart1
import Derived.Deep.LoopGhost
namespace Go.Proofs.YthmojejiaeninaaGreat
set_option linter.unusedVariables false
set_option linter.unusedSimpArgs false
set_option maxRecDepth 100000
open Go.ChangeShapes Go.WideShapes Go.ChangeAt Go.RowKit

theorem exp_params (w : World) (large trees : Bool) : Calls Tryz.prog 39 #[.bool large, .bool trees] w fun e w' => e = .returned (.tuple #[.int .i64 (win15 large), .int .i64 (low15 large), .int .i64 (least15 trees)]) ∧ Keep [] w w' := by
  cases large <;> cases trees
  all_goals
    go_enter Tryz.func39, Tryz.ntmps39
    go_wp2_with fail
    go_ret3
    exact ⟨rfl, Keep.refl _ _⟩
theorem st_bit1 {W w : World} {Ps : List Ob} (h : St W w Ps) (i : Nat) {q : Nat} {s : RS} (hi : Ps[i]? = some (Ob.rd q s)) : Calls Tryz.prog 104 #[.pointer (some ⟨q, 0, none⟩)] w fun e w' => e = .returned (.int .u32 (s.bits 1).1) ∧ St W w' (Ps.set i (Ob.rd q (s.bits 1).2)) := by
  obtain ⟨bs, ⟨v, rfl, h1⟩, h2, h3⟩ := h.focus i hi
  refine (bit_c w q v s h1).mono ?_
  rintro e w' ⟨he, hr, hk⟩
  exact ⟨he, h3 w' _ _ ⟨v, rfl, hr⟩ (hk.mono (by simp)) (fun b hb => .inl hb)⟩
/-- lengths unpacked; whatever comes of it, the objects beside the reader stay -/
theorem st_sf_unpackL {W w : World} {Ps : List Ob} (h : St W w Ps) (i : Nat) {q : Nat} {s : RS} (hi : Ps[i]? = some (Ob.rd q s)) (n : Int) : Calls Tryz.prog 116 #[.pointer (some ⟨q, 0, none⟩), .int .i64 n] w fun e w' =>
    ∃ v', e = .returned (.tuple #[v', .int .i64 (s.unp n).2.1]) ∧ Is .i64 w' v' (s.unp n).1 ∧ St W w' (Ps.set i Ob.gone) ∧ ((s.unp n).2.1 = 0 → St W w' (Ps.set i (Ob.rd q (s.unp n).2.2))) := by
  obtain ⟨bs, ⟨v, rfl, h1⟩, h2, h3⟩ := h.focus i hi
  refine (sf_unpack w q v s n h1).mono ?_
  rintro e w' ⟨v', he, hI, hk, hb, hr⟩
  exact ⟨v', he, hI, h3 w' Ob.gone [] rfl (hk.mono (by simp)) (fun b hb => by simp at hb), fun h0 => h3 w' _ _ ⟨v, rfl, hr h0⟩ (hk.mono (by simp)) (fun b hb => .inl hb)⟩
/-- a tree of a reader among others -/
theorem st_tree {W w : World} {Ps : List Ob} (h : St W w Ps) (i : Nat) {q : Nat} {s : RS} (hi : Ps[i]? = some (Ob.rd q s)) (n : Int) : Calls Tryz.prog 103 #[.pointer (some ⟨q, 0, none⟩), .int .i64 n] w fun e w' =>
    ∃ p, e = .returned (.tuple #[.pointer p, .int .i64 (tre n s).1]) ∧ ((tre n s).1 ≠ 0 → St W w' (Ps.set i Ob.gone)) ∧ ((tre n s).1 = 0 → ∃ d, p = some ⟨d, 0, none⟩ ∧ St W w' (Ps.set i (Ob.rd q (tre n s).2.2) ++ [Ob.dec6 d (tre n s).2.1])) := by
  have HU := Lib.hid (st_sf_unpackL h i hi n)
  have HGET : Hid (∀ P : Ob, (Ps.set i P)[i]? = some P) := by
    have hl : i < Ps.length := by
      rcases Nat.lt_or_ge i Ps.length with h | h
      · exact h
      · rw [List.getElem?_eq_none h] at hi; cases hi
    exact fun P => List.getElem?_set_self hl
  unfold tre
  obtain ⟨U, hU⟩ : ∃ U, s.unp n = U := ⟨_, rfl⟩
  rw [hU] at HU ⊢
  clear hU
  obtain ⟨zs, er, s2⟩ := U
  dsimp only at HU ⊢
  clear h hi
  by_cases he : er = 0
  · subst he
    rw [if_neg (by simp)]
    dsimp only
    go_enter Tryz.func103, Tryz.ntmps103
    go_wp2_with fail
    refine HU.out.mono ?_; rintro e w2 ⟨v2, rfl, hI, -, hS⟩
    have HS := Lib.hid (hS trivial)
    have HN := Lib.hid (st_sf_new HS.out v2 zs hI)
    have HLS : Hid (schk zs = 0 → Ls zs = Ln zs) := fun h => by unfold Ls; rw [if_pos h]
    clear HU hS hI
    go_wp2_with fail
    refine HN.out.mono ?_; rintro e w3 ⟨p, rfl, hk, hS3, -, hD⟩
    have HK : Hid (St W w3 (Ps.set i Ob.gone)) := by have := hS3.lose i (HGET.out _); rw [List.set_set] at this; exact this
    have HD := Lib.hid hD
    clear HN hk hD hS3
    go_wp2_with fail
    go_ret2
    refine ⟨p, rfl, fun _ => HK.out, fun h0 => ?_⟩
    obtain ⟨d, e1, e2⟩ := HD.out h0
    rw [HLS.out h0]
    exact ⟨d, e1, e2⟩
  · have t1 : ((er : Int) != 0) = true := by simp; omega
    rw [if_pos he]
    dsimp only
    have HE := Lib.hid he; clear he
    go_enter Tryz.func103, Tryz.ntmps103
    go_wp2_with fail
    refine HU.out.mono ?_; rintro e w2 ⟨v2, rfl, -, hK, -⟩
    have HK := Lib.hid hK
    clear HU hK
    go_wp2_with fail
    go_ret2
    exact ⟨none, rfl, fun _ => HK.out, fun h => absurd h HE.out⟩
/-- eight bits -/
theorem st_eight {W w : World} {Ps : List Ob} (h : St W w Ps) (i : Nat) {q : Nat} {s : RS} (hi : Ps[i]? = some (Ob.rd q s)) : Calls Tryz.prog 154 #[.agg #[], .pointer (some ⟨q, 0, none⟩)] w fun e w' =>
    e = .returned (.tuple #[.int .i64 (s.bits 8).1, .int .i64 (s.bits 8).2.E]) ∧ St W w' (Ps.set i (Ob.rd q (s.bits 8).2)) := by
  have HB := Lib.hid (st_bits (h.read ((Keep.refl [] w).alloc (.cells #[] 178))) i hi 8)
  have hlt : (s.bits 8).1 < 256 := bits_lt15 s 8 (by decide)
  have hget : (Ps.set i (Ob.rd q (s.bits 8).2))[i]? = some (Ob.rd q (s.bits 8).2) := by
    have hl : i < Ps.length := by
      rcases Nat.lt_or_ge i Ps.length with h | h
      · exact h
      · rw [List.getElem?_eq_none h] at hi; cases hi
    exact List.getElem?_set_self hl
  have HG := Lib.hid hget
  clear hget
  generalize s.bits 8 = B at HB hlt HG ⊢
  obtain ⟨x, s2⟩ := B
  dsimp only at HB hlt HG ⊢
  have hwr : IntKind.i64.wrap (x : Int) = (x : Int) := by rw [IntKind.wrap_i64]; omega
  clear h hi
  go_enter Tryz.func154, Tryz.ntmps154
  go_wp2_with fail
  refine HB.out.mono ?_; rintro e w2 ⟨rfl, hS⟩
  have HS := Lib.hid hS
  have HE := Lib.hid (st_err hS i HG.out)
  clear HB hS
  go_wp2_with fail
  refine HE.out.mono ?_; rintro e w3 ⟨rfl, rfl⟩
  go_wp2_with fail
  go_ret2
  exact ⟨rfl, HS.out⟩
end Go.Proofs.YthmojejiaeninaaGreat
namespace Go.Proofs.YthmojejiaeninaaGreat
set_option linter.unusedVariables false
set_option linter.unusedSimpArgs false
set_option maxRecDepth 100000
open Go.ChangeShapes Go.WideShapes Go.ChangeAt Go.RowKit

/-- the cells of what is read by -/
def dcCells (qr qo low least : Nat) (vb vl vd : Value) : Array Value := #[.pointer (some ⟨qr, 0, none⟩), .pointer (some ⟨qo, 0, none⟩), .int .i64 low, .int .i64 least, vb, vl, vd]
theorem dc_cells {w : World} {q qr qo low least : Nat} {vb vl vd : Value} (h : Blk w q (dcCells qr qo low least vb vl vd) 94) : w.cell? ⟨q, 0, none⟩ = some (.pointer (some ⟨qr, 0, none⟩)) ∧ w.cell? ⟨q, 1, none⟩ = some (.pointer (some ⟨qo, 0, none⟩)) ∧
    w.cell? ⟨q, 2, none⟩ = some (.int .i64 low) ∧ w.cell? ⟨q, 3, none⟩ = some (.int .i64 least) ∧ w.cell? ⟨q, 4, none⟩ = some vb ∧ w.cell? ⟨q, 5, none⟩ = some vl ∧ w.cell? ⟨q, 6, none⟩ = some vd :=
  ⟨h.cell 0 _ rfl, h.cell 1 _ rfl, h.cell 2 _ rfl, h.cell 3 _ rfl, h.cell 4 _ rfl, h.cell 5 _ rfl, h.cell 6 _ rfl⟩
/-- what a byte is read by -/
def Ob.byt (trees : Bool) (d : Nat) (L : List Nat) : Ob := if trees then Ob.dec6 d L else Ob.gone
def vbyt (trees : Bool) (d : Nat) : Value := if trees then .iface 92 (.pointer (some ⟨d, 0, none⟩)) else .iface 178 (.agg #[])
/-- what is read by, and all that it holds -/
def DcL (trees : Bool) (q qr qo low least qb ql qd : Nat) (tb tl tf : List Nat) (s : RS) (o : HS) : List Ob :=
  [Ob.box q (dcCells qr qo low least (vbyt trees qb) (.pointer (some ⟨ql, 0, none⟩)) (.pointer (some ⟨qd, 0, none⟩))) 94, Ob.rd qr s, Ob.out qo o, Ob.byt trees qb tb, Ob.dec6 ql tl, Ob.dec6 qd tf]
theorem cop15_cs (low least : Nat) (tl tf : List Nat) (s : RS) (o : HS) (x : Nat) (s1 : RS) (y : Int) (e1 : Nat) (s2 : RS) (z : Int) (e2 : Nat) (s3 : RS) (hB : s.bits low = (x, s1)) (hN : s1.nextS tf = (y, e1, s2)) (hM : s2.nextS tl = (z, e2, s3)) :
    (e1 ≠ 0 → (cop15 low least tl tf s o).1 = e1) ∧ (e1 = 0 → e2 ≠ 0 → (cop15 low least tl tf s o).1 = e2) ∧
    (e1 = 0 → e2 = 0 → z ≠ 63 → cop15 low least tl tf s o = ((o.copy (y.toNat * 2 ^ low + x + 1 : Nat) (z.toNat + least : Nat)).1, (o.copy (y.toNat * 2 ^ low + x + 1 : Nat) (z.toNat + least : Nat)).2, s3)) ∧
    (e1 = 0 → e2 = 0 → z = 63 → (s3.bits 8).2.E ≠ 0 → (cop15 low least tl tf s o).1 = (s3.bits 8).2.E) ∧
    (e1 = 0 → e2 = 0 → z = 63 → (s3.bits 8).2.E = 0 → cop15 low least tl tf s o = ((o.copy (y.toNat * 2 ^ low + x + 1 : Nat) (63 + (s3.bits 8).1 + least : Nat)).1, (o.copy (y.toNat * 2 ^ low + x + 1 : Nat) (63 + (s3.bits 8).1 + least : Nat)).2, (s3.bits 8).2)) := by
  have hT : two15 low tl tf s = if e1 ≠ 0 then (e1, 0, 0, s2) else ((len15 tl s2).2.1, y.toNat * 2 ^ low + x + 1, (len15 tl s2).1, (len15 tl s2).2.2) := by
    rw [two15_free, hB]; dsimp only; rw [hN]
  have hL : len15 tl s2 = if e2 ≠ 0 then (0, e2, s3) else if z = 63 then (63 + (s3.bits 8).1, (s3.bits 8).2.E, (s3.bits 8).2) else (z.toNat, 0, s3) := by
    unfold len15; rw [hM]
  have key : ∀ T, two15 low tl tf s = T → cop15 low least tl tf s o = if T.1 ≠ 0 then (T.1, o, T.2.2.2) else ((o.copy T.2.1 (T.2.2.1 + least : Nat)).1, (o.copy T.2.1 (T.2.2.1 + least : Nat)).2, T.2.2.2) := by
    intro T h; unfold cop15; rw [h]
  refine ⟨fun h => ?_, fun h g => ?_, fun h g k => ?_, fun h g k m => ?_, fun h g k m => ?_⟩
  · rw [if_pos h] at hT
    rw [key _ hT, if_pos h]
  · rw [if_neg (by simpa using h), hL, if_pos g] at hT
    rw [key _ hT, if_pos g]
  · rw [if_neg (by simpa using h), hL, if_neg (by simpa using g), if_neg k] at hT
    rw [key _ hT, if_neg (by simp)]
  · rw [if_neg (by simpa using h), hL, if_neg (by simpa using g), if_pos k] at hT
    rw [key _ hT, if_pos m]
  · rw [if_neg (by simpa using h), hL, if_neg (by simpa using g), if_pos k] at hT
    rw [key _ hT, if_neg (by simpa using m)]
theorem nextS_num (L : List Nat) (s : RS) (hL : Full15 L ∧ L.length = 64) (hp : s.pos ≤ 8 * s.l.length) (h : (s.nextS L).2.1 = 0) : ∃ i : Nat, i < 64 ∧ (s.nextS L).1 = (i : Int) ∧ (s.nextS L).2.2.E = 0 ∧ (s.nextS L).2.2.pos ≤ 8 * (s.nextS L).2.2.l.length := by
  obtain ⟨i, hi, h1, h3, h4, h5, h6⟩ := nextS_cost L s hL.1 h hp
  exact ⟨i, by rw [← hL.2]; exact hi, h1, h4, by rw [h3]; exact h6⟩
theorem bits_pos (s : RS) (n : Int) (hp : s.pos ≤ 8 * s.l.length) (h : (s.bits n).2.E = 0) : (s.bits n).2.pos ≤ 8 * (s.bits n).2.l.length := by
  obtain ⟨_, g3, g4, g5⟩ := bits_good s n h hp
  rw [g3, g4]; exact g5
theorem nextS_E (L : List Nat) (s : RS) (h : (s.nextS L).2.1 = 0) : s.E = 0 := by
  by_cases hE : s.E = 0
  · exact hE
  · have := nextS_err L s hE
    rw [this] at h; exact absurd h hE
theorem DcL.tail {W w : World} (trees : Bool) (q qr qo low least qb ql qd : Nat) (tb tl tf : List Nat) (s : RS) (o : HS) (h : St W w (DcL trees q qr qo low least qb ql qd tb tl tf s o)) : w.cell? ⟨q, 0, none⟩ = some (.pointer (some ⟨qr, 0, none⟩)) ∧ w.cell? ⟨q, 1, none⟩ = some (.pointer (some ⟨qo, 0, none⟩)) ∧
    w.cell? ⟨q, 2, none⟩ = some (.int .i64 low) ∧ w.cell? ⟨q, 3, none⟩ = some (.int .i64 least) ∧ w.cell? ⟨q, 4, none⟩ = some (vbyt trees qb) ∧ w.cell? ⟨q, 5, none⟩ = some (.pointer (some ⟨ql, 0, none⟩)) ∧ w.cell? ⟨q, 6, none⟩ = some (.pointer (some ⟨qd, 0, none⟩)) := dc_cells (h.blk 0 rfl)
theorem pow_mul15 (low i x : Nat) (hl : low ≤ 7) (hi : i < 64) (hx : x < 2 ^ low) : (IntKind.i64.wrap ((i : Int) * 2 ^ (min low 64)) = ((i * 2 ^ low : Nat) : Int)) ∧ i * 2 ^ low + x + 1 ≤ 8192 ∧ i * 2 ^ low ≤ 8064 ∧ x < 128 := by
  have h1 : 2 ^ low ≤ 2 ^ 7 := Nat.pow_le_pow_right (by decide) hl
  have h2 : i * 2 ^ low ≤ 63 * 2 ^ 7 := Nat.mul_le_mul (by omega) h1
  have h3 : ((i : Int) * 2 ^ low) = ((i * 2 ^ low : Nat) : Int) := by simp
  refine ⟨?_, by omega, by omega, by omega⟩
  rw [Nat.min_eq_left (by omega), h3, IntKind.wrap_i64]; omega
set_option maxHeartbeats 4000000 in
theorem ecopy_c {W w : World} (trees : Bool) (q qr qo low least qb ql qd : Nat) (tb tl tf : List Nat) (s : RS) (o : HS) (h : St W w (DcL trees q qr qo low least qb ql qd tb tl tf s o)) (hlow : low ≤ 7) (hleast : least ≤ 3)
    (hL : Full15 tl ∧ tl.length = 64) (hF : Full15 tf ∧ tf.length = 64) (hp : s.pos ≤ 8 * s.l.length) (ho : o.b.length ≤ 1000000000000) : Calls Tryz.prog 105 #[.pointer (some ⟨q, 0, none⟩)] w fun e w' =>
    e = .returned (.int .i64 (cop15 low least tl tf s o).1) ∧ Keep [] W w' ∧ ((cop15 low least tl tf s o).1 = 0 → St W w' (DcL trees q qr qo low least qb ql qd tb tl tf (cop15 low least tl tf s o).2.2 (cop15 low least tl tf s o).2.1)) := by
  obtain ⟨c0, -, c2, -, -, -, -⟩ := DcL.tail _ _ _ _ _ _ _ _ _ _ _ _ _ _ h
  obtain ⟨x, s1, hB⟩ : ∃ x s1, s.bits low = (x, s1) := ⟨_, _, rfl⟩
  obtain ⟨y, e1, s2, hN⟩ : ∃ y e1 s2, s1.nextS tf = (y, e1, s2) := ⟨_, _, _, rfl⟩
  obtain ⟨z, e2, s3, hM⟩ : ∃ z e2 s3, s2.nextS tl = (z, e2, s3) := ⟨_, _, _, rfl⟩
  have hx : x < 2 ^ low := by have := bits_lt15 s low (by omega); rw [hB] at this; exact this
  obtain ⟨k1, k2, k3, k4, k5⟩ := cop15_cs low least tl tf s o x s1 y e1 s2 z e2 s3 hB hN hM
  have f1 : e1 = 0 → ∃ i : Nat, i < 64 ∧ y = (i : Int) ∧ s2.E = 0 ∧ s2.pos ≤ 8 * s2.l.length := by
    intro h0
    have hE : s1.E = 0 := nextS_E tf s1 (by rw [hN]; exact h0)
    have hp1 : s1.pos ≤ 8 * s1.l.length := by have := bits_pos s low hp (by rw [hB]; exact hE); rw [hB] at this; exact this
    have := nextS_num tf s1 hF hp1 (by rw [hN]; exact h0)
    rw [hN] at this; exact this
  have f2 : s2.pos ≤ 8 * s2.l.length → e2 = 0 → ∃ i : Nat, i < 64 ∧ z = (i : Int) ∧ s3.E = 0 ∧ s3.pos ≤ 8 * s3.l.length := by
    intro hp2 h0
    have := nextS_num tl s2 hL hp2 (by rw [hM]; exact h0)
    rw [hM] at this; exact this
  have HB := Lib.hid (st_bits (h.read ((Keep.refl [] w).drew)) 1 rfl (low : Nat))
  have hxi : x < 4294967296 := by have : 2 ^ low ≤ 2 ^ 7 := Nat.pow_le_pow_right (by decide) hlow; omega
  have HWX : IntKind.i64.wrap (x : Int) = (x : Int) := by rw [IntKind.wrap_i64]; omega
  have HC1 := Lib.hid k1; have HC2 := Lib.hid k2; have HC3 := Lib.hid k3; have HC4 := Lib.hid k4; have HC5 := Lib.hid k5
  have HF1 := Lib.hid f1; have HF2 := Lib.hid f2; have HN := Lib.hid hN; have HM := Lib.hid hM
  have HX := Lib.hid hx; have HO := Lib.hid ho; have HLO := Lib.hid hlow; have HLE := Lib.hid hleast
  rw [hB] at HB
  generalize cop15 low least tl tf s o = R at HC1 HC2 HC3 HC4 HC5 ⊢
  clear k1 k2 k3 k4 k5 f1 f2 hN hM hB hL hF hp ho h hlow hleast hx hxi
  go_enter Tryz.func105, Tryz.ntmps105
  go_wp2_with fail
  go_still_tail 8, (by kernel_rfl)
  change wpList _ _ _ _ _ w.drew
  clear c0 c2
  generalize w.drew = w1 at *
  go_wp2_with fail
  refine HB.out.mono ?_; rintro e w2 ⟨rfl, hS⟩
  have hS2 : St W w2 (DcL trees q qr qo low least qb ql qd tb tl tf s1 o) := hS
  obtain ⟨c0, -, -, -, -, -, c6⟩ := DcL.tail _ _ _ _ _ _ _ _ _ _ _ _ _ _ hS2
  have HB2 := Lib.hid (st_sf_next (hS2.read ((Keep.refl [] w2).drew)) 1 5 (by decide) rfl rfl)
  rw [HN.out] at HB2
  clear HB hS hS2
  go_wp2_with fail
  go_upto_region 2 with fail
  go_cut [4, 5] (fun v3 v4 wx => v3 = .int .i64 y ∧ v4 = .int .i64 e1 ∧ St W wx (DcL trees q qr qo low least qb ql qd tb tl tf s2 o))
  case first =>
    go_region_with (first | (go_at_call 119; (refine HB2.out.mono ?_); (rintro e w3 ⟨rfl, hS⟩)))
    all_goals
      go_wp2_with fail
      go_meet
      exact ⟨rfl, rfl, hS⟩
  case rest =>
  obtain ⟨rfl, rfl, hS⟩ := hcut
  clear c0 c6 HB2
  by_cases h1 : e1 = 0
  · obtain ⟨i, hi, rfl, -, hp2⟩ := HF1.out h1
    subst h1
    obtain ⟨c0, -, -, -, -, c5, -⟩ := DcL.tail _ _ _ _ _ _ _ _ _ _ _ _ _ _ hS
    have HB3 := Lib.hid (st_sf_next (hS.read ((Keep.refl [] wc).drew)) 1 4 (by decide) rfl rfl)
    rw [HM.out] at HB3
    have HP2 := Lib.hid hp2
    have HI := Lib.hid hi
    clear hS HF1 hp2 hi
    go_wp2_with fail
    go_upto_region 3 with fail
    go_cut [5, 6] (fun v5 v6 wx => v6 = .int .i64 z ∧ v5 = .int .i64 e2 ∧ St W wx (DcL trees q qr qo low least qb ql qd tb tl tf s3 o))
    case first =>
      go_region_with (first | (go_at_call 119; (refine HB3.out.mono ?_); (rintro e w3 ⟨rfl, hS⟩)))
      all_goals
        go_wp2_with fail
        go_meet
        exact ⟨rfl, rfl, hS⟩
    case rest =>
    obtain ⟨rfl, rfl, hS⟩ := hcut
    clear c0 c5 HB3
    by_cases h2 : e2 = 0
    · obtain ⟨j, hj, rfl, hE3, hp3⟩ := HF2.out HP2.out h2
      subst h2
      obtain ⟨P1, P2, P3, P4⟩ := pow_mul15 low i x HLO.out HI.out HX.out
      have hyn : ((i : Int)).toNat = i := rfl
      have hzn : ((j : Int)).toNat = j := rfl
      rw [hyn, hzn] at HC3
      rw [hyn] at HC5
      obtain ⟨A, hA⟩ : ∃ A, i * 2 ^ low = A := ⟨_, rfl⟩
      rw [hA] at P1 P2 P3 HC3 HC5
      obtain ⟨D, hD⟩ : ∃ D, A + x + 1 = D := ⟨_, rfl⟩
      rw [hD] at P2 HC3 HC5
      obtain ⟨x1, hx1⟩ : ∃ x1, x + 1 = x1 := ⟨_, rfl⟩
      have W1 : IntKind.i64.wrap (1 + (x : Int)) = (x1 : Int) := by rw [IntKind.wrap_i64]; omega
      have W2 : IntKind.i64.wrap ((x1 : Int) + (A : Int)) = (D : Int) := by rw [IntKind.wrap_i64]; omega
      have PD : 1 ≤ D := by omega
      have wfD : (Lit.int .i64 (D : Int)).wf = true := by simp [Lit.wf, IntKind.min, IntKind.max, IntKind.bits, IntKind.signed]; omega
      have WFD := Lib.hid wfD
      have hll : decide ((low : Int) < 0) = false := by simp
      have hLE := HLE.out
      have hOO := HO.out
      clear hA hD hx1 hyn hzn HC1 HC2 HF2 HP2 P2 P3 P4 PD wfD HX HI
      by_cases h63 : j = 63
      · subst h63
        obtain ⟨c0, -, -, -, -, -, -⟩ := DcL.tail _ _ _ _ _ _ _ _ _ _ _ _ _ _ hS
        have HB4 := Lib.hid (st_bits hS 1 rfl 8)
        have hb8 : (s3.bits 8).1 < 256 := bits_lt15 s3 8 (by decide)
        obtain ⟨b, s4, hB4⟩ : ∃ b s4, s3.bits 8 = (b, s4) := ⟨_, _, rfl⟩
        rw [hB4] at HC4 HC5 HB4 hb8
        dsimp only at HC4 HC5 HB4 hb8
        clear hB4 HC3 hS hE3 hj hp3
        have W4 : IntKind.i64.wrap (b : Int) = (b : Int) := by rw [IntKind.wrap_i64]; omega
        obtain ⟨N, hN⟩ : ∃ N, 63 + b = N := ⟨_, rfl⟩
        have W5 : IntKind.i64.wrap (63 + (b : Int)) = (N : Int) := by rw [IntKind.wrap_i64]; omega
        have hNN : N ≤ 400 := by omega
        rw [hN] at HC5
        have HC4' : Hid (s4.E ≠ 0 → R.1 = s4.E) := fun h => HC4.out trivial rfl rfl h
        have HC5' := Lib.hid (HC5.out trivial rfl rfl)
        clear hN hb8 HC4 HC5
        go_wp2_with fail
        refine HB4.out.mono ?_; rintro e w4 ⟨rfl, hS⟩
        have hS4 : St W w4 (DcL trees q qr qo low least qb ql qd tb tl tf s4 o) := hS
        have HE := Lib.hid (st_err hS4 1 rfl)
        have HS := Lib.hid hS4
        clear hS HB4 hS4 c0
        obtain ⟨c0, c1, c2, c3, -, -, -⟩ := DcL.tail _ _ _ _ _ _ _ _ _ _ _ _ _ _ HS.out
        obtain ⟨E4, hE4⟩ : ∃ E4, s4.E = E4 := ⟨_, rfl⟩
        rw [hE4] at HE HC4' HC5'
        clear hE4
        go_wp2_with fail
        refine HE.out.mono ?_; rintro e w5 ⟨rfl, rfl⟩
        by_cases h4 : E4 = 0
        · subst h4
          have HR := Lib.hid (HC5'.out rfl)
          obtain ⟨M, hM⟩ : ∃ M, N + least = M := ⟨_, rfl⟩
          rw [hM] at HR
          have W3 : IntKind.i64.wrap ((N : Int) + (least : Int)) = (M : Int) := by rw [IntKind.wrap_i64]; omega
          have wfM : (Lit.int .i64 (M : Int)).wf = true := by simp [Lit.wf, IntKind.min, IntKind.max, IntKind.bits, IntKind.signed]; omega
          have HCP := Lib.hid (st_hs_copy (HS.out.read ((Keep.refl [] w4).drew)) 2 rfl D M WFD.out wfM (by split <;> omega))
          clear HC4' HC5' hM wfM hOO hLE HE
          go_wp2_with fail
          go_still_tail 19, (by kernel_rfl)
          change wpList _ _ _ _ _ w4.drew
          clear c0 c1 c2 c3
          generalize w4.drew = w6 at *
          go_wp2_with fail
          refine HCP.out.mono ?_; rintro e w5 ⟨rfl, hS⟩
          have HS5 := Lib.hid hS
          clear HCP hS
          go_wp2_with fail
          go_ret
          rw [HR.out]
          exact ⟨rfl, HS5.out.kp, fun _ => HS5.out⟩
        · have t1 : ((E4 : Int) != 0) = true := by simp; omega
          have HR := Lib.hid (HC4'.out h4)
          have H1 := Lib.hid h4
          clear h4
          go_wp2_with fail
          go_ret
          rw [HR.out]
          exact ⟨rfl, HS.out.kp, fun h => absurd h H1.out⟩
      · have t63 : ((j : Int) == 63) = false := by simp; omega
        have t63' : (j == 63) = false := by simp; omega
        have hR := HC3.out trivial rfl (by omega)
        have HR := Lib.hid hR
        obtain ⟨c0, c1, c2, c3, -, -, -⟩ := DcL.tail _ _ _ _ _ _ _ _ _ _ _ _ _ _ hS
        have HE := Lib.hid (st_err hS 1 rfl)
        rw [hE3] at HE
        have HS := Lib.hid hS
        have HE3 := Lib.hid hE3
        have HJ := Lib.hid h63
        obtain ⟨M, hM⟩ : ∃ M, j + least = M := ⟨_, rfl⟩
        rw [hM] at HR
        have W3 : IntKind.i64.wrap ((j : Int) + (least : Int)) = (M : Int) := by rw [IntKind.wrap_i64]; omega
        have wfM : (Lit.int .i64 (M : Int)).wf = true := by simp [Lit.wf, IntKind.min, IntKind.max, IntKind.bits, IntKind.signed]; omega
        have HCP := Lib.hid (st_hs_copy (HS.out.read ((Keep.refl [] wc).drew)) 2 rfl D M WFD.out wfM (by split <;> omega))
        clear hS hE3 hR h63 HC3 HC4 HC5 hM wfM hOO hLE hj
        go_wp2_with fail
        refine HE.out.mono ?_; rintro e w3 ⟨rfl, rfl⟩
        go_wp2_with fail
        go_still_tail 19, (by kernel_rfl)
        change wpList _ _ _ _ _ wc.drew
        clear c0 c1 c2 c3
        generalize wc.drew = w4 at *
        go_wp2_with fail
        with_reducible refine HCP.out.mono ?_; rintro e w5 ⟨rfl, hS⟩
        have HS5 := Lib.hid hS
        clear HCP hS
        go_wp2_with fail
        go_ret
        rw [HR.out]
        exact ⟨rfl, HS5.out.kp, fun _ => HS5.out⟩
    · have t1 : ((e2 : Int) != 0) = true := by simp; omega
      have HK := Lib.hid hS.kp
      have HR := Lib.hid (HC2.out trivial h2)
      have H1 := Lib.hid h2
      clear hS h2
      go_wp2_with fail
      go_ret
      rw [HR.out]
      exact ⟨rfl, HK.out, fun h => absurd h H1.out⟩
  · have t1 : ((e1 : Int) != 0) = true := by simp; omega
    have HK := Lib.hid hS.kp
    have HR := Lib.hid (HC1.out h1)
    have H1 := Lib.hid h1
    clear hS h1
    go_wp2_with fail
    go_ret
    rw [HR.out]
    exact ⟨rfl, HK.out, fun h => absurd h H1.out⟩
end Go.Proofs.YthmojejiaeninaaGreat
namespace Go.Proofs.YthmojejiaeninaaGreat
set_option linter.unusedVariables false
set_option linter.unusedSimpArgs false
set_option maxRecDepth 100000
open Go.ChangeShapes Go.WideShapes Go.ChangeAt Go.RowKit

/-- what is read by, of trees -/
def DcT (trees : Bool) (q qr qo low least qb ql qd : Nat) (t : T15) (s : RS) (o : HS) : List Ob := DcL trees q qr qo low least qb ql qd t.tb t.tl t.tf s o
theorem step15_e (trees : Bool) (low least : Nat) (t : T15) (s : RS) (o : HS) (x : Nat) (s1 : RS) (hB : s.bits 1 = (x, s1)) :
    (s1.E ≠ 0 → (step15 trees low least t s o).1 = s1.E) ∧ (s1.E = 0 → x ≠ 1 → step15 trees low least t s o = cop15 low least t.tl t.tf s1 o) ∧ (s1.E = 0 → x = 1 → step15 trees low least t s o = lit15 trees t.tb s1 o) := by
  unfold step15
  rw [hB]
  dsimp only
  refine ⟨fun h => by rw [if_pos h], fun h g => by rw [if_neg (by simpa using h), if_neg g], fun h g => by rw [if_neg (by simpa using h), if_pos g]⟩
set_option maxHeartbeats 4000000 in
theorem enext_c {W w : World} (trees : Bool) (q qr qo low least qb ql qd : Nat) (t : T15) (s : RS) (o : HS) (h : St W w (DcT trees q qr qo low least qb ql qd t s o)) (hlow : low ≤ 7) (hleast : least ≤ 3)
    (ht : t.ok trees) (hp : s.pos ≤ 8 * s.l.length) (ho : o.b.length ≤ 1000000000000) : Calls Tryz.prog 78 #[.pointer (some ⟨q, 0, none⟩)] w fun e w' =>
    e = .returned (.int .i64 (step15 trees low least t s o).1) ∧ Keep [] W w' ∧ ((step15 trees low least t s o).1 = 0 → St W w' (DcT trees q qr qo low least qb ql qd t (step15 trees low least t s o).2.2 (step15 trees low least t s o).2.1)) := by
  obtain ⟨x, s1, hB⟩ : ∃ x s1, s.bits 1 = (x, s1) := ⟨_, _, rfl⟩
  obtain ⟨k1, k2, k3⟩ := step15_e trees low least t s o x s1 hB
  have hp1 : s1.E = 0 → s1.pos ≤ 8 * s1.l.length := fun h0 => by have := bits_pos s 1 hp (by rw [hB]; exact h0); rw [hB] at this; exact this
  obtain ⟨c0, -, -, -, -, -, -⟩ := DcL.tail _ _ _ _ _ _ _ _ _ _ _ _ _ _ h
  have HB := Lib.hid (st_bit1 h 1 rfl)
  rw [hB] at HB
  dsimp only at HB
  have HT := Lib.hid ht; have HO := Lib.hid ho; have HLO := Lib.hid hlow; have HLE := Lib.hid hleast; have HP := Lib.hid hp1
  have K1 := Lib.hid k1; have K2 := Lib.hid k2; have K3 := Lib.hid k3
  generalize step15 trees low least t s o = R at K1 K2 K3 ⊢
  clear hB k1 k2 k3 hp1 h ht ho hlow hleast hp
  go_enter Tryz.func78, Tryz.ntmps78
  go_wp2_with fail
  refine HB.out.mono ?_; rintro e w2 ⟨rfl, hS⟩
  have hS2 : St W w2 (DcT trees q qr qo low least qb ql qd t s1 o) := hS
  have HE := Lib.hid (st_err hS2 1 rfl)
  have HS := Lib.hid hS2
  clear hS HB hS2 c0
  obtain ⟨c0, c1, -, -, c4, -, -⟩ := DcL.tail _ _ _ _ _ _ _ _ _ _ _ _ _ _ HS.out
  obtain ⟨E1, hE1⟩ : ∃ E1, s1.E = E1 := ⟨_, rfl⟩
  have HEQ := Lib.hid hE1
  rw [hE1] at HE HP K1 K2 K3
  clear hE1
  by_cases h1 : E1 = 0
  · subst h1
    by_cases hx : x = 1
    · subst hx
      have HK := Lib.hid (K3.out rfl rfl)
      clear K1 K2 K3
      have hp := HP.out rfl
      go_wp2_with fail
      refine HE.out.mono ?_; rintro e w3 ⟨rfl, rfl⟩
      clear HE
      obtain ⟨c, er, s4, hbt⟩ : ∃ c er s4, byt15 trees t.tb s1 = (c, er, s4) := ⟨_, _, _, rfl⟩
      have hlit : lit15 trees t.tb s1 o = if er ≠ 0 then (er, o, s4) else ((o.lit (UInt8.ofNat c)).1, (o.lit (UInt8.ofNat c)).2, s4) := by unfold lit15; rw [hbt]
      rw [hlit] at HK
      go_upto_region 7 with fail
      go_cut [5, 6] (fun v5 v6 wx => ∃ y : Int, v5 = .int .i64 y ∧ v6 = .int .i64 er ∧ (er = 0 → y = (c : Int) ∧ c < 256) ∧ St W wx (DcT trees q qr qo low least qb ql qd t s4 o))
      case first =>
        cases trees with
        | true =>
          obtain ⟨hF, h256⟩ := HT.out.1 rfl
          have hm : ∀ w, (method 333 92 (.pointer (some ⟨qb, 0, none⟩)) "Next").run Tryz.prog w = .ok (119, .pointer (some ⟨qb, 0, none⟩)) w := fun _ => by kernel_rfl
          have c4' : w2.cell? ⟨q, 4, none⟩ = some (.iface 92 (.pointer (some ⟨qb, 0, none⟩))) := c4
          have HB3 := Lib.hid (st_sf_next (HS.out.read ((Keep.refl [] w2).drew)) 1 3 (by decide) rfl rfl)
          have hb2 : c = (s1.nextS t.tb).1.toNat ∧ er = (s1.nextS t.tb).2.1 ∧ s4 = (s1.nextS t.tb).2.2 := by
            unfold byt15 at hbt; rw [if_pos rfl] at hbt; injection hbt with a b; injection b with b d; exact ⟨a.symm, b.symm, d.symm⟩
          have hco := fun h0 => nextS_cost t.tb s1 hF h0 hp
          generalize s1.nextS t.tb = N at HB3 hb2 hco
          obtain ⟨y, e2, s3⟩ := N
          obtain ⟨rfl, rfl, rfl⟩ := hb2
          have HCO : Hid (er = 0 → y = (y.toNat : Int) ∧ y.toNat < 256) := fun h0 => by
            obtain ⟨i, hi, hy, _⟩ := hco h0
            dsimp only at hy
            omega
          clear hco hbt c4 hF h256 hlit
          go_region_with (first | (go_at_call 119; (refine HB3.out.mono ?_); (rintro e w3 ⟨rfl, hS⟩)))
          all_goals
            go_wp2_with fail
            go_meet
            exact ⟨_, rfl, rfl, HCO.out, hS⟩
        | false =>
          have hm : ∀ w, (method 333 178 (.agg #[]) "Next").run Tryz.prog w = .ok (154, .agg #[]) w := fun _ => by kernel_rfl
          have c4' : w2.cell? ⟨q, 4, none⟩ = some (.iface 178 (.agg #[])) := c4
          have HB3 := Lib.hid (st_eight (HS.out.read ((Keep.refl [] w2).drew)) 1 rfl)
          have hb2 : c = (s1.bits 8).1 ∧ er = (s1.bits 8).2.E ∧ s4 = (s1.bits 8).2 := by
            unfold byt15 at hbt; rw [if_neg (by simp)] at hbt; injection hbt with a b; injection b with b d; exact ⟨a.symm, b.symm, d.symm⟩
          have hlt : (s1.bits 8).1 < 256 := bits_lt15 s1 8 (by decide)
          rw [← hb2.1, ← hb2.2.1, ← hb2.2.2] at HB3
          rw [← hb2.1] at hlt
          have HLT := Lib.hid hlt
          clear hb2 hbt c4 hlit hlt
          go_region_with (first | (go_at_call 154; (refine HB3.out.mono ?_); (rintro e w3 ⟨rfl, hS⟩)))
          all_goals
            go_wp2_with fail
            go_meet
            exact ⟨_, rfl, rfl, fun _ => ⟨rfl, HLT.out⟩, hS⟩
      case rest =>
      obtain ⟨y, rfl, rfl, hy, hS4⟩ := hcut
      clear hlit hbt c0 c1 c4
      have HS4 := Lib.hid hS4
      have HY := Lib.hid hy
      clear hS4 hy
      by_cases h2 : er = 0
      · subst h2
        obtain ⟨rfl, h256⟩ := HY.out rfl
        obtain ⟨-, c1, -, -, -, -, -⟩ := DcL.tail _ _ _ _ _ _ _ _ _ _ _ _ _ _ HS4.out
        have HR : Hid (R = ((o.lit (UInt8.ofNat c)).1, (o.lit (UInt8.ofNat c)).2, s4)) := by have := HK.out; rw [if_neg (by simp)] at this; exact this
        have HL := Lib.hid (st_hs_lit HS4.out 2 rfl (UInt8.ofNat c) (by have := HO.out; omega))
        have hc : (UInt8.ofNat c).toNat = c := by rw [UInt8.toNat_ofNat']; exact Nat.mod_eq_of_lt h256
        rw [hc] at HL
        have hw : IntKind.u8.wrap (c : Int) = (c : Int) := by rw [IntKind.wrap_u8]; omega
        clear HK HY hc
        go_wp2_with fail
        refine HL.out.mono ?_; rintro e w5 ⟨rfl, hS⟩
        have HS5 := Lib.hid hS
        clear HL hS
        go_wp2_with fail
        go_ret
        rw [HR.out]
        exact ⟨rfl, HS5.out.kp, fun _ => HS5.out⟩
      · have t1 : ((er : Int) != 0) = true := by simp; omega
        have HR : Hid (R = (er, o, s4)) := by have := HK.out; rw [if_pos h2] at this; exact this
        have H2 := Lib.hid h2
        clear h2 HK HY
        go_wp2_with fail
        go_ret
        rw [HR.out]
        exact ⟨rfl, HS4.out.kp, fun h => absurd h H2.out⟩
    · have t1 : ((x : Int) == 1) = false := by simp; omega
      have t1' : (x == 1) = false := by simp; omega
      have hp := HP.out rfl
      have HC := Lib.hid (ecopy_c trees q qr qo low least qb ql qd t.tb t.tl t.tf s1 o HS.out HLO.out HLE.out HT.out.2.1 HT.out.2.2 hp HO.out)
      have HR := Lib.hid (K2.out rfl hx)
      clear K1 K2 K3 hx hp
      go_wp2_with fail
      refine HE.out.mono ?_; rintro e w3 ⟨rfl, rfl⟩
      go_wp2_with fail
      refine HC.out.mono ?_; rintro e w4 ⟨rfl, hk, hS4⟩
      have HK4 := Lib.hid hk
      have HS4 := Lib.hid hS4
      clear HC hk hS4
      go_wp2_with fail
      go_ret
      rw [HR.out]
      exact ⟨rfl, HK4.out, HS4.out⟩
  · have t1 : ((E1 : Int) != 0) = true := by simp; omega
    have HR := Lib.hid (K1.out h1)
    have H1 := Lib.hid h1
    clear h1 K1 K2 K3
    go_wp2_with fail
    refine HE.out.mono ?_; rintro e w3 ⟨rfl, rfl⟩
    go_wp2_with fail
    go_ret
    rw [HR.out]
    exact ⟨rfl, HS.out.kp, fun h => absurd h H1.out⟩
end Go.Proofs.YthmojejiaeninaaGreat
namespace Go.Proofs.YthmojejiaeninaaGreat
set_option linter.unusedVariables false
set_option linter.unusedSimpArgs false
set_option maxRecDepth 100000
open Go.ChangeShapes Go.WideShapes Go.ChangeAt Go.RowKit

def DcO (q qr qo low least : Nat) (vb vl vd : Value) (s : RS) (o : HS) : List Ob := [Ob.box q (dcCells qr qo low least vb vl vd) 94, Ob.rd qr s, Ob.out qo o]
theorem opn15_eq (trees : Bool) (s : RS) (e0 : Nat) (tb : List Nat) (s0 : RS) (e1 : Nat) (tl : List Nat) (s1 : RS) (e2 : Nat) (tf : List Nat) (s2 : RS) (h0 : treB trees s = (e0, tb, s0)) (h1 : tre 64 s0 = (e1, tl, s1)) (h2 : tre 64 s1 = (e2, tf, s2)) :
    (e0 ≠ 0 → (opn15 trees s).e = e0) ∧ (e0 = 0 → e1 ≠ 0 → (opn15 trees s).e = e1) ∧ (e0 = 0 → e1 = 0 → opn15 trees s = ⟨e2, tb, tl, tf, s2⟩) := by
  unfold opn15
  rw [h0]
  dsimp only
  rw [h1]
  dsimp only
  rw [h2]
  refine ⟨fun h => by rw [if_pos h], fun h g => by rw [if_neg (by simpa using h), if_pos g], fun h g => by rw [if_neg (by simpa using h), if_neg (by simpa using g)]⟩
theorem tree_box {W w : World} {Ps : List Ob} {er : Nat} {p : Option Addr} {X : Ob} {Y : Nat → Ob} {q : Nat} {cs : Array Value} {ty : TypeId} (h0 : Ps[0]? = some (Ob.box q cs ty)) (h1 : er ≠ 0 → St W w (Ps.set 1 Ob.gone)) (h2 : er = 0 → ∃ d, p = some ⟨d, 0, none⟩ ∧ St W w (Ps.set 1 X ++ [Y d])) : Blk w q cs ty := by
  by_cases h : er = 0
  · obtain ⟨d, _, hS⟩ := h2 h
    refine hS.blk 0 ?_
    rw [List.getElem?_append_left (by rw [List.length_set]; rcases Nat.lt_or_ge 0 Ps.length with h | h; · exact h
                                      · rw [List.getElem?_eq_none h] at h0; cases h0), List.getElem?_set_ne (by decide)]; exact h0
  · refine (h1 h).blk 0 ?_
    rw [List.getElem?_set_ne (by decide)]; exact h0
/-- the field is set, whatever came of the tree -/
theorem tree_set {W w : World} {Ps : List Ob} {er : Nat} {p : Option Addr} {X : Ob} {Y : Nat → Ob} {q : Nat} {cs : Array Value} {ty : TypeId} (h0 : Ps[0]? = some (Ob.box q cs ty)) (h1 : er ≠ 0 → St W w (Ps.set 1 Ob.gone)) (h2 : er = 0 → ∃ d, p = some ⟨d, 0, none⟩ ∧ St W w (Ps.set 1 X ++ [Y d])) (j : Nat) (u : Value) :
    Keep [] W (w.setCell ⟨q, j, none⟩ u) ∧ (er = 0 → ∃ d, p = some ⟨d, 0, none⟩ ∧ St W (w.setCell ⟨q, j, none⟩ u) ((Ps.set 1 X ++ [Y d]).set 0 (Ob.box q (cs.setIfInBounds j u) ty))) := by
  by_cases h : er = 0
  · obtain ⟨d, e, hS⟩ := h2 h
    have hS2 := hS.setBox 0 (by
      rw [List.getElem?_append_left (by rw [List.length_set]; rcases Nat.lt_or_ge 0 Ps.length with h | h; · exact h
                                        · rw [List.getElem?_eq_none h] at h0; cases h0), List.getElem?_set_ne (by decide)]; exact h0) j u
    exact ⟨hS2.kp, fun _ => ⟨d, e, hS2⟩⟩
  · have hS := (h1 h).setBox 0 (by rw [List.getElem?_set_ne (by decide)]; exact h0) j u
    exact ⟨hS.kp, fun g => absurd g h⟩
set_option maxHeartbeats 4000000 in
theorem eopen_c {W w : World} (trees : Bool) (q qr qo low least : Nat) (vb vl vd : Value) (s : RS) (o : HS) (h : St W w (DcO q qr qo low least vb vl vd s o)) : Calls Tryz.prog 76 #[.pointer (some ⟨q, 0, none⟩), .bool trees] w fun e w' =>
    e = .returned (.int .i64 (opn15 trees s).e) ∧ Keep [] W w' ∧ ((opn15 trees s).e = 0 → ∃ qb ql qd, St W w' (DcT trees q qr qo low least qb ql qd (opn15 trees s) (opn15 trees s).s o)) := by
  obtain ⟨e0, tb, s0, h0⟩ : ∃ e0 tb s0, treB trees s = (e0, tb, s0) := ⟨_, _, _, rfl⟩
  obtain ⟨e1, tl, s1, h1⟩ : ∃ e1 tl s1, tre 64 s0 = (e1, tl, s1) := ⟨_, _, _, rfl⟩
  obtain ⟨e2, tf, s2, h2⟩ : ∃ e2 tf s2, tre 64 s1 = (e2, tf, s2) := ⟨_, _, _, rfl⟩
  obtain ⟨k1, k2, k3⟩ := opn15_eq trees s e0 tb s0 e1 tl s1 e2 tf s2 h0 h1 h2
  have K1 := Lib.hid k1; have K2 := Lib.hid k2; have K3 := Lib.hid k3
  have H0 := Lib.hid h0; have H1 := Lib.hid h1; have H2 := Lib.hid h2
  have hb := h.blk 0 rfl
  have g4 := hb.free 4
  obtain ⟨-, -, -, -, c4, -, -⟩ := dc_cells hb
  have HS := Lib.hid (h.setBox 0 rfl 4 (.iface 178 (.agg #[])))
  generalize opn15 trees s = R at K1 K2 K3 ⊢
  clear h k1 k2 k3 h0 h1 h2 hb
  cases trees with
  | false =>
    obtain ⟨rfl, rfl, rfl⟩ : e0 = 0 ∧ tb = [] ∧ s0 = s := by
      have := H0.out; unfold treB at this; rw [if_neg (by simp)] at this; injection this with a b; injection b with b c; exact ⟨a.symm, b.symm, c.symm⟩
    have HP : Hid (St W (w.setCell ⟨q, 4, none⟩ (.iface 178 (.agg #[]))) [Ob.box q (dcCells qr qo low least (vbyt false 0) vl vd) 94, Ob.rd qr s0, Ob.out qo o, Ob.byt false 0 []]) := HS.out.push Ob.gone [] rfl (Keep.refl _ _) (by simp)
    have HT1 := Lib.hid (st_tree HP.out 1 rfl 64)
    rw [H1.out] at HT1
    dsimp only at HT1
    obtain ⟨c0, -, -, -, -, -, -⟩ := dc_cells (HP.out.blk 0 rfl)
    clear HS
    go_enter Tryz.func76, Tryz.ntmps76
    go_wp2_with fail
    refine HT1.out.mono ?_; rintro e w2 ⟨p1, rfl, hs1, hs2⟩
    have hB := tree_box rfl hs1 hs2
    have g5 := hB.free 5
    obtain ⟨-, -, -, -, -, c5, -⟩ := dc_cells hB
    have HTS := Lib.hid (tree_set rfl hs1 hs2 5 (.pointer p1))
    clear HT1 hs1 hs2 hB HP c0
    by_cases h1 : e1 = 0
    · subst h1
      obtain ⟨ql, rfl, hS2⟩ := HTS.out.2 rfl
      have HP2 : Hid (St W (w2.setCell ⟨q, 5, none⟩ (.pointer (some ⟨ql, 0, none⟩))) [Ob.box q (dcCells qr qo low least (vbyt false 0) (.pointer (some ⟨ql, 0, none⟩)) vd) 94, Ob.rd qr s1, Ob.out qo o, Ob.byt false 0 [], Ob.dec6 ql tl]) := hS2
      have HT2 := Lib.hid (st_tree HP2.out 1 rfl 64)
      rw [H2.out] at HT2
      dsimp only at HT2
      obtain ⟨c0, -, -, -, -, -, -⟩ := dc_cells (HP2.out.blk 0 rfl)
      clear hS2 HTS
      go_wp2_with fail
      refine HT2.out.mono ?_; rintro e w3 ⟨p2, rfl, hs1, hs2⟩
      have hB := tree_box rfl hs1 hs2
      have g6 := hB.free 6
      obtain ⟨-, -, -, -, -, -, c6⟩ := dc_cells hB
      have HTS := Lib.hid (tree_set rfl hs1 hs2 6 (.pointer p2))
      clear HT2 hs1 hs2 hB HP2 c0 g5 c5
      have HR := Lib.hid (K3.out trivial trivial)
      clear K1 K2 K3
      go_wp2_with fail
      go_ret
      rw [HR.out]
      dsimp only
      refine ⟨rfl, HTS.out.1, fun h0 => ?_⟩
      obtain ⟨qd, rfl, hS⟩ := HTS.out.2 h0
      exact ⟨0, ql, qd, hS⟩
    · have t1 : ((e1 : Int) != 0) = true := by simp; omega
      have HR := Lib.hid (K2.out trivial h1)
      have HE := Lib.hid h1
      clear h1 K1 K2 K3
      go_wp2_with fail
      go_ret
      rw [HR.out]
      exact ⟨rfl, HTS.out.1, fun h => absurd h HE.out⟩
  | true =>
    have hT : tre 256 s = (e0, tb, s0) := by have := H0.out; unfold treB at this; rw [if_pos rfl] at this; exact this
    have HP : Hid (St W (w.setCell ⟨q, 4, none⟩ (.iface 178 (.agg #[]))) [Ob.box q (dcCells qr qo low least (.iface 178 (.agg #[])) vl vd) 94, Ob.rd qr s, Ob.out qo o]) := HS.out
    have HT0 := Lib.hid (st_tree HP.out 1 rfl 256)
    rw [hT] at HT0
    dsimp only at HT0
    obtain ⟨c0, -, -, -, -, -, -⟩ := dc_cells (HP.out.blk 0 rfl)
    clear HS hT
    go_enter Tryz.func76, Tryz.ntmps76
    go_wp2_with fail
    refine HT0.out.mono ?_; rintro e w1 ⟨p0, rfl, hs1, hs2⟩
    by_cases h0 : e0 = 0
    · obtain ⟨qb, rfl, hS1⟩ := hs2 h0
      subst h0
      have hB := hS1.blk 0 rfl
      have g4' := hB.free 4
      obtain ⟨-, -, -, -, c4', -, -⟩ := dc_cells hB
      have HP : Hid (St W (w1.setCell ⟨q, 4, none⟩ (.iface 92 (.pointer (some ⟨qb, 0, none⟩)))) [Ob.box q (dcCells qr qo low least (vbyt true qb) vl vd) 94, Ob.rd qr s0, Ob.out qo o, Ob.byt true qb tb]) := hS1.setBox 0 rfl 4 (.iface 92 (.pointer (some ⟨qb, 0, none⟩)))
      have HT1 := Lib.hid (st_tree HP.out 1 rfl 64)
      rw [H1.out] at HT1
      dsimp only at HT1
      obtain ⟨c0, -, -, -, -, -, -⟩ := dc_cells (HP.out.blk 0 rfl)
      clear HT0 hs1 hs2 hB hS1 g4 c4
      go_wp2_with fail
      refine HT1.out.mono ?_; rintro e w2 ⟨p1, rfl, hs1, hs2⟩
      have hB := tree_box rfl hs1 hs2
      have g5 := hB.free 5
      obtain ⟨-, -, -, -, -, c5, -⟩ := dc_cells hB
      have HTS := Lib.hid (tree_set rfl hs1 hs2 5 (.pointer p1))
      clear HT1 hs1 hs2 hB HP c0
      by_cases h1 : e1 = 0
      · subst h1
        obtain ⟨ql, rfl, hS2⟩ := HTS.out.2 rfl
        have HP2 : Hid (St W (w2.setCell ⟨q, 5, none⟩ (.pointer (some ⟨ql, 0, none⟩))) [Ob.box q (dcCells qr qo low least (vbyt true qb) (.pointer (some ⟨ql, 0, none⟩)) vd) 94, Ob.rd qr s1, Ob.out qo o, Ob.byt true qb tb, Ob.dec6 ql tl]) := hS2
        have HT2 := Lib.hid (st_tree HP2.out 1 rfl 64)
        rw [H2.out] at HT2
        dsimp only at HT2
        obtain ⟨c0, -, -, -, -, -, -⟩ := dc_cells (HP2.out.blk 0 rfl)
        clear hS2 HTS
        go_wp2_with fail
        refine HT2.out.mono ?_; rintro e w3 ⟨p2, rfl, hs1, hs2⟩
        have hB := tree_box rfl hs1 hs2
        have g6 := hB.free 6
        obtain ⟨-, -, -, -, -, -, c6⟩ := dc_cells hB
        have HTS := Lib.hid (tree_set rfl hs1 hs2 6 (.pointer p2))
        clear HT2 hs1 hs2 hB HP2 c0 g5 c5
        have HR := Lib.hid (K3.out trivial trivial)
        clear K1 K2 K3
        go_wp2_with fail
        go_ret
        rw [HR.out]
        dsimp only
        refine ⟨rfl, HTS.out.1, fun h0 => ?_⟩
        obtain ⟨qd, rfl, hS⟩ := HTS.out.2 h0
        exact ⟨qb, ql, qd, hS⟩
      · have t1 : ((e1 : Int) != 0) = true := by simp; omega
        have HR := Lib.hid (K2.out trivial h1)
        have HE := Lib.hid h1
        clear h1 K1 K2 K3
        go_wp2_with fail
        go_ret
        rw [HR.out]
        exact ⟨rfl, HTS.out.1, fun h => absurd h HE.out⟩
    · have t1 : ((e0 : Int) != 0) = true := by simp; omega
      have HK := Lib.hid (hs1 h0).kp
      have HR := Lib.hid (K1.out h0)
      have HE := Lib.hid h0
      clear h0 K1 K2 K3 hs1 hs2
      go_wp2_with fail
      go_ret
      rw [HR.out]
      exact ⟨rfl, HK.out, fun h => absurd h HE.out⟩
end Go.Proofs.YthmojejiaeninaaGreat
namespace Go.Proofs.YthmojejiaeninaaGreat
set_option linter.unusedVariables false
set_option linter.unusedSimpArgs false
set_option maxRecDepth 100000
open Go.ChangeShapes Go.WideShapes Go.ChangeAt Go.RowKit

set_option maxHeartbeats 4000000 in
theorem eall_c {W w : World} (large trees : Bool) (q qr qo : Nat) (vb vl vd : Value) (l : List UInt8) (size : Nat) (h : St W w (DcO q qr qo (low15 large) (least15 trees) vb vl vd ⟨l, 0, true, 0⟩ ⟨win15 large, size, true, []⟩)) (hl : l.length ≤ 100000) (hs : 0 < size) : Calls Tryz.prog 42 #[.pointer (some ⟨q, 0, none⟩), .bool trees] w fun e w' =>
    ∃ (n er : Nat), e = .returned (.tuple #[.int .i64 n, .int .i64 er]) ∧ Keep [] W w' ∧ (er ≠ 0 → n = 0 ∧ dec15 l large trees size = ([], 0, er)) ∧
      (er = 0 → ∃ qb ql qd t s o, St W w' (DcT trees q qr qo (low15 large) (least15 trees) qb ql qd t s o) ∧ o.b.length ≤ 1000000000 ∧ s.left ≤ 1000000 ∧ dec15 l large trees size = if 8 ≤ s.left then ([], 0, 5) else (o.b, n, 0)) := by
  have HOP := Lib.hid (eopen_c trees q qr qo (low15 large) (least15 trees) vb vl vd _ _ h)
  have hg := opn15_good trees ⟨l, 0, true, 0⟩
  have hd : dec15 l large trees size = if (opn15 trees ⟨l, 0, true, 0⟩).e ≠ 0 then ([], 0, (opn15 trees ⟨l, 0, true, 0⟩).e)
      else dec15L trees (low15 large) (least15 trees) (opn15 trees ⟨l, 0, true, 0⟩) (8 * l.length + 1) ⟨win15 large, size, true, []⟩ (opn15 trees ⟨l, 0, true, 0⟩).s 0 := by
    unfold dec15
    rw [if_neg (by omega), if_neg (by omega)]; rfl
  obtain ⟨D, hD⟩ : ∃ D, dec15 l large trees size = D := ⟨_, rfl⟩
  rw [hD] at hd ⊢
  generalize opn15 trees ⟨l, 0, true, 0⟩ = t at HOP hg hd
  have hlow : low15 large ≤ 7 := by unfold low15; split <;> decide
  have hleast : least15 trees ≤ 3 ∧ 1 ≤ least15 trees := by unfold least15; split <;> decide
  generalize low15 large = low at *
  generalize least15 trees = least at *
  generalize win15 large = win at *
  have HD := Lib.hid hd; have HG := Lib.hid hg; have HLO := Lib.hid hlow; have HLE := Lib.hid hleast; have HL := Lib.hid hl; have HSZ := Lib.hid hs
  clear hD hd hg h hlow hleast hl hs
  go_enter Tryz.func42, Tryz.ntmps42
  go_wp2_with fail
  refine HOP.out.mono ?_; rintro e w1 ⟨rfl, hk, hS⟩
  obtain ⟨e0, he0⟩ : ∃ e0, t.e = e0 := ⟨_, rfl⟩
  rw [he0] at hS HD HG ⊢
  by_cases h0 : e0 = 0
  · subst h0
    obtain ⟨qb, ql, qd, hS1⟩ := hS rfl
    obtain ⟨ht, htl, htp⟩ := HG.out rfl (Nat.zero_le _)
    have hdd := HD.out
    rw [if_neg (by simp)] at hdd
    have HDD := Lib.hid hdd.symm
    have HT := Lib.hid ht; have HTL := Lib.hid htl; have HTP := Lib.hid htp
    have HS1 := Lib.hid hS1
    clear hS hk HD HG hdd he0 ht htl htp hS1 HOP
    go_wp2_with fail
    go_loopg [7] (8 * l.length + 1) (fun g v7 wr => ∃ (n : Nat) (s : RS) (o : HS), v7 = .int .i64 n ∧ Hid (St W wr (DcT trees q qr qo low least qb ql qd t s o)) ∧ s.l = l ∧ s.pos ≤ 8 * l.length ∧ 8 * l.length + 1 ≤ s.pos + g ∧ o.most = size ∧ o.b.length ≤ size ∧ 2 * n ≤ s.pos ∧ o.b.length ≤ 321 * n ∧ Hid (dec15L trees low least t g o s n = D))
    case atStart => exact ⟨0, t.s, _, rfl, HS1, HTL.out, HTP.out, by omega, rfl, Nat.zero_le _, Nat.zero_le _, Nat.zero_le _, HDD⟩
    case round =>
      obtain ⟨n, s, o, rfl, HS, hsl, hp, hgk, hm, hos, h2n, hon, hrun⟩ := hrel
      obtain ⟨f, rfl⟩ : ∃ f, gk = f + 1 := ⟨gk - 1, by omega⟩
      have hrun2 := hrun.out
      rw [dec15L] at hrun2
      obtain ⟨-, c1, -, -, -, -, -⟩ := DcL.tail _ _ _ _ _ _ _ _ _ _ _ _ _ _ HS.out
      have HFU := Lib.hid (st_hs_full HS.out 2 rfl)
      have hll := HL.out
      by_cases hx : o.b.length = o.most
      · rw [if_pos (by omega)] at hrun2
        have hdec : decide (o.b.length = o.most) = true := by simpa using hx
        rw [hdec] at HFU
        have hleft : s.left ≤ 1000000 := by
          have : s.left ≤ 8 * s.l.length := by unfold RS.left; split <;> omega
          rw [hsl] at this; omega
        have HLF := Lib.hid hleft
        have HOB : Hid (o.b.length ≤ 1000000000) := by unfold Hid; omega
        have HRUN := Lib.hid hrun2
        clear hdec hrun2 hrun hx hleft hsl hp hgk hm hos h2n hon hll
        go_wp2_with fail
        refine HFU.out.mono ?_; rintro e w6 ⟨rfl, n6, rfl⟩
        have HS6 := Lib.hid (HS.out.read ((Keep.refl [] wr).drewN n6))
        clear HFU c1
        generalize wr.drewN n6 = w6 at *
        go_wp2_with fail
        go_ret2
        exact ⟨n, 0, rfl, HS6.out.kp, fun h => absurd rfl h, fun _ => ⟨qb, ql, qd, t, s, o, HS6.out, HOB.out, HLF.out, HRUN.out.symm⟩⟩
      · rw [if_neg (by omega)] at hrun2
        have hdec : decide (o.b.length = o.most) = false := by simpa using hx
        rw [hdec] at HFU
        have hcost := step15_cost trees low least t s o (by have := HLO.out; omega) HLE.out.2 HT.out
        rw [hsl] at hcost
        have HSL := Lib.hid hsl; have HX := Lib.hid hx; have HRUN := Lib.hid hrun2; have HCO := Lib.hid hcost
        have HLB : Hid (o.b.length ≤ 1000000000000) := by unfold Hid; omega
        have HNU : Hid (s.pos ≤ 8 * l.length ∧ 8 * l.length + 1 ≤ s.pos + (f + 1) ∧ o.most = size ∧ o.b.length ≤ size ∧ 2 * n ≤ s.pos ∧ o.b.length ≤ 321 * n) := ⟨hp, hgk, hm, hos, h2n, hon⟩
        have hn : n ≤ 1000000 := by omega
        have hwr : IntKind.i64.wrap ((n : Int) + 1) = ((n + 1 : Nat) : Int) := by rw [IntKind.wrap_i64]; omega
        obtain ⟨n1, hn1⟩ : ∃ n1, n + 1 = n1 := ⟨_, rfl⟩
        rw [hn1] at hwr HRUN
        have HN1 := Lib.hid hn1
        clear hdec hrun2 hrun hx hcost hsl hp hgk hm hos h2n hon hll hn hn1
        go_wp2_with fail
        refine HFU.out.mono ?_; rintro e w6 ⟨rfl, n6, rfl⟩
        have HST := Lib.hid (enext_c trees q qr qo low least qb ql qd t s o (HS.out.read ((Keep.refl [] wr).drewN n6)) HLO.out HLE.out.1 HT.out (by rw [HSL.out]; exact HNU.out.1) HLB.out)
        clear HFU c1
        generalize wr.drewN n6 = w6 at *
        obtain ⟨er, her⟩ : ∃ er, (step15 trees low least t s o).1 = er := ⟨_, rfl⟩
        rw [her] at HST HRUN HCO
        clear her
        go_wp2_with fail
        refine HST.out.mono ?_; rintro e w7 ⟨rfl, hk, hS⟩
        have HK7 := Lib.hid hk; have HS7 := Lib.hid hS
        clear HST hk hS
        by_cases h0 : er = 0
        · subst h0
          go_wp2_with fail
          go_roundg f
          case rel =>
            obtain ⟨a1, a2, a3, a4, a5, a6, a7⟩ := HCO.out trivial HNU.out.1 (by have := HNU.out; omega)
            obtain ⟨b1, b2, b3, b4, b5, b6⟩ := HNU.out
            have b7 := HN1.out
            have b8 := HLE.out.1
            refine ⟨n1, _, _, rfl, HS7.out trivial, a5, a7, by omega, by omega, by omega, by omega, by omega, ?_⟩
            have := HRUN.out; rw [if_neg (by simp)] at this; exact this
          case measure => omega
        · have t1 : ((er : Int) != 0) = true := by simp; omega
          have HD1 : Hid (D = ([], 0, er)) := by have := HRUN.out; rw [if_pos h0] at this; exact this.symm
          have HH := Lib.hid h0
          clear h0
          go_wp2_with fail
          go_ret2
          exact ⟨0, er, rfl, HK7.out, fun _ => ⟨rfl, HD1.out⟩, fun h => absurd h HH.out⟩
  · have t1 : ((e0 : Int) != 0) = true := by simp; omega
    have HK := Lib.hid hk
    have HD1 : Hid (D = ([], 0, e0)) := by have := HD.out; rw [if_pos h0] at this; exact this
    have HH := Lib.hid h0
    clear h0 hS hk
    go_wp2_with fail
    go_ret2
    exact ⟨0, e0, rfl, HK.out, fun _ => ⟨rfl, HD1.out⟩, fun h => absurd h HH.out⟩
end Go.Proofs.YthmojejiaeninaaGreat
namespace Go.Proofs.YthmojejiaeninaaGreat
set_option linter.unusedVariables false
set_option linter.unusedSimpArgs false
set_option maxRecDepth 100000
open Go.ChangeShapes Go.WideShapes Go.ChangeAt Go.RowKit

theorem win15_good (large : Bool) (size : Int) (h : ¬ size < 0) : ¬ hsBad (win15 large) size := by
  unfold hsBad win15; cases large <;> simp <;> omega
set_option maxHeartbeats 4000000 in
theorem exp_decode (w : World) (v : Value) (b : List UInt8) (large trees : Bool) (size : Int) (hb : Bs w v b) (hl : b.length ≤ 100000) (hs : (Lit.int .i64 size).wf = true) : Calls Tryz.prog 16 #[v, .bool large, .bool trees, .int .i64 size] w fun e w' => ∃ v', e = .returned (.tuple #[v', .int .i64 (dec15 b large trees size).2.1, .int .i64 (dec15 b large trees size).2.2]) ∧ Bs w' v' (dec15 b large trees size).1 ∧ Keep [] w w' := by
  have hz2 : -9223372036854775808 ≤ size ∧ size ≤ 9223372036854775807 := by
    simpa [Lit.wf, IntKind.min, IntKind.max, IntKind.bits, IntKind.signed] using hs
  have HPA := Lib.hid (exp_params w large trees)
  have HB := Lib.hid hb; have HL := Lib.hid hl
  clear hs hb hl
  by_cases h0 : size < 0
  · have hD : dec15 b large trees size = ([], 0, 2) := by unfold dec15; rw [if_pos h0]
    have HN := Lib.hid (fun w1 => hs_new w1 (win15 large) size true hz2.2 hz2.1)
    have hbad : hsBad (win15 large) size := by unfold hsBad; omega
    have HBAD := Lib.hid hbad
    rw [hD]
    clear hbad h0 hz2 hD
    go_enter Tryz.func16, Tryz.ntmps16
    go_wp2_with fail
    refine HPA.out.mono ?_; rintro e w1 ⟨rfl, k1⟩
    go_wp2_with fail
    refine (HN.out w1).mono ?_; rintro e w2 ⟨p, er, rfl, k2, h2, -⟩
    obtain ⟨rfl, rfl⟩ := h2 HBAD.out
    have HK := Lib.hid (k1.trans k2 (by simp))
    clear HN HPA k1 k2 h2
    go_wp2_with fail
    go_ret3
    exact ⟨_, rfl, Bs.nil _, HK.out⟩
  · have HN := Lib.hid (fun w1 (k : Keep [] w w1) => st_hs_new (show St w w1 [] from (St.nil w).read k) (win15 large) size true hz2.2 hz2.1 (win15_good large size h0))
    obtain ⟨size, rfl⟩ : ∃ z : Nat, size = z := ⟨size.toNat, by omega⟩
    have hwin : ((win15 large : Nat) : Int).toNat = win15 large := rfl
    have hsz : ((size : Nat) : Int).toNat = size := rfl
    rw [hwin, hsz] at HN
    clear h0 hwin hsz
    obtain ⟨D, hD⟩ : ∃ D, dec15 b large trees size = D := ⟨_, rfl⟩
    have HD := Lib.hid hD
    rw [hD]
    clear hD
    go_enter Tryz.func16, Tryz.ntmps16
    go_wp2_with fail
    refine HPA.out.mono ?_; rintro e w1 ⟨rfl, k1⟩
    go_wp2_with fail
    refine (HN.out w1 k1).mono ?_; rintro e w2 ⟨qo, rfl, hS, -⟩
    have HOP := Lib.hid (st_open hS v b (by have := HL.out; omega) (HB.out.keep hS.kp (by simp)))
    clear HN HPA k1 hS
    go_wp2_with fail
    refine HOP.out.mono ?_; rintro e w3 ⟨qr, rfl, hS, -⟩
    have HS := Lib.hid hS
    clear HOP hS
    have HS4 : Hid (St w (w3.alloc (.cells #[.pointer (some ⟨qr, 0, none⟩), .pointer (some ⟨qo, 0, none⟩), .int .i64 (low15 large), .int .i64 (least15 trees), .nilIface, .pointer none, .pointer none] 94)) (DcO w3.heap.size qr qo (low15 large) (least15 trees) .nilIface (.pointer none) (.pointer none) ⟨b, 0, true, 0⟩ ⟨win15 large, size, true, []⟩)) :=
      (HS.out.pushBox (dcCells qr qo (low15 large) (least15 trees) .nilIface (.pointer none) (.pointer none)) 94).sub _ (fun j => [2, 1, 0].getD j 0) (fun j => [2, 1, 0].getD j 0) (fun j hj => by
        rcases j with _ | _ | _ | j
        · exact ⟨rfl, rfl⟩
        · exact ⟨rfl, rfl⟩
        · exact ⟨rfl, rfl⟩
        · simp [DcO] at hj; omega)
    clear HS HB
    obtain ⟨w4, hw4⟩ : ∃ w4, w3.alloc (.cells #[.pointer (some ⟨qr, 0, none⟩), .pointer (some ⟨qo, 0, none⟩), .int .i64 (low15 large), .int .i64 (least15 trees), .nilIface, .pointer none, .pointer none] 94) = w4 := ⟨_, rfl⟩
    obtain ⟨q, hq⟩ : ∃ q, w3.heap.size = q := ⟨_, rfl⟩
    rw [hw4, hq] at HS4
    by_cases h0 : size = 0
    · subst h0
      have hd := HD.out
      unfold dec15 at hd
      rw [if_neg (by simp), if_pos (by rfl)] at hd
      obtain ⟨lf, hlf⟩ : ∃ lf, 8 * b.length = lf := ⟨_, rfl⟩
      have HDD : Hid (D = if 8 ≤ lf then ([], 0, 5) else ([], 0, 0)) := by
        unfold Hid
        rw [← hd]
        by_cases hb : b.length = 0
        · rw [if_pos hb, if_neg (by omega)]
        · rw [if_neg hb, if_pos (by omega)]
      have HLEFT : Hid ((⟨b, 0, true, 0⟩ : RS).left = lf) := hlf
      have HLFB : Hid (lf ≤ 1000000) := by have := HL.out; unfold Hid; omega
      have HOBL : Hid ((⟨win15 large, 0, true, []⟩ : HS).b.length ≤ 140737488350000) := by unfold Hid; simp
      have HX := HS4
      obtain ⟨c0, -, -, -, -, -, -⟩ := dc_cells (HS4.out.blk 0 rfl)
      clear hd hlf HD HS4
      have HLF := Lib.hid (st_left HX.out 1 rfl)
      have HBY : Hid (∀ u : World, Keep [] w4 u → Calls Tryz.prog 44 #[.pointer (some ⟨qo, 0, none⟩)] u fun e w' => ∃ v, e = .returned v ∧ OwnB w' v [] ∧ Keep [] u w' ∧ ∀ b, v.ownBlock = some b → u.heap.size ≤ b) := fun u k => st_hs_bytes (HX.out.read k) 2 rfl HOBL.out
      rw [HLEFT.out] at HLF
      clear HLEFT HOBL
      have hlb := HLFB.out
      by_cases h8 : 8 ≤ lf
      · have HD2 : Hid (D = ([], 0, 5)) := by have := HDD.out; rw [if_pos h8] at this; exact this
        clear HDD HBY
        go_wp2_with fail
        refine HLF.out.mono ?_; rintro e w5 ⟨rfl, n5, rfl⟩
        have HK := Lib.hid (HX.out.read ((Keep.refl [] w4).drewN n5)).kp
        clear HLF c0
        generalize w4.drewN n5 = w5 at *
        go_wp2_with fail
        go_ret3
        rw [HD2.out]
        exact ⟨_, rfl, Bs.nil _, HK.out⟩
      · have h8' : lf < 8 := by omega
        have HD2 : Hid (D = ([], 0, 0)) := by have := HDD.out; rw [if_neg h8] at this; exact this
        clear HDD h8
        go_wp2_with fail
        refine HLF.out.mono ?_; rintro e w5 ⟨rfl, n5, rfl⟩
        have HK := Lib.hid (HX.out.read ((Keep.refl [] w4).drewN n5)).kp
        have HB5 := Lib.hid (HBY.out _ ((Keep.refl [] w4).drewN n5))
        clear HLF c0 HBY
        generalize w4.drewN n5 = w5 at *
        go_wp2_with fail
        refine HB5.out.mono ?_; rintro e w6 ⟨v6, rfl, hb6, k6, -⟩
        have HB6 := Lib.hid hb6.bs; have HK6 := Lib.hid (HK.out.trans k6 (by simp))
        clear HB5 hb6 k6 HK
        go_wp2_with fail
        go_ret3
        rw [HD2.out]
        exact ⟨_, rfl, HB6.out, HK6.out⟩
    · have HAL := Lib.hid (eall_c large trees q qr qo .nilIface (.pointer none) (.pointer none) b size HS4.out HL.out (by omega))
      rw [HD.out] at HAL
      have h0' : 0 < size := by omega
      clear HD HS4 h0
      go_wp2_with fail
      refine HAL.out.mono ?_; rintro e w5 ⟨n, er, rfl, hk, h1, h2⟩
      by_cases h0 : er = 0
      · subst h0
        obtain ⟨qb, ql, qd, t, s, o, hS, hob, hleft, hdd⟩ := h2 rfl
        obtain ⟨lf, hlf⟩ : ∃ lf, s.left = lf := ⟨_, rfl⟩
        rw [hlf] at hleft hdd
        obtain ⟨c0, -, -, -, -, -, -⟩ := DcL.tail _ _ _ _ _ _ _ _ _ _ _ _ _ _ hS
        have HX := Lib.hid hS; have HLEFT := Lib.hid hlf; have HLFB := Lib.hid hleft; have HDD := Lib.hid hdd
        have HOBL : Hid (o.b.length ≤ 140737488350000) := by unfold Hid; omega
        clear hS hlf hleft hdd hob h1 h2 hk HAL hw4 hq
        have HLF := Lib.hid (st_left HX.out 1 rfl)
        have HBY : Hid (∀ u : World, Keep [] w5 u → Calls Tryz.prog 44 #[.pointer (some ⟨qo, 0, none⟩)] u fun e w' => ∃ v, e = .returned v ∧ OwnB w' v o.b ∧ Keep [] u w' ∧ ∀ b, v.ownBlock = some b → u.heap.size ≤ b) := fun u k => st_hs_bytes (HX.out.read k) 2 rfl HOBL.out
        rw [HLEFT.out] at HLF
        clear HLEFT HOBL
        have hlb := HLFB.out
        by_cases h8 : 8 ≤ lf
        · have HD2 : Hid (D = ([], 0, 5)) := by have := HDD.out; rw [if_pos h8] at this; exact this
          clear HDD HBY
          go_wp2_with fail
          refine HLF.out.mono ?_; rintro e w7 ⟨rfl, n5, rfl⟩
          have HK := Lib.hid (HX.out.read ((Keep.refl [] w5).drewN n5)).kp
          clear HLF c0
          generalize w5.drewN n5 = w7 at *
          go_wp2_with fail
          go_ret3
          rw [HD2.out]
          exact ⟨_, rfl, Bs.nil _, HK.out⟩
        · have h8' : lf < 8 := by omega
          have HD2 : Hid (D = (o.b, n, 0)) := by have := HDD.out; rw [if_neg h8] at this; exact this
          clear HDD h8
          go_wp2_with fail
          refine HLF.out.mono ?_; rintro e w7 ⟨rfl, n5, rfl⟩
          have HK := Lib.hid (HX.out.read ((Keep.refl [] w5).drewN n5)).kp
          have HB5 := Lib.hid (HBY.out _ ((Keep.refl [] w5).drewN n5))
          clear HLF c0 HBY
          generalize w5.drewN n5 = w7 at *
          go_wp2_with fail
          refine HB5.out.mono ?_; rintro e w6 ⟨v6, rfl, hb6, k6, -⟩
          have HB6 := Lib.hid hb6.bs; have HK6 := Lib.hid (HK.out.trans k6 (by simp))
          clear HB5 hb6 k6 HK
          go_wp2_with fail
          go_ret3
          rw [HD2.out]
          exact ⟨_, rfl, HB6.out, HK6.out⟩
      · have t1 : ((er : Int) != 0) = true := by simp; omega
        have t2 : ((er : Int) == 0) = false := by simp; omega
        obtain ⟨rfl, hdd⟩ := h1 h0
        have HK := Lib.hid hk
        have HDD := Lib.hid hdd
        clear h1 h2 hk h0 HAL hdd
        go_wp2_with fail
        go_ret3
        rw [HDD.out]
        exact ⟨_, rfl, Bs.nil _, HK.out⟩
end Go.Proofs.YthmojejiaeninaaGreat
