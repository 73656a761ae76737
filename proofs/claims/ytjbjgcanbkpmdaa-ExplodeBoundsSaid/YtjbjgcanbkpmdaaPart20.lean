/- Texts put together: Exp1 Exp2 Exp3 Exp4 Exp5 Exp ExpLaw1 ExpLaw2 ExpLaw3 -/
import Derived.Test.YtjbjgcanbkpmdaaPart7
import Derived.Test.YtjbjgcanbkpmdaaPart15
import Derived.Test.YtjbjgcanbkpmdaaPart19
import Derived.Test.YtjbjgcanbkpmdaaPart6
import Derived.Test.YtjbjgcanbkpmdaaPart1
import Derived.Deep.LoopGhost
import Derived.Test.YtjbjgcanbkpmdaaPart8
import Derived.Test.YtjbjgcanbkpmdaaPart21
import Derived.Deep.RegionWith
namespace Go.Proofs.Ytjbjgcanbkpmdaa
set_option linter.unusedVariables false
set_option linter.unusedSimpArgs false
set_option maxRecDepth 100000
open Go.ChangeShapes Go.WideShapes Go.ChangeAt Go.RowKit

theorem exp_params (w : World) (large trees : Bool) : Calls Try.prog 14 #[.bool large, .bool trees] w fun e w' => e = .returned (.tuple #[.int .i64 (win15 large), .int .i64 (low15 large), .int .i64 (least15 trees)]) ∧ Keep [] w w' := by
  cases large <;> cases trees
  all_goals
    go_enter Try.func14, Try.ntmps14
    go_wp2_with fail
    go_ret3
    exact ⟨rfl, Keep.refl _ _⟩
theorem st_bit1 {W w : World} {Ps : List Ob} (h : St W w Ps) (i : Nat) {q : Nat} {s : RS} (hi : Ps[i]? = some (Ob.rd q s)) : Calls Try.prog 56 #[.pointer (some ⟨q, 0, none⟩)] w fun e w' => e = .returned (.int .u32 (s.bits 1).1) ∧ St W w' (Ps.set i (Ob.rd q (s.bits 1).2)) := by
  obtain ⟨bs, ⟨v, rfl, h1⟩, h2, h3⟩ := h.focus i hi
  refine (bit_c w q v s h1).mono ?_
  rintro e w' ⟨he, hr, hk⟩
  exact ⟨he, h3 w' _ _ ⟨v, rfl, hr⟩ (hk.mono (by simp)) (fun b hb => .inl hb)⟩
/-- lengths unpacked; whatever comes of it, the objects beside the reader stay -/
theorem st_sf_unpackL {W w : World} {Ps : List Ob} (h : St W w Ps) (i : Nat) {q : Nat} {s : RS} (hi : Ps[i]? = some (Ob.rd q s)) (n : Int) : Calls Try.prog 62 #[.pointer (some ⟨q, 0, none⟩), .int .i64 n] w fun e w' =>
    ∃ v', e = .returned (.tuple #[v', .int .i64 (s.unp n).2.1]) ∧ Is .i64 w' v' (s.unp n).1 ∧ St W w' (Ps.set i Ob.gone) ∧ ((s.unp n).2.1 = 0 → St W w' (Ps.set i (Ob.rd q (s.unp n).2.2))) := by
  obtain ⟨bs, ⟨v, rfl, h1⟩, h2, h3⟩ := h.focus i hi
  refine (sf_unpack w q v s n h1).mono ?_
  rintro e w' ⟨v', he, hI, hk, hb, hr⟩
  exact ⟨v', he, hI, h3 w' Ob.gone [] rfl (hk.mono (by simp)) (fun b hb => by simp at hb), fun h0 => h3 w' _ _ ⟨v, rfl, hr h0⟩ (hk.mono (by simp)) (fun b hb => .inl hb)⟩
/-- a tree of a reader among others -/
theorem st_tree {W w : World} {Ps : List Ob} (h : St W w Ps) (i : Nat) {q : Nat} {s : RS} (hi : Ps[i]? = some (Ob.rd q s)) (n : Int) : Calls Try.prog 55 #[.pointer (some ⟨q, 0, none⟩), .int .i64 n] w fun e w' =>
    ∃ p, e = .returned (.tuple #[.pointer p, .int .i64 (tre n s).1]) ∧ ((tre n s).1 ≠ 0 → St W w' (Ps.set i Ob.gone)) ∧ ((tre n s).1 = 0 → ∃ d, p = some ⟨d, 0, none⟩ ∧ St W w' (Ps.set i (Ob.rd q (tre n s).2.2) ++ [Ob.dec6 d (tre n s).2.1])) := by
  have HU := Lib.hid (st_sf_unpackL h i hi n)
  have HGET : Hid (∀ P : Ob, (Ps.set i P)[i]? = some P) := by
    have hl : i < Ps.length := by
      rcases Nat.lt_or_ge i Ps.length with h | h
      · exact h
      · rw [List.getElem?_eq_none h] at hi; cases hi
    exact fun P => List.getElem?_set_self hl
  unfold tre
  obtain ⟨U, hU⟩ : ∃ U, s.unp n = U := ⟨_, rfl⟩
  rw [hU] at HU ⊢
  clear hU
  obtain ⟨zs, er, s2⟩ := U
  dsimp only at HU ⊢
  clear h hi
  by_cases he : er = 0
  · subst he
    rw [if_neg (by simp)]
    dsimp only
    go_enter Try.func55, Try.ntmps55
    go_wp2_with fail
    refine HU.out.mono ?_; rintro e w2 ⟨v2, rfl, hI, -, hS⟩
    have HS := Lib.hid (hS trivial)
    have HN := Lib.hid (st_sf_new HS.out v2 zs hI)
    have HLS : Hid (schk zs = 0 → Ls zs = Ln zs) := fun h => by unfold Ls; rw [if_pos h]
    clear HU hS hI
    go_wp2_with fail
    refine HN.out.mono ?_; rintro e w3 ⟨p, rfl, hk, hS3, -, hD⟩
    have HK : Hid (St W w3 (Ps.set i Ob.gone)) := by have := hS3.lose i (HGET.out _); rw [List.set_set] at this; exact this
    have HD := Lib.hid hD
    clear HN hk hD hS3
    go_wp2_with fail
    go_ret2
    refine ⟨p, rfl, fun _ => HK.out, fun h0 => ?_⟩
    obtain ⟨d, e1, e2⟩ := HD.out h0
    rw [HLS.out h0]
    exact ⟨d, e1, e2⟩
  · have t1 : ((er : Int) != 0) = true := by simp; omega
    rw [if_pos he]
    dsimp only
    have HE := Lib.hid he; clear he
    go_enter Try.func55, Try.ntmps55
    go_wp2_with fail
    refine HU.out.mono ?_; rintro e w2 ⟨v2, rfl, -, hK, -⟩
    have HK := Lib.hid hK
    clear HU hK
    go_wp2_with fail
    go_ret2
    exact ⟨none, rfl, fun _ => HK.out, fun h => absurd h HE.out⟩
/-- eight bits -/
theorem st_eight {W w : World} {Ps : List Ob} (h : St W w Ps) (i : Nat) {q : Nat} {s : RS} (hi : Ps[i]? = some (Ob.rd q s)) : Calls Try.prog 104 #[.agg #[], .pointer (some ⟨q, 0, none⟩)] w fun e w' =>
    e = .returned (.tuple #[.int .i64 (s.bits 8).1, .int .i64 (s.bits 8).2.E]) ∧ St W w' (Ps.set i (Ob.rd q (s.bits 8).2)) := by
  have HB := Lib.hid (st_bits (h.read ((Keep.refl [] w).alloc (.cells #[] 110))) i hi 8)
  have hlt : (s.bits 8).1 < 256 := bits_lt15 s 8 (by decide)
  have hget : (Ps.set i (Ob.rd q (s.bits 8).2))[i]? = some (Ob.rd q (s.bits 8).2) := by
    have hl : i < Ps.length := by
      rcases Nat.lt_or_ge i Ps.length with h | h
      · exact h
      · rw [List.getElem?_eq_none h] at hi; cases hi
    exact List.getElem?_set_self hl
  have HG := Lib.hid hget
  clear hget
  generalize s.bits 8 = B at HB hlt HG ⊢
  obtain ⟨x, s2⟩ := B
  dsimp only at HB hlt HG ⊢
  have hwr : IntKind.i64.wrap (x : Int) = (x : Int) := by rw [IntKind.wrap_i64]; omega
  clear h hi
  go_enter Try.func104, Try.ntmps104
  go_wp2_with fail
  refine HB.out.mono ?_; rintro e w2 ⟨rfl, hS⟩
  have HS := Lib.hid hS
  have HE := Lib.hid (st_err hS i HG.out)
  clear HB hS
  go_wp2_with fail
  refine HE.out.mono ?_; rintro e w3 ⟨rfl, rfl⟩
  go_wp2_with fail
  go_ret2
  exact ⟨rfl, HS.out⟩
end Go.Proofs.Ytjbjgcanbkpmdaa
namespace Go.Proofs.Ytjbjgcanbkpmdaa
set_option linter.unusedVariables false
set_option linter.unusedSimpArgs false
set_option maxRecDepth 100000
open Go.ChangeShapes Go.WideShapes Go.ChangeAt Go.RowKit

/-- the cells of what is read by -/
def dcCells (qr qo low least : Nat) (vb vl vd : Value) : Array Value := #[.pointer (some ⟨qr, 0, none⟩), .pointer (some ⟨qo, 0, none⟩), .int .i64 low, .int .i64 least, vb, vl, vd]
theorem dc_cells {w : World} {q qr qo low least : Nat} {vb vl vd : Value} (h : Blk w q (dcCells qr qo low least vb vl vd) 58) : w.cell? ⟨q, 0, none⟩ = some (.pointer (some ⟨qr, 0, none⟩)) ∧ w.cell? ⟨q, 1, none⟩ = some (.pointer (some ⟨qo, 0, none⟩)) ∧
    w.cell? ⟨q, 2, none⟩ = some (.int .i64 low) ∧ w.cell? ⟨q, 3, none⟩ = some (.int .i64 least) ∧ w.cell? ⟨q, 4, none⟩ = some vb ∧ w.cell? ⟨q, 5, none⟩ = some vl ∧ w.cell? ⟨q, 6, none⟩ = some vd :=
  ⟨h.cell 0 _ rfl, h.cell 1 _ rfl, h.cell 2 _ rfl, h.cell 3 _ rfl, h.cell 4 _ rfl, h.cell 5 _ rfl, h.cell 6 _ rfl⟩
/-- what a byte is read by -/
def Ob.byt (trees : Bool) (d : Nat) (L : List Nat) : Ob := if trees then Ob.dec6 d L else Ob.gone
def vbyt (trees : Bool) (d : Nat) : Value := if trees then .iface 56 (.pointer (some ⟨d, 0, none⟩)) else .iface 110 (.agg #[])
/-- what is read by, and all that it holds -/
def DcL (trees : Bool) (q qr qo low least qb ql qd : Nat) (tb tl tf : List Nat) (s : RS) (o : HS) : List Ob :=
  [Ob.box q (dcCells qr qo low least (vbyt trees qb) (.pointer (some ⟨ql, 0, none⟩)) (.pointer (some ⟨qd, 0, none⟩))) 58, Ob.rd qr s, Ob.out qo o, Ob.byt trees qb tb, Ob.dec6 ql tl, Ob.dec6 qd tf]
theorem cop15_cs (low least : Nat) (tl tf : List Nat) (s : RS) (o : HS) (x : Nat) (s1 : RS) (y : Int) (e1 : Nat) (s2 : RS) (z : Int) (e2 : Nat) (s3 : RS) (hB : s.bits low = (x, s1)) (hN : s1.nextS tf = (y, e1, s2)) (hM : s2.nextS tl = (z, e2, s3)) :
    (e1 ≠ 0 → (cop15 low least tl tf s o).1 = e1) ∧ (e1 = 0 → e2 ≠ 0 → (cop15 low least tl tf s o).1 = e2) ∧
    (e1 = 0 → e2 = 0 → z ≠ 63 → cop15 low least tl tf s o = ((o.copy (y.toNat * 2 ^ low + x + 1 : Nat) (z.toNat + least : Nat)).1, (o.copy (y.toNat * 2 ^ low + x + 1 : Nat) (z.toNat + least : Nat)).2, s3)) ∧
    (e1 = 0 → e2 = 0 → z = 63 → (s3.bits 8).2.E ≠ 0 → (cop15 low least tl tf s o).1 = (s3.bits 8).2.E) ∧
    (e1 = 0 → e2 = 0 → z = 63 → (s3.bits 8).2.E = 0 → cop15 low least tl tf s o = ((o.copy (y.toNat * 2 ^ low + x + 1 : Nat) (63 + (s3.bits 8).1 + least : Nat)).1, (o.copy (y.toNat * 2 ^ low + x + 1 : Nat) (63 + (s3.bits 8).1 + least : Nat)).2, (s3.bits 8).2)) := by
  have hT : two15 low tl tf s = if e1 ≠ 0 then (e1, 0, 0, s2) else ((len15 tl s2).2.1, y.toNat * 2 ^ low + x + 1, (len15 tl s2).1, (len15 tl s2).2.2) := by
    rw [two15_free, hB]; dsimp only; rw [hN]
  have hL : len15 tl s2 = if e2 ≠ 0 then (0, e2, s3) else if z = 63 then (63 + (s3.bits 8).1, (s3.bits 8).2.E, (s3.bits 8).2) else (z.toNat, 0, s3) := by
    unfold len15; rw [hM]
  have key : ∀ T, two15 low tl tf s = T → cop15 low least tl tf s o = if T.1 ≠ 0 then (T.1, o, T.2.2.2) else ((o.copy T.2.1 (T.2.2.1 + least : Nat)).1, (o.copy T.2.1 (T.2.2.1 + least : Nat)).2, T.2.2.2) := by
    intro T h; unfold cop15; rw [h]
  refine ⟨fun h => ?_, fun h g => ?_, fun h g k => ?_, fun h g k m => ?_, fun h g k m => ?_⟩
  · rw [if_pos h] at hT
    rw [key _ hT, if_pos h]
  · rw [if_neg (by simpa using h), hL, if_pos g] at hT
    rw [key _ hT, if_pos g]
  · rw [if_neg (by simpa using h), hL, if_neg (by simpa using g), if_neg k] at hT
    rw [key _ hT, if_neg (by simp)]
  · rw [if_neg (by simpa using h), hL, if_neg (by simpa using g), if_pos k] at hT
    rw [key _ hT, if_pos m]
  · rw [if_neg (by simpa using h), hL, if_neg (by simpa using g), if_pos k] at hT
    rw [key _ hT, if_neg (by simpa using m)]
theorem nextS_num (L : List Nat) (s : RS) (hL : Full15 L ∧ L.length = 64) (hp : s.pos ≤ 8 * s.l.length) (h : (s.nextS L).2.1 = 0) : ∃ i : Nat, i < 64 ∧ (s.nextS L).1 = (i : Int) ∧ (s.nextS L).2.2.E = 0 ∧ (s.nextS L).2.2.pos ≤ 8 * (s.nextS L).2.2.l.length := by
  obtain ⟨i, hi, h1, h3, h4, h5, h6⟩ := nextS_cost L s hL.1 h hp
  exact ⟨i, by rw [← hL.2]; exact hi, h1, h4, by rw [h3]; exact h6⟩
theorem bits_pos (s : RS) (n : Int) (hp : s.pos ≤ 8 * s.l.length) (h : (s.bits n).2.E = 0) : (s.bits n).2.pos ≤ 8 * (s.bits n).2.l.length := by
  obtain ⟨_, g3, g4, g5⟩ := bits_good s n h hp
  rw [g3, g4]; exact g5
theorem nextS_E (L : List Nat) (s : RS) (h : (s.nextS L).2.1 = 0) : s.E = 0 := by
  by_cases hE : s.E = 0
  · exact hE
  · have := nextS_err L s hE
    rw [this] at h; exact absurd h hE
theorem DcL.tail {W w : World} (trees : Bool) (q qr qo low least qb ql qd : Nat) (tb tl tf : List Nat) (s : RS) (o : HS) (h : St W w (DcL trees q qr qo low least qb ql qd tb tl tf s o)) : w.cell? ⟨q, 0, none⟩ = some (.pointer (some ⟨qr, 0, none⟩)) ∧ w.cell? ⟨q, 1, none⟩ = some (.pointer (some ⟨qo, 0, none⟩)) ∧
    w.cell? ⟨q, 2, none⟩ = some (.int .i64 low) ∧ w.cell? ⟨q, 3, none⟩ = some (.int .i64 least) ∧ w.cell? ⟨q, 4, none⟩ = some (vbyt trees qb) ∧ w.cell? ⟨q, 5, none⟩ = some (.pointer (some ⟨ql, 0, none⟩)) ∧ w.cell? ⟨q, 6, none⟩ = some (.pointer (some ⟨qd, 0, none⟩)) := dc_cells (h.blk 0 rfl)
theorem pow_mul15 (low i x : Nat) (hl : low ≤ 7) (hi : i < 64) (hx : x < 2 ^ low) : (IntKind.i64.wrap ((i : Int) * 2 ^ (min low 64)) = ((i * 2 ^ low : Nat) : Int)) ∧ i * 2 ^ low + x + 1 ≤ 8192 ∧ i * 2 ^ low ≤ 8064 ∧ x < 128 := by
  have h1 : 2 ^ low ≤ 2 ^ 7 := Nat.pow_le_pow_right (by decide) hl
  have h2 : i * 2 ^ low ≤ 63 * 2 ^ 7 := Nat.mul_le_mul (by omega) h1
  have h3 : ((i : Int) * 2 ^ low) = ((i * 2 ^ low : Nat) : Int) := by simp
  refine ⟨?_, by omega, by omega, by omega⟩
  rw [Nat.min_eq_left (by omega), h3, IntKind.wrap_i64]; omega
set_option maxHeartbeats 4000000 in
theorem ecopy_c {W w : World} (trees : Bool) (q qr qo low least qb ql qd : Nat) (tb tl tf : List Nat) (s : RS) (o : HS) (h : St W w (DcL trees q qr qo low least qb ql qd tb tl tf s o)) (hlow : low ≤ 7) (hleast : least ≤ 3)
    (hL : Full15 tl ∧ tl.length = 64) (hF : Full15 tf ∧ tf.length = 64) (hp : s.pos ≤ 8 * s.l.length) (ho : o.b.length ≤ 1000000000000) : Calls Try.prog 57 #[.pointer (some ⟨q, 0, none⟩)] w fun e w' =>
    e = .returned (.int .i64 (cop15 low least tl tf s o).1) ∧ Keep [] W w' ∧ ((cop15 low least tl tf s o).1 = 0 → St W w' (DcL trees q qr qo low least qb ql qd tb tl tf (cop15 low least tl tf s o).2.2 (cop15 low least tl tf s o).2.1)) := by
  obtain ⟨c0, -, c2, -, -, -, -⟩ := DcL.tail _ _ _ _ _ _ _ _ _ _ _ _ _ _ h
  obtain ⟨x, s1, hB⟩ : ∃ x s1, s.bits low = (x, s1) := ⟨_, _, rfl⟩
  obtain ⟨y, e1, s2, hN⟩ : ∃ y e1 s2, s1.nextS tf = (y, e1, s2) := ⟨_, _, _, rfl⟩
  obtain ⟨z, e2, s3, hM⟩ : ∃ z e2 s3, s2.nextS tl = (z, e2, s3) := ⟨_, _, _, rfl⟩
  have hx : x < 2 ^ low := by have := bits_lt15 s low (by omega); rw [hB] at this; exact this
  obtain ⟨k1, k2, k3, k4, k5⟩ := cop15_cs low least tl tf s o x s1 y e1 s2 z e2 s3 hB hN hM
  have f1 : e1 = 0 → ∃ i : Nat, i < 64 ∧ y = (i : Int) ∧ s2.E = 0 ∧ s2.pos ≤ 8 * s2.l.length := by
    intro h0
    have hE : s1.E = 0 := nextS_E tf s1 (by rw [hN]; exact h0)
    have hp1 : s1.pos ≤ 8 * s1.l.length := by have := bits_pos s low hp (by rw [hB]; exact hE); rw [hB] at this; exact this
    have := nextS_num tf s1 hF hp1 (by rw [hN]; exact h0)
    rw [hN] at this; exact this
  have f2 : s2.pos ≤ 8 * s2.l.length → e2 = 0 → ∃ i : Nat, i < 64 ∧ z = (i : Int) ∧ s3.E = 0 ∧ s3.pos ≤ 8 * s3.l.length := by
    intro hp2 h0
    have := nextS_num tl s2 hL hp2 (by rw [hM]; exact h0)
    rw [hM] at this; exact this
  have HB := Lib.hid (st_bits (h.read ((Keep.refl [] w).drew)) 1 rfl (low : Nat))
  have hxi : x < 4294967296 := by have : 2 ^ low ≤ 2 ^ 7 := Nat.pow_le_pow_right (by decide) hlow; omega
  have HWX : IntKind.i64.wrap (x : Int) = (x : Int) := by rw [IntKind.wrap_i64]; omega
  have HC1 := Lib.hid k1; have HC2 := Lib.hid k2; have HC3 := Lib.hid k3; have HC4 := Lib.hid k4; have HC5 := Lib.hid k5
  have HF1 := Lib.hid f1; have HF2 := Lib.hid f2; have HN := Lib.hid hN; have HM := Lib.hid hM
  have HX := Lib.hid hx; have HO := Lib.hid ho; have HLO := Lib.hid hlow; have HLE := Lib.hid hleast
  rw [hB] at HB
  generalize cop15 low least tl tf s o = R at HC1 HC2 HC3 HC4 HC5 ⊢
  clear k1 k2 k3 k4 k5 f1 f2 hN hM hB hL hF hp ho h hlow hleast hx hxi
  go_enter Try.func57, Try.ntmps57
  go_wp2_with fail
  go_still_tail 8, (by kernel_rfl)
  change wpList _ _ _ _ _ w.drew
  clear c0 c2
  generalize w.drew = w1 at *
  go_wp2_with fail
  refine HB.out.mono ?_; rintro e w2 ⟨rfl, hS⟩
  have hS2 : St W w2 (DcL trees q qr qo low least qb ql qd tb tl tf s1 o) := hS
  obtain ⟨c0, -, -, -, -, -, c6⟩ := DcL.tail _ _ _ _ _ _ _ _ _ _ _ _ _ _ hS2
  have HB2 := Lib.hid (st_sf_next (hS2.read ((Keep.refl [] w2).drew)) 1 5 (by decide) rfl rfl)
  rw [HN.out] at HB2
  clear HB hS hS2
  go_wp2_with fail
  go_upto_region 2 with fail
  go_cut [4, 5] (fun v3 v4 wx => v3 = .int .i64 y ∧ v4 = .int .i64 e1 ∧ St W wx (DcL trees q qr qo low least qb ql qd tb tl tf s2 o))
  case first =>
    go_region_with (first | (go_at_call 65; (refine HB2.out.mono ?_); (rintro e w3 ⟨rfl, hS⟩)))
    all_goals
      go_wp2_with fail
      go_meet
      exact ⟨rfl, rfl, hS⟩
  case rest =>
  obtain ⟨rfl, rfl, hS⟩ := hcut
  clear c0 c6 HB2
  by_cases h1 : e1 = 0
  · obtain ⟨i, hi, rfl, -, hp2⟩ := HF1.out h1
    subst h1
    obtain ⟨c0, -, -, -, -, c5, -⟩ := DcL.tail _ _ _ _ _ _ _ _ _ _ _ _ _ _ hS
    have HB3 := Lib.hid (st_sf_next (hS.read ((Keep.refl [] wc).drew)) 1 4 (by decide) rfl rfl)
    rw [HM.out] at HB3
    have HP2 := Lib.hid hp2
    have HI := Lib.hid hi
    clear hS HF1 hp2 hi
    go_wp2_with fail
    go_upto_region 3 with fail
    go_cut [5, 6] (fun v5 v6 wx => v6 = .int .i64 z ∧ v5 = .int .i64 e2 ∧ St W wx (DcL trees q qr qo low least qb ql qd tb tl tf s3 o))
    case first =>
      go_region_with (first | (go_at_call 65; (refine HB3.out.mono ?_); (rintro e w3 ⟨rfl, hS⟩)))
      all_goals
        go_wp2_with fail
        go_meet
        exact ⟨rfl, rfl, hS⟩
    case rest =>
    obtain ⟨rfl, rfl, hS⟩ := hcut
    clear c0 c5 HB3
    by_cases h2 : e2 = 0
    · obtain ⟨j, hj, rfl, hE3, hp3⟩ := HF2.out HP2.out h2
      subst h2
      obtain ⟨P1, P2, P3, P4⟩ := pow_mul15 low i x HLO.out HI.out HX.out
      have hyn : ((i : Int)).toNat = i := rfl
      have hzn : ((j : Int)).toNat = j := rfl
      rw [hyn, hzn] at HC3
      rw [hyn] at HC5
      obtain ⟨A, hA⟩ : ∃ A, i * 2 ^ low = A := ⟨_, rfl⟩
      rw [hA] at P1 P2 P3 HC3 HC5
      obtain ⟨D, hD⟩ : ∃ D, A + x + 1 = D := ⟨_, rfl⟩
      rw [hD] at P2 HC3 HC5
      obtain ⟨x1, hx1⟩ : ∃ x1, x + 1 = x1 := ⟨_, rfl⟩
      have W1 : IntKind.i64.wrap (1 + (x : Int)) = (x1 : Int) := by rw [IntKind.wrap_i64]; omega
      have W2 : IntKind.i64.wrap ((x1 : Int) + (A : Int)) = (D : Int) := by rw [IntKind.wrap_i64]; omega
      have PD : 1 ≤ D := by omega
      have wfD : (Lit.int .i64 (D : Int)).wf = true := by simp [Lit.wf, IntKind.min, IntKind.max, IntKind.bits, IntKind.signed]; omega
      have WFD := Lib.hid wfD
      have hll : decide ((low : Int) < 0) = false := by simp
      have hLE := HLE.out
      have hOO := HO.out
      clear hA hD hx1 hyn hzn HC1 HC2 HF2 HP2 P2 P3 P4 PD wfD HX HI
      by_cases h63 : j = 63
      · subst h63
        obtain ⟨c0, -, -, -, -, -, -⟩ := DcL.tail _ _ _ _ _ _ _ _ _ _ _ _ _ _ hS
        have HB4 := Lib.hid (st_bits hS 1 rfl 8)
        have hb8 : (s3.bits 8).1 < 256 := bits_lt15 s3 8 (by decide)
        obtain ⟨b, s4, hB4⟩ : ∃ b s4, s3.bits 8 = (b, s4) := ⟨_, _, rfl⟩
        rw [hB4] at HC4 HC5 HB4 hb8
        dsimp only at HC4 HC5 HB4 hb8
        clear hB4 HC3 hS hE3 hj hp3
        have W4 : IntKind.i64.wrap (b : Int) = (b : Int) := by rw [IntKind.wrap_i64]; omega
        obtain ⟨N, hN⟩ : ∃ N, 63 + b = N := ⟨_, rfl⟩
        have W5 : IntKind.i64.wrap (63 + (b : Int)) = (N : Int) := by rw [IntKind.wrap_i64]; omega
        have hNN : N ≤ 400 := by omega
        rw [hN] at HC5
        have HC4' : Hid (s4.E ≠ 0 → R.1 = s4.E) := fun h => HC4.out trivial rfl rfl h
        have HC5' := Lib.hid (HC5.out trivial rfl rfl)
        clear hN hb8 HC4 HC5
        go_wp2_with fail
        refine HB4.out.mono ?_; rintro e w4 ⟨rfl, hS⟩
        have hS4 : St W w4 (DcL trees q qr qo low least qb ql qd tb tl tf s4 o) := hS
        have HE := Lib.hid (st_err hS4 1 rfl)
        have HS := Lib.hid hS4
        clear hS HB4 hS4 c0
        obtain ⟨c0, c1, c2, c3, -, -, -⟩ := DcL.tail _ _ _ _ _ _ _ _ _ _ _ _ _ _ HS.out
        obtain ⟨E4, hE4⟩ : ∃ E4, s4.E = E4 := ⟨_, rfl⟩
        rw [hE4] at HE HC4' HC5'
        clear hE4
        go_wp2_with fail
        refine HE.out.mono ?_; rintro e w5 ⟨rfl, rfl⟩
        by_cases h4 : E4 = 0
        · subst h4
          have HR := Lib.hid (HC5'.out rfl)
          obtain ⟨M, hM⟩ : ∃ M, N + least = M := ⟨_, rfl⟩
          rw [hM] at HR
          have W3 : IntKind.i64.wrap ((N : Int) + (least : Int)) = (M : Int) := by rw [IntKind.wrap_i64]; omega
          have wfM : (Lit.int .i64 (M : Int)).wf = true := by simp [Lit.wf, IntKind.min, IntKind.max, IntKind.bits, IntKind.signed]; omega
          have HCP := Lib.hid (st_hs_copy (HS.out.read ((Keep.refl [] w4).drew)) 2 rfl D M WFD.out wfM (by split <;> omega))
          clear HC4' HC5' hM wfM hOO hLE HE
          go_wp2_with fail
          go_still_tail 19, (by kernel_rfl)
          change wpList _ _ _ _ _ w4.drew
          clear c0 c1 c2 c3
          generalize w4.drew = w6 at *
          go_wp2_with fail
          refine HCP.out.mono ?_; rintro e w5 ⟨rfl, hS⟩
          have HS5 := Lib.hid hS
          clear HCP hS
          go_wp2_with fail
          go_ret
          rw [HR.out]
          exact ⟨rfl, HS5.out.kp, fun _ => HS5.out⟩
        · have t1 : ((E4 : Int) != 0) = true := by simp; omega
          have HR := Lib.hid (HC4'.out h4)
          have H1 := Lib.hid h4
          clear h4
          go_wp2_with fail
          go_ret
          rw [HR.out]
          exact ⟨rfl, HS.out.kp, fun h => absurd h H1.out⟩
      · have t63 : ((j : Int) == 63) = false := by simp; omega
        have t63' : (j == 63) = false := by simp; omega
        have hR := HC3.out trivial rfl (by omega)
        have HR := Lib.hid hR
        obtain ⟨c0, c1, c2, c3, -, -, -⟩ := DcL.tail _ _ _ _ _ _ _ _ _ _ _ _ _ _ hS
        have HE := Lib.hid (st_err hS 1 rfl)
        rw [hE3] at HE
        have HS := Lib.hid hS
        have HE3 := Lib.hid hE3
        have HJ := Lib.hid h63
        obtain ⟨M, hM⟩ : ∃ M, j + least = M := ⟨_, rfl⟩
        rw [hM] at HR
        have W3 : IntKind.i64.wrap ((j : Int) + (least : Int)) = (M : Int) := by rw [IntKind.wrap_i64]; omega
        have wfM : (Lit.int .i64 (M : Int)).wf = true := by simp [Lit.wf, IntKind.min, IntKind.max, IntKind.bits, IntKind.signed]; omega
        have HCP := Lib.hid (st_hs_copy (HS.out.read ((Keep.refl [] wc).drew)) 2 rfl D M WFD.out wfM (by split <;> omega))
        clear hS hE3 hR h63 HC3 HC4 HC5 hM wfM hOO hLE hj
        go_wp2_with fail
        refine HE.out.mono ?_; rintro e w3 ⟨rfl, rfl⟩
        go_wp2_with fail
        go_still_tail 19, (by kernel_rfl)
        change wpList _ _ _ _ _ wc.drew
        clear c0 c1 c2 c3
        generalize wc.drew = w4 at *
        go_wp2_with fail
        with_reducible refine HCP.out.mono ?_; rintro e w5 ⟨rfl, hS⟩
        have HS5 := Lib.hid hS
        clear HCP hS
        go_wp2_with fail
        go_ret
        rw [HR.out]
        exact ⟨rfl, HS5.out.kp, fun _ => HS5.out⟩
    · have t1 : ((e2 : Int) != 0) = true := by simp; omega
      have HK := Lib.hid hS.kp
      have HR := Lib.hid (HC2.out trivial h2)
      have H1 := Lib.hid h2
      clear hS h2
      go_wp2_with fail
      go_ret
      rw [HR.out]
      exact ⟨rfl, HK.out, fun h => absurd h H1.out⟩
  · have t1 : ((e1 : Int) != 0) = true := by simp; omega
    have HK := Lib.hid hS.kp
    have HR := Lib.hid (HC1.out h1)
    have H1 := Lib.hid h1
    clear hS h1
    go_wp2_with fail
    go_ret
    rw [HR.out]
    exact ⟨rfl, HK.out, fun h => absurd h H1.out⟩
end Go.Proofs.Ytjbjgcanbkpmdaa
namespace Go.Proofs.Ytjbjgcanbkpmdaa
set_option linter.unusedVariables false
set_option linter.unusedSimpArgs false
set_option maxRecDepth 100000
open Go.ChangeShapes Go.WideShapes Go.ChangeAt Go.RowKit

/-- what is read by, of trees -/
def DcT (trees : Bool) (q qr qo low least qb ql qd : Nat) (t : T15) (s : RS) (o : HS) : List Ob := DcL trees q qr qo low least qb ql qd t.tb t.tl t.tf s o
theorem step15_e (trees : Bool) (low least : Nat) (t : T15) (s : RS) (o : HS) (x : Nat) (s1 : RS) (hB : s.bits 1 = (x, s1)) :
    (s1.E ≠ 0 → (step15 trees low least t s o).1 = s1.E) ∧ (s1.E = 0 → x ≠ 1 → step15 trees low least t s o = cop15 low least t.tl t.tf s1 o) ∧ (s1.E = 0 → x = 1 → step15 trees low least t s o = lit15 trees t.tb s1 o) := by
  unfold step15
  rw [hB]
  dsimp only
  refine ⟨fun h => by rw [if_pos h], fun h g => by rw [if_neg (by simpa using h), if_neg g], fun h g => by rw [if_neg (by simpa using h), if_pos g]⟩
set_option maxHeartbeats 4000000 in
theorem enext_c {W w : World} (trees : Bool) (q qr qo low least qb ql qd : Nat) (t : T15) (s : RS) (o : HS) (h : St W w (DcT trees q qr qo low least qb ql qd t s o)) (hlow : low ≤ 7) (hleast : least ≤ 3)
    (ht : t.ok trees) (hp : s.pos ≤ 8 * s.l.length) (ho : o.b.length ≤ 1000000000000) : Calls Try.prog 40 #[.pointer (some ⟨q, 0, none⟩)] w fun e w' =>
    e = .returned (.int .i64 (step15 trees low least t s o).1) ∧ Keep [] W w' ∧ ((step15 trees low least t s o).1 = 0 → St W w' (DcT trees q qr qo low least qb ql qd t (step15 trees low least t s o).2.2 (step15 trees low least t s o).2.1)) := by
  obtain ⟨x, s1, hB⟩ : ∃ x s1, s.bits 1 = (x, s1) := ⟨_, _, rfl⟩
  obtain ⟨k1, k2, k3⟩ := step15_e trees low least t s o x s1 hB
  have hp1 : s1.E = 0 → s1.pos ≤ 8 * s1.l.length := fun h0 => by have := bits_pos s 1 hp (by rw [hB]; exact h0); rw [hB] at this; exact this
  obtain ⟨c0, -, -, -, -, -, -⟩ := DcL.tail _ _ _ _ _ _ _ _ _ _ _ _ _ _ h
  have HB := Lib.hid (st_bit1 h 1 rfl)
  rw [hB] at HB
  dsimp only at HB
  have HT := Lib.hid ht; have HO := Lib.hid ho; have HLO := Lib.hid hlow; have HLE := Lib.hid hleast; have HP := Lib.hid hp1
  have K1 := Lib.hid k1; have K2 := Lib.hid k2; have K3 := Lib.hid k3
  generalize step15 trees low least t s o = R at K1 K2 K3 ⊢
  clear hB k1 k2 k3 hp1 h ht ho hlow hleast hp
  go_enter Try.func40, Try.ntmps40
  go_wp2_with fail
  refine HB.out.mono ?_; rintro e w2 ⟨rfl, hS⟩
  have hS2 : St W w2 (DcT trees q qr qo low least qb ql qd t s1 o) := hS
  have HE := Lib.hid (st_err hS2 1 rfl)
  have HS := Lib.hid hS2
  clear hS HB hS2 c0
  obtain ⟨c0, c1, -, -, c4, -, -⟩ := DcL.tail _ _ _ _ _ _ _ _ _ _ _ _ _ _ HS.out
  obtain ⟨E1, hE1⟩ : ∃ E1, s1.E = E1 := ⟨_, rfl⟩
  have HEQ := Lib.hid hE1
  rw [hE1] at HE HP K1 K2 K3
  clear hE1
  by_cases h1 : E1 = 0
  · subst h1
    by_cases hx : x = 1
    · subst hx
      have HK := Lib.hid (K3.out rfl rfl)
      clear K1 K2 K3
      have hp := HP.out rfl
      go_wp2_with fail
      refine HE.out.mono ?_; rintro e w3 ⟨rfl, rfl⟩
      clear HE
      obtain ⟨c, er, s4, hbt⟩ : ∃ c er s4, byt15 trees t.tb s1 = (c, er, s4) := ⟨_, _, _, rfl⟩
      have hlit : lit15 trees t.tb s1 o = if er ≠ 0 then (er, o, s4) else ((o.lit (UInt8.ofNat c)).1, (o.lit (UInt8.ofNat c)).2, s4) := by unfold lit15; rw [hbt]
      rw [hlit] at HK
      go_upto_region 7 with fail
      go_cut [5, 6] (fun v5 v6 wx => ∃ y : Int, v5 = .int .i64 y ∧ v6 = .int .i64 er ∧ (er = 0 → y = (c : Int) ∧ c < 256) ∧ St W wx (DcT trees q qr qo low least qb ql qd t s4 o))
      case first =>
        cases trees with
        | true =>
          obtain ⟨hF, h256⟩ := HT.out.1 rfl
          have hm : ∀ w, (method 268 56 (.pointer (some ⟨qb, 0, none⟩)) "Next").run Try.prog w = .ok (65, .pointer (some ⟨qb, 0, none⟩)) w := fun _ => by kernel_rfl
          have c4' : w2.cell? ⟨q, 4, none⟩ = some (.iface 56 (.pointer (some ⟨qb, 0, none⟩))) := c4
          have HB3 := Lib.hid (st_sf_next (HS.out.read ((Keep.refl [] w2).drew)) 1 3 (by decide) rfl rfl)
          have hb2 : c = (s1.nextS t.tb).1.toNat ∧ er = (s1.nextS t.tb).2.1 ∧ s4 = (s1.nextS t.tb).2.2 := by
            unfold byt15 at hbt; rw [if_pos rfl] at hbt; injection hbt with a b; injection b with b d; exact ⟨a.symm, b.symm, d.symm⟩
          have hco := fun h0 => nextS_cost t.tb s1 hF h0 hp
          generalize s1.nextS t.tb = N at HB3 hb2 hco
          obtain ⟨y, e2, s3⟩ := N
          obtain ⟨rfl, rfl, rfl⟩ := hb2
          have HCO : Hid (er = 0 → y = (y.toNat : Int) ∧ y.toNat < 256) := fun h0 => by
            obtain ⟨i, hi, hy, _⟩ := hco h0
            dsimp only at hy
            omega
          clear hco hbt c4 hF h256 hlit
          go_region_with (first | (go_at_call 65; (refine HB3.out.mono ?_); (rintro e w3 ⟨rfl, hS⟩)))
          all_goals
            go_wp2_with fail
            go_meet
            exact ⟨_, rfl, rfl, HCO.out, hS⟩
        | false =>
          have hm : ∀ w, (method 268 110 (.agg #[]) "Next").run Try.prog w = .ok (104, .agg #[]) w := fun _ => by kernel_rfl
          have c4' : w2.cell? ⟨q, 4, none⟩ = some (.iface 110 (.agg #[])) := c4
          have HB3 := Lib.hid (st_eight (HS.out.read ((Keep.refl [] w2).drew)) 1 rfl)
          have hb2 : c = (s1.bits 8).1 ∧ er = (s1.bits 8).2.E ∧ s4 = (s1.bits 8).2 := by
            unfold byt15 at hbt; rw [if_neg (by simp)] at hbt; injection hbt with a b; injection b with b d; exact ⟨a.symm, b.symm, d.symm⟩
          have hlt : (s1.bits 8).1 < 256 := bits_lt15 s1 8 (by decide)
          rw [← hb2.1, ← hb2.2.1, ← hb2.2.2] at HB3
          rw [← hb2.1] at hlt
          have HLT := Lib.hid hlt
          clear hb2 hbt c4 hlit hlt
          go_region_with (first | (go_at_call 104; (refine HB3.out.mono ?_); (rintro e w3 ⟨rfl, hS⟩)))
          all_goals
            go_wp2_with fail
            go_meet
            exact ⟨_, rfl, rfl, fun _ => ⟨rfl, HLT.out⟩, hS⟩
      case rest =>
      obtain ⟨y, rfl, rfl, hy, hS4⟩ := hcut
      clear hlit hbt c0 c1 c4
      have HS4 := Lib.hid hS4
      have HY := Lib.hid hy
      clear hS4 hy
      by_cases h2 : er = 0
      · subst h2
        obtain ⟨rfl, h256⟩ := HY.out rfl
        obtain ⟨-, c1, -, -, -, -, -⟩ := DcL.tail _ _ _ _ _ _ _ _ _ _ _ _ _ _ HS4.out
        have HR : Hid (R = ((o.lit (UInt8.ofNat c)).1, (o.lit (UInt8.ofNat c)).2, s4)) := by have := HK.out; rw [if_neg (by simp)] at this; exact this
        have HL := Lib.hid (st_hs_lit HS4.out 2 rfl (UInt8.ofNat c) (by have := HO.out; omega))
        have hc : (UInt8.ofNat c).toNat = c := by rw [UInt8.toNat_ofNat']; exact Nat.mod_eq_of_lt h256
        rw [hc] at HL
        have hw : IntKind.u8.wrap (c : Int) = (c : Int) := by rw [IntKind.wrap_u8]; omega
        clear HK HY hc
        go_wp2_with fail
        refine HL.out.mono ?_; rintro e w5 ⟨rfl, hS⟩
        have HS5 := Lib.hid hS
        clear HL hS
        go_wp2_with fail
        go_ret
        rw [HR.out]
        exact ⟨rfl, HS5.out.kp, fun _ => HS5.out⟩
      · have t1 : ((er : Int) != 0) = true := by simp; omega
        have HR : Hid (R = (er, o, s4)) := by have := HK.out; rw [if_pos h2] at this; exact this
        have H2 := Lib.hid h2
        clear h2 HK HY
        go_wp2_with fail
        go_ret
        rw [HR.out]
        exact ⟨rfl, HS4.out.kp, fun h => absurd h H2.out⟩
    · have t1 : ((x : Int) == 1) = false := by simp; omega
      have t1' : (x == 1) = false := by simp; omega
      have hp := HP.out rfl
      have HC := Lib.hid (ecopy_c trees q qr qo low least qb ql qd t.tb t.tl t.tf s1 o HS.out HLO.out HLE.out HT.out.2.1 HT.out.2.2 hp HO.out)
      have HR := Lib.hid (K2.out rfl hx)
      clear K1 K2 K3 hx hp
      go_wp2_with fail
      refine HE.out.mono ?_; rintro e w3 ⟨rfl, rfl⟩
      go_wp2_with fail
      refine HC.out.mono ?_; rintro e w4 ⟨rfl, hk, hS4⟩
      have HK4 := Lib.hid hk
      have HS4 := Lib.hid hS4
      clear HC hk hS4
      go_wp2_with fail
      go_ret
      rw [HR.out]
      exact ⟨rfl, HK4.out, HS4.out⟩
  · have t1 : ((E1 : Int) != 0) = true := by simp; omega
    have HR := Lib.hid (K1.out h1)
    have H1 := Lib.hid h1
    clear h1 K1 K2 K3
    go_wp2_with fail
    refine HE.out.mono ?_; rintro e w3 ⟨rfl, rfl⟩
    go_wp2_with fail
    go_ret
    rw [HR.out]
    exact ⟨rfl, HS.out.kp, fun h => absurd h H1.out⟩
end Go.Proofs.Ytjbjgcanbkpmdaa
namespace Go.Proofs.Ytjbjgcanbkpmdaa
set_option linter.unusedVariables false
set_option linter.unusedSimpArgs false
set_option maxRecDepth 100000
open Go.ChangeShapes Go.WideShapes Go.ChangeAt Go.RowKit

def DcO (q qr qo low least : Nat) (vb vl vd : Value) (s : RS) (o : HS) : List Ob := [Ob.box q (dcCells qr qo low least vb vl vd) 58, Ob.rd qr s, Ob.out qo o]
theorem opn15_eq (trees : Bool) (s : RS) (e0 : Nat) (tb : List Nat) (s0 : RS) (e1 : Nat) (tl : List Nat) (s1 : RS) (e2 : Nat) (tf : List Nat) (s2 : RS) (h0 : treB trees s = (e0, tb, s0)) (h1 : tre 64 s0 = (e1, tl, s1)) (h2 : tre 64 s1 = (e2, tf, s2)) :
    (e0 ≠ 0 → (opn15 trees s).e = e0) ∧ (e0 = 0 → e1 ≠ 0 → (opn15 trees s).e = e1) ∧ (e0 = 0 → e1 = 0 → opn15 trees s = ⟨e2, tb, tl, tf, s2⟩) := by
  unfold opn15
  rw [h0]
  dsimp only
  rw [h1]
  dsimp only
  rw [h2]
  refine ⟨fun h => by rw [if_pos h], fun h g => by rw [if_neg (by simpa using h), if_pos g], fun h g => by rw [if_neg (by simpa using h), if_neg (by simpa using g)]⟩
theorem tree_box {W w : World} {Ps : List Ob} {er : Nat} {p : Option Addr} {X : Ob} {Y : Nat → Ob} {q : Nat} {cs : Array Value} {ty : TypeId} (h0 : Ps[0]? = some (Ob.box q cs ty)) (h1 : er ≠ 0 → St W w (Ps.set 1 Ob.gone)) (h2 : er = 0 → ∃ d, p = some ⟨d, 0, none⟩ ∧ St W w (Ps.set 1 X ++ [Y d])) : Blk w q cs ty := by
  by_cases h : er = 0
  · obtain ⟨d, _, hS⟩ := h2 h
    refine hS.blk 0 ?_
    rw [List.getElem?_append_left (by rw [List.length_set]; rcases Nat.lt_or_ge 0 Ps.length with h | h; · exact h
                                      · rw [List.getElem?_eq_none h] at h0; cases h0), List.getElem?_set_ne (by decide)]; exact h0
  · refine (h1 h).blk 0 ?_
    rw [List.getElem?_set_ne (by decide)]; exact h0
/-- the field is set, whatever came of the tree -/
theorem tree_set {W w : World} {Ps : List Ob} {er : Nat} {p : Option Addr} {X : Ob} {Y : Nat → Ob} {q : Nat} {cs : Array Value} {ty : TypeId} (h0 : Ps[0]? = some (Ob.box q cs ty)) (h1 : er ≠ 0 → St W w (Ps.set 1 Ob.gone)) (h2 : er = 0 → ∃ d, p = some ⟨d, 0, none⟩ ∧ St W w (Ps.set 1 X ++ [Y d])) (j : Nat) (u : Value) :
    Keep [] W (w.setCell ⟨q, j, none⟩ u) ∧ (er = 0 → ∃ d, p = some ⟨d, 0, none⟩ ∧ St W (w.setCell ⟨q, j, none⟩ u) ((Ps.set 1 X ++ [Y d]).set 0 (Ob.box q (cs.setIfInBounds j u) ty))) := by
  by_cases h : er = 0
  · obtain ⟨d, e, hS⟩ := h2 h
    have hS2 := hS.setBox 0 (by
      rw [List.getElem?_append_left (by rw [List.length_set]; rcases Nat.lt_or_ge 0 Ps.length with h | h; · exact h
                                        · rw [List.getElem?_eq_none h] at h0; cases h0), List.getElem?_set_ne (by decide)]; exact h0) j u
    exact ⟨hS2.kp, fun _ => ⟨d, e, hS2⟩⟩
  · have hS := (h1 h).setBox 0 (by rw [List.getElem?_set_ne (by decide)]; exact h0) j u
    exact ⟨hS.kp, fun g => absurd g h⟩
set_option maxHeartbeats 4000000 in
theorem eopen_c {W w : World} (trees : Bool) (q qr qo low least : Nat) (vb vl vd : Value) (s : RS) (o : HS) (h : St W w (DcO q qr qo low least vb vl vd s o)) : Calls Try.prog 38 #[.pointer (some ⟨q, 0, none⟩), .bool trees] w fun e w' =>
    e = .returned (.int .i64 (opn15 trees s).e) ∧ Keep [] W w' ∧ ((opn15 trees s).e = 0 → ∃ qb ql qd, St W w' (DcT trees q qr qo low least qb ql qd (opn15 trees s) (opn15 trees s).s o)) := by
  obtain ⟨e0, tb, s0, h0⟩ : ∃ e0 tb s0, treB trees s = (e0, tb, s0) := ⟨_, _, _, rfl⟩
  obtain ⟨e1, tl, s1, h1⟩ : ∃ e1 tl s1, tre 64 s0 = (e1, tl, s1) := ⟨_, _, _, rfl⟩
  obtain ⟨e2, tf, s2, h2⟩ : ∃ e2 tf s2, tre 64 s1 = (e2, tf, s2) := ⟨_, _, _, rfl⟩
  obtain ⟨k1, k2, k3⟩ := opn15_eq trees s e0 tb s0 e1 tl s1 e2 tf s2 h0 h1 h2
  have K1 := Lib.hid k1; have K2 := Lib.hid k2; have K3 := Lib.hid k3
  have H0 := Lib.hid h0; have H1 := Lib.hid h1; have H2 := Lib.hid h2
  have hb := h.blk 0 rfl
  have g4 := hb.free 4
  obtain ⟨-, -, -, -, c4, -, -⟩ := dc_cells hb
  have HS := Lib.hid (h.setBox 0 rfl 4 (.iface 110 (.agg #[])))
  generalize opn15 trees s = R at K1 K2 K3 ⊢
  clear h k1 k2 k3 h0 h1 h2 hb
  cases trees with
  | false =>
    obtain ⟨rfl, rfl, rfl⟩ : e0 = 0 ∧ tb = [] ∧ s0 = s := by
      have := H0.out; unfold treB at this; rw [if_neg (by simp)] at this; injection this with a b; injection b with b c; exact ⟨a.symm, b.symm, c.symm⟩
    have HP : Hid (St W (w.setCell ⟨q, 4, none⟩ (.iface 110 (.agg #[]))) [Ob.box q (dcCells qr qo low least (vbyt false 0) vl vd) 58, Ob.rd qr s0, Ob.out qo o, Ob.byt false 0 []]) := HS.out.push Ob.gone [] rfl (Keep.refl _ _) (by simp)
    have HT1 := Lib.hid (st_tree HP.out 1 rfl 64)
    rw [H1.out] at HT1
    dsimp only at HT1
    obtain ⟨c0, -, -, -, -, -, -⟩ := dc_cells (HP.out.blk 0 rfl)
    clear HS
    go_enter Try.func38, Try.ntmps38
    go_wp2_with fail
    refine HT1.out.mono ?_; rintro e w2 ⟨p1, rfl, hs1, hs2⟩
    have hB := tree_box rfl hs1 hs2
    have g5 := hB.free 5
    obtain ⟨-, -, -, -, -, c5, -⟩ := dc_cells hB
    have HTS := Lib.hid (tree_set rfl hs1 hs2 5 (.pointer p1))
    clear HT1 hs1 hs2 hB HP c0
    by_cases h1 : e1 = 0
    · subst h1
      obtain ⟨ql, rfl, hS2⟩ := HTS.out.2 rfl
      have HP2 : Hid (St W (w2.setCell ⟨q, 5, none⟩ (.pointer (some ⟨ql, 0, none⟩))) [Ob.box q (dcCells qr qo low least (vbyt false 0) (.pointer (some ⟨ql, 0, none⟩)) vd) 58, Ob.rd qr s1, Ob.out qo o, Ob.byt false 0 [], Ob.dec6 ql tl]) := hS2
      have HT2 := Lib.hid (st_tree HP2.out 1 rfl 64)
      rw [H2.out] at HT2
      dsimp only at HT2
      obtain ⟨c0, -, -, -, -, -, -⟩ := dc_cells (HP2.out.blk 0 rfl)
      clear hS2 HTS
      go_wp2_with fail
      refine HT2.out.mono ?_; rintro e w3 ⟨p2, rfl, hs1, hs2⟩
      have hB := tree_box rfl hs1 hs2
      have g6 := hB.free 6
      obtain ⟨-, -, -, -, -, -, c6⟩ := dc_cells hB
      have HTS := Lib.hid (tree_set rfl hs1 hs2 6 (.pointer p2))
      clear HT2 hs1 hs2 hB HP2 c0 g5 c5
      have HR := Lib.hid (K3.out trivial trivial)
      clear K1 K2 K3
      go_wp2_with fail
      go_ret
      rw [HR.out]
      dsimp only
      refine ⟨rfl, HTS.out.1, fun h0 => ?_⟩
      obtain ⟨qd, rfl, hS⟩ := HTS.out.2 h0
      exact ⟨0, ql, qd, hS⟩
    · have t1 : ((e1 : Int) != 0) = true := by simp; omega
      have HR := Lib.hid (K2.out trivial h1)
      have HE := Lib.hid h1
      clear h1 K1 K2 K3
      go_wp2_with fail
      go_ret
      rw [HR.out]
      exact ⟨rfl, HTS.out.1, fun h => absurd h HE.out⟩
  | true =>
    have hT : tre 256 s = (e0, tb, s0) := by have := H0.out; unfold treB at this; rw [if_pos rfl] at this; exact this
    have HP : Hid (St W (w.setCell ⟨q, 4, none⟩ (.iface 110 (.agg #[]))) [Ob.box q (dcCells qr qo low least (.iface 110 (.agg #[])) vl vd) 58, Ob.rd qr s, Ob.out qo o]) := HS.out
    have HT0 := Lib.hid (st_tree HP.out 1 rfl 256)
    rw [hT] at HT0
    dsimp only at HT0
    obtain ⟨c0, -, -, -, -, -, -⟩ := dc_cells (HP.out.blk 0 rfl)
    clear HS hT
    go_enter Try.func38, Try.ntmps38
    go_wp2_with fail
    refine HT0.out.mono ?_; rintro e w1 ⟨p0, rfl, hs1, hs2⟩
    by_cases h0 : e0 = 0
    · obtain ⟨qb, rfl, hS1⟩ := hs2 h0
      subst h0
      have hB := hS1.blk 0 rfl
      have g4' := hB.free 4
      obtain ⟨-, -, -, -, c4', -, -⟩ := dc_cells hB
      have HP : Hid (St W (w1.setCell ⟨q, 4, none⟩ (.iface 56 (.pointer (some ⟨qb, 0, none⟩)))) [Ob.box q (dcCells qr qo low least (vbyt true qb) vl vd) 58, Ob.rd qr s0, Ob.out qo o, Ob.byt true qb tb]) := hS1.setBox 0 rfl 4 (.iface 56 (.pointer (some ⟨qb, 0, none⟩)))
      have HT1 := Lib.hid (st_tree HP.out 1 rfl 64)
      rw [H1.out] at HT1
      dsimp only at HT1
      obtain ⟨c0, -, -, -, -, -, -⟩ := dc_cells (HP.out.blk 0 rfl)
      clear HT0 hs1 hs2 hB hS1 g4 c4
      go_wp2_with fail
      refine HT1.out.mono ?_; rintro e w2 ⟨p1, rfl, hs1, hs2⟩
      have hB := tree_box rfl hs1 hs2
      have g5 := hB.free 5
      obtain ⟨-, -, -, -, -, c5, -⟩ := dc_cells hB
      have HTS := Lib.hid (tree_set rfl hs1 hs2 5 (.pointer p1))
      clear HT1 hs1 hs2 hB HP c0
      by_cases h1 : e1 = 0
      · subst h1
        obtain ⟨ql, rfl, hS2⟩ := HTS.out.2 rfl
        have HP2 : Hid (St W (w2.setCell ⟨q, 5, none⟩ (.pointer (some ⟨ql, 0, none⟩))) [Ob.box q (dcCells qr qo low least (vbyt true qb) (.pointer (some ⟨ql, 0, none⟩)) vd) 58, Ob.rd qr s1, Ob.out qo o, Ob.byt true qb tb, Ob.dec6 ql tl]) := hS2
        have HT2 := Lib.hid (st_tree HP2.out 1 rfl 64)
        rw [H2.out] at HT2
        dsimp only at HT2
        obtain ⟨c0, -, -, -, -, -, -⟩ := dc_cells (HP2.out.blk 0 rfl)
        clear hS2 HTS
        go_wp2_with fail
        refine HT2.out.mono ?_; rintro e w3 ⟨p2, rfl, hs1, hs2⟩
        have hB := tree_box rfl hs1 hs2
        have g6 := hB.free 6
        obtain ⟨-, -, -, -, -, -, c6⟩ := dc_cells hB
        have HTS := Lib.hid (tree_set rfl hs1 hs2 6 (.pointer p2))
        clear HT2 hs1 hs2 hB HP2 c0 g5 c5
        have HR := Lib.hid (K3.out trivial trivial)
        clear K1 K2 K3
        go_wp2_with fail
        go_ret
        rw [HR.out]
        dsimp only
        refine ⟨rfl, HTS.out.1, fun h0 => ?_⟩
        obtain ⟨qd, rfl, hS⟩ := HTS.out.2 h0
        exact ⟨qb, ql, qd, hS⟩
      · have t1 : ((e1 : Int) != 0) = true := by simp; omega
        have HR := Lib.hid (K2.out trivial h1)
        have HE := Lib.hid h1
        clear h1 K1 K2 K3
        go_wp2_with fail
        go_ret
        rw [HR.out]
        exact ⟨rfl, HTS.out.1, fun h => absurd h HE.out⟩
    · have t1 : ((e0 : Int) != 0) = true := by simp; omega
      have HK := Lib.hid (hs1 h0).kp
      have HR := Lib.hid (K1.out h0)
      have HE := Lib.hid h0
      clear h0 K1 K2 K3 hs1 hs2
      go_wp2_with fail
      go_ret
      rw [HR.out]
      exact ⟨rfl, HK.out, fun h => absurd h HE.out⟩
end Go.Proofs.Ytjbjgcanbkpmdaa
namespace Go.Proofs.Ytjbjgcanbkpmdaa
set_option linter.unusedVariables false
set_option linter.unusedSimpArgs false
set_option maxRecDepth 100000
open Go.ChangeShapes Go.WideShapes Go.ChangeAt Go.RowKit

set_option maxHeartbeats 4000000 in
theorem eall_c {W w : World} (large trees : Bool) (q qr qo : Nat) (vb vl vd : Value) (l : List UInt8) (size : Nat) (h : St W w (DcO q qr qo (low15 large) (least15 trees) vb vl vd ⟨l, 0, true, 0⟩ ⟨win15 large, size, true, []⟩)) (hl : l.length ≤ 100000) (hs : 0 < size) : Calls Try.prog 22 #[.pointer (some ⟨q, 0, none⟩), .bool trees] w fun e w' =>
    ∃ (n er : Nat), e = .returned (.tuple #[.int .i64 n, .int .i64 er]) ∧ Keep [] W w' ∧ (er ≠ 0 → n = 0 ∧ dec15 l large trees size = ([], 0, er)) ∧
      (er = 0 → ∃ qb ql qd t s o, St W w' (DcT trees q qr qo (low15 large) (least15 trees) qb ql qd t s o) ∧ o.b.length ≤ 1000000000 ∧ s.left ≤ 1000000 ∧ dec15 l large trees size = if 8 ≤ s.left then ([], 0, 5) else (o.b, n, 0)) := by
  have HOP := Lib.hid (eopen_c trees q qr qo (low15 large) (least15 trees) vb vl vd _ _ h)
  have hg := opn15_good trees ⟨l, 0, true, 0⟩
  have hd : dec15 l large trees size = if (opn15 trees ⟨l, 0, true, 0⟩).e ≠ 0 then ([], 0, (opn15 trees ⟨l, 0, true, 0⟩).e)
      else dec15L trees (low15 large) (least15 trees) (opn15 trees ⟨l, 0, true, 0⟩) (8 * l.length + 1) ⟨win15 large, size, true, []⟩ (opn15 trees ⟨l, 0, true, 0⟩).s 0 := by
    unfold dec15
    rw [if_neg (by omega), if_neg (by omega)]; rfl
  obtain ⟨D, hD⟩ : ∃ D, dec15 l large trees size = D := ⟨_, rfl⟩
  rw [hD] at hd ⊢
  generalize opn15 trees ⟨l, 0, true, 0⟩ = t at HOP hg hd
  have hlow : low15 large ≤ 7 := by unfold low15; split <;> decide
  have hleast : least15 trees ≤ 3 ∧ 1 ≤ least15 trees := by unfold least15; split <;> decide
  generalize low15 large = low at *
  generalize least15 trees = least at *
  generalize win15 large = win at *
  have HD := Lib.hid hd; have HG := Lib.hid hg; have HLO := Lib.hid hlow; have HLE := Lib.hid hleast; have HL := Lib.hid hl; have HSZ := Lib.hid hs
  clear hD hd hg h hlow hleast hl hs
  go_enter Try.func22, Try.ntmps22
  go_wp2_with fail
  refine HOP.out.mono ?_; rintro e w1 ⟨rfl, hk, hS⟩
  obtain ⟨e0, he0⟩ : ∃ e0, t.e = e0 := ⟨_, rfl⟩
  rw [he0] at hS HD HG ⊢
  by_cases h0 : e0 = 0
  · subst h0
    obtain ⟨qb, ql, qd, hS1⟩ := hS rfl
    obtain ⟨ht, htl, htp⟩ := HG.out rfl (Nat.zero_le _)
    have hdd := HD.out
    rw [if_neg (by simp)] at hdd
    have HDD := Lib.hid hdd.symm
    have HT := Lib.hid ht; have HTL := Lib.hid htl; have HTP := Lib.hid htp
    have HS1 := Lib.hid hS1
    clear hS hk HD HG hdd he0 ht htl htp hS1 HOP
    go_wp2_with fail
    go_loopg [7] (8 * l.length + 1) (fun g v7 wr => ∃ (n : Nat) (s : RS) (o : HS), v7 = .int .i64 n ∧ Hid (St W wr (DcT trees q qr qo low least qb ql qd t s o)) ∧ s.l = l ∧ s.pos ≤ 8 * l.length ∧ 8 * l.length + 1 ≤ s.pos + g ∧ o.most = size ∧ o.b.length ≤ size ∧ 2 * n ≤ s.pos ∧ o.b.length ≤ 321 * n ∧ Hid (dec15L trees low least t g o s n = D))
    case atStart => exact ⟨0, t.s, _, rfl, HS1, HTL.out, HTP.out, by omega, rfl, Nat.zero_le _, Nat.zero_le _, Nat.zero_le _, HDD⟩
    case round =>
      obtain ⟨n, s, o, rfl, HS, hsl, hp, hgk, hm, hos, h2n, hon, hrun⟩ := hrel
      obtain ⟨f, rfl⟩ : ∃ f, gk = f + 1 := ⟨gk - 1, by omega⟩
      have hrun2 := hrun.out
      rw [dec15L] at hrun2
      obtain ⟨-, c1, -, -, -, -, -⟩ := DcL.tail _ _ _ _ _ _ _ _ _ _ _ _ _ _ HS.out
      have HFU := Lib.hid (st_hs_full HS.out 2 rfl)
      have hll := HL.out
      by_cases hx : o.b.length = o.most
      · rw [if_pos (by omega)] at hrun2
        have hdec : decide (o.b.length = o.most) = true := by simpa using hx
        rw [hdec] at HFU
        have hleft : s.left ≤ 1000000 := by
          have : s.left ≤ 8 * s.l.length := by unfold RS.left; split <;> omega
          rw [hsl] at this; omega
        have HLF := Lib.hid hleft
        have HOB : Hid (o.b.length ≤ 1000000000) := by unfold Hid; omega
        have HRUN := Lib.hid hrun2
        clear hdec hrun2 hrun hx hleft hsl hp hgk hm hos h2n hon hll
        go_wp2_with fail
        refine HFU.out.mono ?_; rintro e w6 ⟨rfl, n6, rfl⟩
        have HS6 := Lib.hid (HS.out.read ((Keep.refl [] wr).drewN n6))
        clear HFU c1
        generalize wr.drewN n6 = w6 at *
        go_wp2_with fail
        go_ret2
        exact ⟨n, 0, rfl, HS6.out.kp, fun h => absurd rfl h, fun _ => ⟨qb, ql, qd, t, s, o, HS6.out, HOB.out, HLF.out, HRUN.out.symm⟩⟩
      · rw [if_neg (by omega)] at hrun2
        have hdec : decide (o.b.length = o.most) = false := by simpa using hx
        rw [hdec] at HFU
        have hcost := step15_cost trees low least t s o (by have := HLO.out; omega) HLE.out.2 HT.out
        rw [hsl] at hcost
        have HSL := Lib.hid hsl; have HX := Lib.hid hx; have HRUN := Lib.hid hrun2; have HCO := Lib.hid hcost
        have HLB : Hid (o.b.length ≤ 1000000000000) := by unfold Hid; omega
        have HNU : Hid (s.pos ≤ 8 * l.length ∧ 8 * l.length + 1 ≤ s.pos + (f + 1) ∧ o.most = size ∧ o.b.length ≤ size ∧ 2 * n ≤ s.pos ∧ o.b.length ≤ 321 * n) := ⟨hp, hgk, hm, hos, h2n, hon⟩
        have hn : n ≤ 1000000 := by omega
        have hwr : IntKind.i64.wrap ((n : Int) + 1) = ((n + 1 : Nat) : Int) := by rw [IntKind.wrap_i64]; omega
        obtain ⟨n1, hn1⟩ : ∃ n1, n + 1 = n1 := ⟨_, rfl⟩
        rw [hn1] at hwr HRUN
        have HN1 := Lib.hid hn1
        clear hdec hrun2 hrun hx hcost hsl hp hgk hm hos h2n hon hll hn hn1
        go_wp2_with fail
        refine HFU.out.mono ?_; rintro e w6 ⟨rfl, n6, rfl⟩
        have HST := Lib.hid (enext_c trees q qr qo low least qb ql qd t s o (HS.out.read ((Keep.refl [] wr).drewN n6)) HLO.out HLE.out.1 HT.out (by rw [HSL.out]; exact HNU.out.1) HLB.out)
        clear HFU c1
        generalize wr.drewN n6 = w6 at *
        obtain ⟨er, her⟩ : ∃ er, (step15 trees low least t s o).1 = er := ⟨_, rfl⟩
        rw [her] at HST HRUN HCO
        clear her
        go_wp2_with fail
        refine HST.out.mono ?_; rintro e w7 ⟨rfl, hk, hS⟩
        have HK7 := Lib.hid hk; have HS7 := Lib.hid hS
        clear HST hk hS
        by_cases h0 : er = 0
        · subst h0
          go_wp2_with fail
          go_roundg f
          case rel =>
            obtain ⟨a1, a2, a3, a4, a5, a6, a7⟩ := HCO.out trivial HNU.out.1 (by have := HNU.out; omega)
            obtain ⟨b1, b2, b3, b4, b5, b6⟩ := HNU.out
            have b7 := HN1.out
            have b8 := HLE.out.1
            refine ⟨n1, _, _, rfl, HS7.out trivial, a5, a7, by omega, by omega, by omega, by omega, by omega, ?_⟩
            have := HRUN.out; rw [if_neg (by simp)] at this; exact this
          case measure => omega
        · have t1 : ((er : Int) != 0) = true := by simp; omega
          have HD1 : Hid (D = ([], 0, er)) := by have := HRUN.out; rw [if_pos h0] at this; exact this.symm
          have HH := Lib.hid h0
          clear h0
          go_wp2_with fail
          go_ret2
          exact ⟨0, er, rfl, HK7.out, fun _ => ⟨rfl, HD1.out⟩, fun h => absurd h HH.out⟩
  · have t1 : ((e0 : Int) != 0) = true := by simp; omega
    have HK := Lib.hid hk
    have HD1 : Hid (D = ([], 0, e0)) := by have := HD.out; rw [if_pos h0] at this; exact this
    have HH := Lib.hid h0
    clear h0 hS hk
    go_wp2_with fail
    go_ret2
    exact ⟨0, e0, rfl, HK.out, fun _ => ⟨rfl, HD1.out⟩, fun h => absurd h HH.out⟩
end Go.Proofs.Ytjbjgcanbkpmdaa
namespace Go.Proofs.Ytjbjgcanbkpmdaa
set_option linter.unusedVariables false
set_option linter.unusedSimpArgs false
set_option maxRecDepth 100000
open Go.ChangeShapes Go.WideShapes Go.ChangeAt Go.RowKit

theorem win15_good (large : Bool) (size : Int) (h : ¬ size < 0) : ¬ hsBad (win15 large) size := by
  unfold hsBad win15; cases large <;> simp <;> omega
set_option maxHeartbeats 4000000 in
theorem exp_decode (w : World) (v : Value) (b : List UInt8) (large trees : Bool) (size : Int) (hb : Bs w v b) (hl : b.length ≤ 100000) (hs : (Lit.int .i64 size).wf = true) : Calls Try.prog 9 #[v, .bool large, .bool trees, .int .i64 size] w fun e w' => ∃ v', e = .returned (.tuple #[v', .int .i64 (dec15 b large trees size).2.1, .int .i64 (dec15 b large trees size).2.2]) ∧ Bs w' v' (dec15 b large trees size).1 ∧ Keep [] w w' := by
  have hz2 : -9223372036854775808 ≤ size ∧ size ≤ 9223372036854775807 := by
    simpa [Lit.wf, IntKind.min, IntKind.max, IntKind.bits, IntKind.signed] using hs
  have HPA := Lib.hid (exp_params w large trees)
  have HB := Lib.hid hb; have HL := Lib.hid hl
  clear hs hb hl
  by_cases h0 : size < 0
  · have hD : dec15 b large trees size = ([], 0, 2) := by unfold dec15; rw [if_pos h0]
    have HN := Lib.hid (fun w1 => hs_new w1 (win15 large) size true hz2.2 hz2.1)
    have hbad : hsBad (win15 large) size := by unfold hsBad; omega
    have HBAD := Lib.hid hbad
    rw [hD]
    clear hbad h0 hz2 hD
    go_enter Try.func9, Try.ntmps9
    go_wp2_with fail
    refine HPA.out.mono ?_; rintro e w1 ⟨rfl, k1⟩
    go_wp2_with fail
    refine (HN.out w1).mono ?_; rintro e w2 ⟨p, er, rfl, k2, h2, -⟩
    obtain ⟨rfl, rfl⟩ := h2 HBAD.out
    have HK := Lib.hid (k1.trans k2 (by simp))
    clear HN HPA k1 k2 h2
    go_wp2_with fail
    go_ret3
    exact ⟨_, rfl, Bs.nil _, HK.out⟩
  · have HN := Lib.hid (fun w1 (k : Keep [] w w1) => st_hs_new (show St w w1 [] from (St.nil w).read k) (win15 large) size true hz2.2 hz2.1 (win15_good large size h0))
    obtain ⟨size, rfl⟩ : ∃ z : Nat, size = z := ⟨size.toNat, by omega⟩
    have hwin : ((win15 large : Nat) : Int).toNat = win15 large := rfl
    have hsz : ((size : Nat) : Int).toNat = size := rfl
    rw [hwin, hsz] at HN
    clear h0 hwin hsz
    obtain ⟨D, hD⟩ : ∃ D, dec15 b large trees size = D := ⟨_, rfl⟩
    have HD := Lib.hid hD
    rw [hD]
    clear hD
    go_enter Try.func9, Try.ntmps9
    go_wp2_with fail
    refine HPA.out.mono ?_; rintro e w1 ⟨rfl, k1⟩
    go_wp2_with fail
    refine (HN.out w1 k1).mono ?_; rintro e w2 ⟨qo, rfl, hS, -⟩
    have HOP := Lib.hid (st_open hS v b (by have := HL.out; omega) (HB.out.keep hS.kp (by simp)))
    clear HN HPA k1 hS
    go_wp2_with fail
    refine HOP.out.mono ?_; rintro e w3 ⟨qr, rfl, hS, -⟩
    have HS := Lib.hid hS
    clear HOP hS
    have HS4 : Hid (St w (w3.alloc (.cells #[.pointer (some ⟨qr, 0, none⟩), .pointer (some ⟨qo, 0, none⟩), .int .i64 (low15 large), .int .i64 (least15 trees), .nilIface, .pointer none, .pointer none] 58)) (DcO w3.heap.size qr qo (low15 large) (least15 trees) .nilIface (.pointer none) (.pointer none) ⟨b, 0, true, 0⟩ ⟨win15 large, size, true, []⟩)) :=
      (HS.out.pushBox (dcCells qr qo (low15 large) (least15 trees) .nilIface (.pointer none) (.pointer none)) 58).sub _ (fun j => [2, 1, 0].getD j 0) (fun j => [2, 1, 0].getD j 0) (fun j hj => by
        rcases j with _ | _ | _ | j
        · exact ⟨rfl, rfl⟩
        · exact ⟨rfl, rfl⟩
        · exact ⟨rfl, rfl⟩
        · simp [DcO] at hj; omega)
    clear HS HB
    obtain ⟨w4, hw4⟩ : ∃ w4, w3.alloc (.cells #[.pointer (some ⟨qr, 0, none⟩), .pointer (some ⟨qo, 0, none⟩), .int .i64 (low15 large), .int .i64 (least15 trees), .nilIface, .pointer none, .pointer none] 58) = w4 := ⟨_, rfl⟩
    obtain ⟨q, hq⟩ : ∃ q, w3.heap.size = q := ⟨_, rfl⟩
    rw [hw4, hq] at HS4
    by_cases h0 : size = 0
    · subst h0
      have hd := HD.out
      unfold dec15 at hd
      rw [if_neg (by simp), if_pos (by rfl)] at hd
      obtain ⟨lf, hlf⟩ : ∃ lf, 8 * b.length = lf := ⟨_, rfl⟩
      have HDD : Hid (D = if 8 ≤ lf then ([], 0, 5) else ([], 0, 0)) := by
        unfold Hid
        rw [← hd]
        by_cases hb : b.length = 0
        · rw [if_pos hb, if_neg (by omega)]
        · rw [if_neg hb, if_pos (by omega)]
      have HLEFT : Hid ((⟨b, 0, true, 0⟩ : RS).left = lf) := hlf
      have HLFB : Hid (lf ≤ 1000000) := by have := HL.out; unfold Hid; omega
      have HOBL : Hid ((⟨win15 large, 0, true, []⟩ : HS).b.length ≤ 140737488350000) := by unfold Hid; simp
      have HX := HS4
      obtain ⟨c0, -, -, -, -, -, -⟩ := dc_cells (HS4.out.blk 0 rfl)
      clear hd hlf HD HS4
      have HLF := Lib.hid (st_left HX.out 1 rfl)
      have HBY : Hid (∀ u : World, Keep [] w4 u → Calls Try.prog 24 #[.pointer (some ⟨qo, 0, none⟩)] u fun e w' => ∃ v, e = .returned v ∧ OwnB w' v [] ∧ Keep [] u w' ∧ ∀ b, v.ownBlock = some b → u.heap.size ≤ b) := fun u k => st_hs_bytes (HX.out.read k) 2 rfl HOBL.out
      rw [HLEFT.out] at HLF
      clear HLEFT HOBL
      have hlb := HLFB.out
      by_cases h8 : 8 ≤ lf
      · have HD2 : Hid (D = ([], 0, 5)) := by have := HDD.out; rw [if_pos h8] at this; exact this
        clear HDD HBY
        go_wp2_with fail
        refine HLF.out.mono ?_; rintro e w5 ⟨rfl, n5, rfl⟩
        have HK := Lib.hid (HX.out.read ((Keep.refl [] w4).drewN n5)).kp
        clear HLF c0
        generalize w4.drewN n5 = w5 at *
        go_wp2_with fail
        go_ret3
        rw [HD2.out]
        exact ⟨_, rfl, Bs.nil _, HK.out⟩
      · have h8' : lf < 8 := by omega
        have HD2 : Hid (D = ([], 0, 0)) := by have := HDD.out; rw [if_neg h8] at this; exact this
        clear HDD h8
        go_wp2_with fail
        refine HLF.out.mono ?_; rintro e w5 ⟨rfl, n5, rfl⟩
        have HK := Lib.hid (HX.out.read ((Keep.refl [] w4).drewN n5)).kp
        have HB5 := Lib.hid (HBY.out _ ((Keep.refl [] w4).drewN n5))
        clear HLF c0 HBY
        generalize w4.drewN n5 = w5 at *
        go_wp2_with fail
        refine HB5.out.mono ?_; rintro e w6 ⟨v6, rfl, hb6, k6, -⟩
        have HB6 := Lib.hid hb6.bs; have HK6 := Lib.hid (HK.out.trans k6 (by simp))
        clear HB5 hb6 k6 HK
        go_wp2_with fail
        go_ret3
        rw [HD2.out]
        exact ⟨_, rfl, HB6.out, HK6.out⟩
    · have HAL := Lib.hid (eall_c large trees q qr qo .nilIface (.pointer none) (.pointer none) b size HS4.out HL.out (by omega))
      rw [HD.out] at HAL
      have h0' : 0 < size := by omega
      clear HD HS4 h0
      go_wp2_with fail
      refine HAL.out.mono ?_; rintro e w5 ⟨n, er, rfl, hk, h1, h2⟩
      by_cases h0 : er = 0
      · subst h0
        obtain ⟨qb, ql, qd, t, s, o, hS, hob, hleft, hdd⟩ := h2 rfl
        obtain ⟨lf, hlf⟩ : ∃ lf, s.left = lf := ⟨_, rfl⟩
        rw [hlf] at hleft hdd
        obtain ⟨c0, -, -, -, -, -, -⟩ := DcL.tail _ _ _ _ _ _ _ _ _ _ _ _ _ _ hS
        have HX := Lib.hid hS; have HLEFT := Lib.hid hlf; have HLFB := Lib.hid hleft; have HDD := Lib.hid hdd
        have HOBL : Hid (o.b.length ≤ 140737488350000) := by unfold Hid; omega
        clear hS hlf hleft hdd hob h1 h2 hk HAL hw4 hq
        have HLF := Lib.hid (st_left HX.out 1 rfl)
        have HBY : Hid (∀ u : World, Keep [] w5 u → Calls Try.prog 24 #[.pointer (some ⟨qo, 0, none⟩)] u fun e w' => ∃ v, e = .returned v ∧ OwnB w' v o.b ∧ Keep [] u w' ∧ ∀ b, v.ownBlock = some b → u.heap.size ≤ b) := fun u k => st_hs_bytes (HX.out.read k) 2 rfl HOBL.out
        rw [HLEFT.out] at HLF
        clear HLEFT HOBL
        have hlb := HLFB.out
        by_cases h8 : 8 ≤ lf
        · have HD2 : Hid (D = ([], 0, 5)) := by have := HDD.out; rw [if_pos h8] at this; exact this
          clear HDD HBY
          go_wp2_with fail
          refine HLF.out.mono ?_; rintro e w7 ⟨rfl, n5, rfl⟩
          have HK := Lib.hid (HX.out.read ((Keep.refl [] w5).drewN n5)).kp
          clear HLF c0
          generalize w5.drewN n5 = w7 at *
          go_wp2_with fail
          go_ret3
          rw [HD2.out]
          exact ⟨_, rfl, Bs.nil _, HK.out⟩
        · have h8' : lf < 8 := by omega
          have HD2 : Hid (D = (o.b, n, 0)) := by have := HDD.out; rw [if_neg h8] at this; exact this
          clear HDD h8
          go_wp2_with fail
          refine HLF.out.mono ?_; rintro e w7 ⟨rfl, n5, rfl⟩
          have HK := Lib.hid (HX.out.read ((Keep.refl [] w5).drewN n5)).kp
          have HB5 := Lib.hid (HBY.out _ ((Keep.refl [] w5).drewN n5))
          clear HLF c0 HBY
          generalize w5.drewN n5 = w7 at *
          go_wp2_with fail
          refine HB5.out.mono ?_; rintro e w6 ⟨v6, rfl, hb6, k6, -⟩
          have HB6 := Lib.hid hb6.bs; have HK6 := Lib.hid (HK.out.trans k6 (by simp))
          clear HB5 hb6 k6 HK
          go_wp2_with fail
          go_ret3
          rw [HD2.out]
          exact ⟨_, rfl, HB6.out, HK6.out⟩
      · have t1 : ((er : Int) != 0) = true := by simp; omega
        have t2 : ((er : Int) == 0) = false := by simp; omega
        obtain ⟨rfl, hdd⟩ := h1 h0
        have HK := Lib.hid hk
        have HDD := Lib.hid hdd
        clear h1 h2 hk h0 HAL hdd
        go_wp2_with fail
        go_ret3
        rw [HDD.out]
        exact ⟨_, rfl, Bs.nil _, HK.out⟩
end Go.Proofs.Ytjbjgcanbkpmdaa
namespace Go.Proofs.Ytjbjgcanbkpmdaa
set_option linter.unusedVariables false
set_option linter.unusedSimpArgs false
set_option maxRecDepth 100000
open Go.ChangeShapes Go.WideShapes Go.ChangeAt Go.RowKit

theorem schk_flat64 : schk (List.replicate 64 6) = 0 := by decide +kernel
theorem schk_flat256 : schk (List.replicate 256 8) = 0 := by decide +kernel
theorem shl15 (z : Nat) (hz : z ≤ 15) : ((2 : Int) ^ z = ((2 ^ z : Nat) : Int)) ∧ 2 ^ z ≤ 32768 := ⟨by simp, Nat.pow_le_pow_right (n := 2) (j := 15) (by decide) hz⟩
theorem flat_step (n k : Nat) (x : Int) (hk : k < n) : (List.replicate k x ++ List.replicate (n - k) 0).set k x = List.replicate (k + 1) x ++ List.replicate (n - (k + 1)) 0 := by
  rw [List.set_append_right _ _ (by simp)]
  obtain ⟨m, hm⟩ : ∃ m, n - k = m + 1 := ⟨n - k - 1, by omega⟩
  rw [hm, List.length_replicate, Nat.sub_self, List.replicate_succ, List.set_cons_zero, show n - (k + 1) = m by omega, List.replicate_succ' (n := k)]
  simp
set_option maxHeartbeats 2000000 in
theorem flat15_c (w : World) (n : Nat) (x : Int) (hn : n ≤ 1000) (hx : (Lit.int .i64 x).wf = true) : Calls Try.prog 30 #[.int .i64 n, .int .i64 x] w fun e w' => ∃ v', e = .returned v' ∧ Is .i64 w' v' (List.replicate n x) ∧ Keep [] w w' := by
  have HM := run_make_intsC w n n (Nat.le_refl _) (by omega)
  have hO := OwnI.made w n (by omega)
  have hK := (Keep.refl [] w).alloc (.cells (madeCells #[.int .i64 0] n) 3)
  obtain ⟨g, hg⟩ : ∃ g, w.heap.size = g := ⟨_, rfl⟩
  have hgl : w.heap.size ≤ g := by omega
  rw [hg] at HM hO
  generalize w.alloc (.cells (madeCells #[.int .i64 0] n) 3) = w1 at HM hO hK
  have HO := Lib.hid hO
  have HK := Lib.hid hK
  have HX := Lib.hid hx
  have HG := Lib.hid hgl
  clear hx hO hK hg hgl
  go_enter Try.func30, Try.ntmps30
  go_wp2_with fail
  clear HM
  go_loopw [6] (fun iv wr => ∃ k : Nat, k ≤ n ∧ iv = .int .i64 k ∧ Hid (OwnI wr (.slice (some ⟨g, 0, none⟩) n n) (List.replicate k x ++ List.replicate (n - k) 0)) ∧ Keep [] w wr) (fun iv _ => n - (intOf iv).toNat)
  case atStart => exact ⟨0, Nat.zero_le _, rfl, by have := HO.out; simpa [Hid] using this, HK.out⟩
  case round =>
    obtain ⟨k, hk, rfl, HW, hKK⟩ := hrel
    by_cases hlt : k < n
    · have hlt2 : (k : Int) < (n : Int) := by omega
      have hcell := HW.out.cell k (by simp; omega)
      have hfree := HW.out.free k
      have hst := Lib.hid (HW.out.store k x HX.out)
      generalize zn (List.replicate k x ++ List.replicate (n - k) 0) k = z at hcell
      go_wp2_with fail
      go_roundw
      case rel => exact ⟨k + 1, by omega, by first | rfl | simp, by have := hst.out; rw [flat_step n k x hlt] at this; exact this, hKK.setCell (.inr HG.out) _⟩
      case measure => simp [intOf]; omega
    · obtain rfl : k = n := by omega
      have hlt2 : ¬ (k : Int) < (k : Int) := by omega
      have hf : Is .i64 wr (.slice (some ⟨g, 0, none⟩) k k) (List.replicate k x) := by
        have := HW.out.is
        rw [Nat.sub_self] at this
        simpa using this
      have HF := Lib.hid hf
      clear hf HW
      go_wp2_with fail
      go_ret
      exact ⟨_, rfl, HF.out, hKK⟩
set_option maxHeartbeats 4000000 in
theorem full15_c (w : World) (v : Value) (zs : List Int) (n : Nat) (x : Int) (h : Is .i64 w v zs) (hn : 0 < n ∧ n ≤ 256) (hx : (Lit.int .i64 x).wf = true) (hflat : schk (List.replicate n x) = 0) : Calls Try.prog 15 #[v, .int .i64 n, .int .i64 x] w fun e w' => ∃ v' zs', e = .returned v' ∧ Is .i64 w' v' zs' ∧ Keep [] w w' ∧ schk zs' = 0 ∧ zs'.length = n := by
  have HFL := Lib.hid (fun ww => flat15_c ww n x (by omega) hx)
  have HIS := Lib.hid h
  have HFC := Lib.hid hflat
  obtain ⟨a, c, rfl, hl⟩ := h.sh
  have hn1 := hn.1
  have hn2 := hn.2
  clear h hx hflat hn
  by_cases hlen : zs.length = n
  · subst hlen
    go_enter Try.func15, Try.ntmps15
    go_wp2_with fail
    go_loopw [7, 8] (fun wv iv wr => ∃ (k s : Nat), k ≤ zs.length ∧ iv = .int .i64 k ∧ wv = .int .i64 s ∧ s ≤ 32768 * k ∧ Hid (s = sm (wd16 (Ln zs)) k) ∧ Hid (∀ i, i < k → 1 ≤ zn zs i ∧ zn zs i ≤ 16) ∧ ∃ m, wr = w.drewN m) (fun _ iv _ => zs.length - (intOf iv).toNat)
    case atStart => exact ⟨0, 0, Nat.zero_le _, rfl, rfl, by omega, rfl, fun i hi => by omega, 0, rfl⟩
    case round =>
      obtain ⟨k, s, hk, rfl, rfl, hs, HSM, HALL, m, rfl⟩ := hrel
      have KD : Keep [] w (w.drewN m) := (Keep.refl [] w).drewN m
      by_cases hlt : k < zs.length
      · have hlt2 : (k : Int) < (zs.length : Int) := by omega
        obtain ⟨b, off, cap', hv, e1⟩ := (HIS.out.keep KD (by simp)).at k hlt
        simp only [Value.slice.injEq] at hv
        obtain ⟨rfl, h2, rfl⟩ := hv
        clear h2
        have hzk := zn_get zs k hlt
        rw [← hzk] at e1
        obtain ⟨z, hz⟩ : ∃ z, zn zs k = z := ⟨_, rfl⟩
        rw [hz] at e1
        have HZK : Hid (len (Ln zs) k = z.toNat) := by
          unfold Hid
          rw [← hz, hzk, len_get _ _ (by rw [Ln_length]; exact hlt)]
          simp [Ln]
        have HALL2 : Hid (1 ≤ z ∧ z ≤ 16 → ∀ i, i < k + 1 → 1 ≤ zn zs i ∧ zn zs i ≤ 16) := fun hb i hi => by
          by_cases e : i = k
          · subst e; rw [hz]; exact hb
          · exact HALL.out i (by omega)
        clear hzk hz
        by_cases hb : 1 ≤ z ∧ z ≤ 16
        · have r1 : decide (z < 1) = false := by simp; omega
          have r2 : decide (16 < z) = false := by simp; omega
          obtain ⟨y, hy⟩ : ∃ y : Nat, (16 - z) = (y : Int) := ⟨(16 - z).toNat, by omega⟩
          have hy15 : y ≤ 15 := by omega
          obtain ⟨p1, p2⟩ := shl15 y hy15
          have hS : Hid (s + 2 ^ y = sm (wd16 (Ln zs)) (k + 1)) := by
            unfold Hid
            rw [sm, HSM.out]
            show _ = sm (wd16 (Ln zs)) k + 2 ^ (16 - len (Ln zs) k)
            rw [HZK.out]
            congr 2; omega
          obtain ⟨p, hp0⟩ : ∃ p, 2 ^ y = p := ⟨_, rfl⟩
          rw [hp0] at p1 p2 hS
          have hq : IntKind.i64.wrap ((2 : Int) ^ y) = (p : Int) := by rw [p1, IntKind.wrap_i64]; omega
          have hws : IntKind.i64.wrap (16 - z) = (y : Int) := by rw [hy, IntKind.wrap_i64]; omega
          have HALL3 := Lib.hid (HALL2.out hb)
          obtain ⟨hb1, hb2⟩ := hb
          clear p1 hp0 HALL HALL2 HSM HZK hy
          go_wp2_with fail
          go_roundw
          case rel => exact ⟨k + 1, s + p, by omega, by go_num, by go_num, by omega, hS, HALL3.out, _, rfl⟩
          case measure => simp [intOf]; omega
        · by_cases hb1 : z < 1
          · have r1 : decide (z < 1) = true := by simpa using hb1
            clear HALL2 hb HALL HSM HZK
            go_wp2_with fail
            refine (HFL.out _).mono ?_; rintro e w1 ⟨v1, rfl, hI, hk⟩
            go_wp2_with fail
            go_ret
            exact ⟨v1, _, rfl, hI, by first | exact (KD.drewN _).trans hk (by simp) | exact KD.trans hk (by simp), HFC.out, by simp⟩
          · have r1 : decide (z < 1) = false := by simpa using hb1
            have r2 : decide (16 < z) = true := by simp; omega
            clear HALL2 hb HALL HSM HZK
            go_wp2_with fail
            refine (HFL.out _).mono ?_; rintro e w1 ⟨v1, rfl, hI, hk⟩
            go_wp2_with fail
            go_ret
            exact ⟨v1, _, rfl, hI, by first | exact (KD.drewN _).trans hk (by simp) | exact KD.trans hk (by simp), HFC.out, by simp⟩
      · obtain rfl : k = zs.length := by omega
        have hlt2 : ¬ (zs.length : Int) < (zs.length : Int) := by omega
        by_cases hw : s = 65536
        · have r1 : ((s : Int) != 65536) = false := by rw [hw]; rfl
          have hsc : schk zs = 0 := by
            have hm : mayS zs = true := (mayS_iff zs).2 ⟨hn1, hn2, fun z hz => by
              obtain ⟨i, hi, rfl⟩ := List.getElem_of_mem hz
              rw [← zn_get zs i hi]; exact HALL.out i hi⟩
            unfold schk tot16
            rw [if_neg (by rw [hm]; simp), Ln_length, ← HSM.out, if_pos hw]
          have HSC := Lib.hid hsc
          clear hsc HALL HSM hw
          go_wp2_with fail
          go_ret
          first | exact ⟨_, zs, rfl, HIS.out.keep KD (by simp), KD, HSC.out, rfl⟩ | exact ⟨_, rfl, zs, HIS.out.keep KD (by simp), KD, HSC.out, rfl⟩
        · have r1 : ((s : Int) != 65536) = true := by simp; omega
          clear HALL HSM hw
          go_wp2_with fail
          refine (HFL.out _).mono ?_; rintro e w1 ⟨v1, rfl, hI, hk⟩
          go_wp2_with fail
          go_ret
          exact ⟨v1, _, rfl, hI, KD.trans hk (by simp), HFC.out, by simp⟩
  · have hne : ((zs.length : Int) != (n : Int)) = true := by simp; omega
    clear hlen
    go_enter Try.func15, Try.ntmps15
    go_wp2_with fail
    refine (HFL.out w).mono ?_; rintro e w1 ⟨v1, rfl, hI, hk⟩
    go_wp2_with fail
    go_ret
    exact ⟨v1, _, rfl, hI, hk, HFC.out, by simp⟩
theorem wr15_len (trees : Bool) (low least : Nat) (zb zl zf : List Int) (hlow : low ≤ 7) (hb : trees = true → schk zb = 0 ∧ zb.length = 256) (hl : schk zl = 0 ∧ zl.length = 64) (hf : schk zf = 0 ∧ zf.length = 64) (ts : List Tk) (hn : ts.length ≤ 1000) : (wr15 trees low least (Ln zb) (Ln zl) (Ln zf) ts).length ≤ 100000 ∧ 0 < (wr15 trees low least (Ln zb) (Ln zl) (Ln zf) ts).length := by
  have h1 := hd15_len trees zb zl zf hb hl hf
  have h2 := tkb15_len trees low least (Ln zb) (Ln zl) (Ln zf) hlow (fun e i => len16 (hb e).1 i) (fun i => len16 hl.1 i) (fun i => len16 hf.1 i)
  have h4 : 0 < (hd15 trees (Ln zb) (Ln zl) (Ln zf)).length := by
    unfold hd15
    rw [List.length_append, List.length_append, b8_length, b8_length]
    have : (packL (Ln zf)).length = (pk 1 (Ln zf)).length + 1 := rfl
    omega
  unfold wr15 wb15 ofBits
  rw [List.length_map, List.length_range]
  generalize tkb15 trees low least (Ln zb) (Ln zl) (Ln zf) = TK at h2 ⊢
  have h3 : ∀ l : List Tk, (l.flatMap TK).length ≤ 64 * l.length := by
    intro l
    induction l with
    | nil => simp
    | cons t l ih => rw [List.flatMap_cons, List.length_append, List.length_cons]; have := h2 t; omega
  have := h3 ts
  rw [List.length_append]
  omega
def toks15 : List Tk := [⟨7, 0, 0⟩, ⟨0, 1, 2⟩]
theorem toks15_ok : ∀ t ∈ toks15, tkOk15 (low15 false) (least15 false) t := by
  intro t ht
  simp only [toks15, List.mem_cons, List.not_mem_nil, or_false] at ht
  rcases ht with rfl | rfl
  · exact .inl ⟨rfl, rfl⟩
  · exact .inr (by show ((2 : Nat) : Int) ≤ 2 ∧ (2 : Int) ≤ (2 : Nat) + 318 ∧ (1 : Int) ≤ 1 ∧ (1 : Int) ≤ 64 * 2 ^ 6; decide)
theorem lives15_dec : dec15 (wr15 false (low15 false) (least15 false) (Ln []) (Ln (List.replicate 64 6)) (Ln (List.replicate 64 6)) toks15) false false 3 = ([7, 7, 7], 2, 0) := by
  have h := dec15_wr false false [] (List.replicate 64 6) (List.replicate 64 6) (fun h => nomatch h) ⟨schk_flat64, by simp⟩ ⟨schk_flat64, by simp⟩ toks15 toks15_ok ⟨4096, 100, true, []⟩ (by decide) rfl rfl rfl (by decide)
  have e : (tellT ⟨4096, 100, true, []⟩ toks15).2.b = [7, 7, 7] := by decide
  rw [e] at h
  exact h
set_option maxHeartbeats 2000000 in
theorem lives15_c (w : World) : Calls Try.prog 12 #[] w fun e w' => e = .returned (.bool true) ∧ Keep [] w w' := by
  have HF := Lib.hid (fun ww => flat15_c ww 64 6 (by decide) (by decide))
  have HW := Lib.hid (fun ww vl vf vt (h1 : Is .i64 ww vl (List.replicate 64 6)) (h2 : Is .i64 ww vf (List.replicate 64 6)) (h3 : Ts ww vt toks15) => refwrite15_c ww false false (.slice none 0 0) vl vf vt [] (List.replicate 64 6) (List.replicate 64 6) toks15 (OwnI.nil ww).is h1 h2 h3 (fun h => nomatch h) ⟨schk_flat64, by simp⟩ ⟨schk_flat64, by simp⟩ toks15_ok (by decide))
  have hL : (wr15 false (low15 false) (least15 false) (Ln []) (Ln (List.replicate 64 6)) (Ln (List.replicate 64 6)) toks15).length ≤ 100000 :=
    (wr15_len false _ _ [] _ _ (by decide) (fun h => nomatch h) ⟨schk_flat64, by simp⟩ ⟨schk_flat64, by simp⟩ toks15 (by decide)).1
  have HD := Lib.hid (fun ww v b (hb : Bs ww v b) (hl : b.length ≤ 100000) => exp_decode ww v b false false 3 hb hl (by decide))
  have HDD := Lib.hid lives15_dec
  generalize wr15 false (low15 false) (least15 false) (Ln []) (Ln (List.replicate 64 6)) (Ln (List.replicate 64 6)) toks15 = L at *
  have hTs := fun ww => Ts.lit ww toks15 #[.int .u8 7, .int .i64 0, .int .i64 0, .int .u8 0, .int .i64 1, .int .i64 2] 2 rfl rfl (by decide) (by decide)
  have HTS := Lib.hid hTs
  clear hTs
  go_enter Try.func12, Try.ntmps12
  go_wp2_with fail
  refine (HF.out w).mono ?_; rintro e w1 ⟨v1, rfl, hI1, k1⟩
  obtain ⟨a1, c1, rfl, _⟩ := hI1.sh
  go_wp2_with fail
  refine (HF.out w1).mono ?_; rintro e w2 ⟨v2, rfl, hI2, k2⟩
  obtain ⟨a2, c2, rfl, _⟩ := hI2.sh
  have k3 := (Keep.refl [] w2).alloc (.cells #[.int .u8 7, .int .i64 0, .int .i64 0, .int .u8 0, .int .i64 1, .int .i64 2] 40)
  have j1 := (hI1.keep k2 (by simp)).keep k3 (by simp)
  have j2 := hI2.keep k3 (by simp)
  have HWW := Lib.hid (HW.out _ _ _ _ j1 j2 (HTS.out w2))
  have K3 : Keep [] w _ := (k1.trans k2 (by simp)).trans k3 (by simp)
  rw [List.length_replicate] at HWW ⊢
  clear hI1 hI2 j1 j2 HW HF HTS k1 k2 k3
  go_wp2_with fail
  refine HWW.out.mono ?_; rintro e w4 ⟨v4, rfl, h4, k4⟩
  have HD2 := HD.out w4 v4 L h4 hL
  rw [HDD.out] at HD2
  dsimp only at HD2
  have HD2 := Lib.hid HD2
  have K4 := K3.trans k4 (by simp)
  clear HWW K3 k4 HD HDD
  go_wp2_with fail
  refine HD2.out.mono ?_; rintro e w5 ⟨v5, rfl, h5, k5⟩
  obtain ⟨b0, o0, cp0, rfl, cell⟩ := h5.spot 2 (by decide)
  have cell2 : w5.cell? ⟨b0, o0 + 2, none⟩ = some (.int .u8 7) := cell
  have K5 := K4.trans k5 (by simp)
  clear HD2 cell h5 k5 K4 h4 hL
  go_wp2_with fail
  go_ret
  exact ⟨rfl, K5⟩
end Go.Proofs.Ytjbjgcanbkpmdaa
namespace Go.Proofs.Ytjbjgcanbkpmdaa
set_option linter.unusedVariables false
set_option linter.unusedSimpArgs false
set_option maxRecDepth 100000
open Go.ChangeShapes Go.WideShapes Go.ChangeAt Go.RowKit

set_option maxHeartbeats 2000000 in
theorem expreads_w (W : World) (v0 : Value) (l0 : List UInt8) (h0 : Bs W v0 l0) (large : Bool) (trees : Bool) (size : Int) (hs : (Lit.int .i64 size).wf = true) : Calls Try.prog 3 #[v0, .bool large, .bool trees, .int .i64 size] W fun e w' => e = .returned (.bool true) ∧ Keep [] W w' := by
  have c1 := fun w3 v3 l (h3 : Bs w3 v3 l) (hl : l.length ≤ 100000) => exp_decode w3 v3 l large trees size h3 hl hs
  have c2 := fun w3 v3 l (h3 : Bs w3 v3 l) (hl : l.length ≤ 100000) => refdec15_c w3 v3 l large trees size h3 hl hs
  have HC1 := Lib.hid c1; have HC2 := Lib.hid c2; clear c1 c2 hs
  go_enter Try.func3, Try.ntmps3
  go_wp2_with fail
  refine (cut_c W v0 l0 500 (by decide) h0).mono ?_; rintro e w1 ⟨v1, rfl, h1, -, rfl⟩
  have hlen : (l0.take 500).length ≤ 500 := by rw [List.length_take]; omega
  generalize l0.take 500 = l at h1 hlen
  clear h0
  go_wp2_with fail
  refine (copy_c W v1 l (by omega) h1).mono ?_; rintro e w2 ⟨v2, rfl, h2, k2, b2⟩
  have h1' := h1.keep k2 (by simp)
  have d1 := HC1.out w2 v2 l h2.bs (by omega)
  have d2 := fun w3 v3 (h3 : Bs w3 v3 l) => HC2.out w3 v3 l h3 (by omega)
  generalize dec15 l large trees size = D at d1 d2
  obtain ⟨X, n, er⟩ := D
  dsimp only at d1 d2
  have HD1 := Lib.hid d1; have HD2 := Lib.hid d2; clear d1 d2
  go_wp2_with fail
  refine HD1.out.mono ?_; rintro e w3 ⟨v3, rfl, h3, k3⟩
  have h1'' := h1'.keep k3 (by simp)
  have h2' := h2.bs.keep k3 (by simp)
  go_wp2_with fail
  refine (HD2.out w3 v1 h1'').mono ?_; rintro e w4 ⟨v4, rfl, h4, k4⟩
  have h3' := h3.keep k4 (by simp)
  have g1 := h1''.keep k4 (by simp)
  have g2 := h2'.keep k4 (by simp)
  have KK : Keep [] W w4 := ((k2.trans k3 (by simp)).trans k4 (by simp))
  have s1 := same_c w4 v3 v4 X X h3' h4
  simp only [decide_true] at s1
  have HS1 := Lib.hid s1; clear s1
  go_wp2_with fail
  refine HS1.out.mono ?_; rintro e w5 ⟨rfl, n5, rfl⟩
  have s2 := same_c (w4.drewN n5) v2 v1 l l (g2.keep ((Keep.refl [] w4).drewN n5) (by simp)) (g1.keep ((Keep.refl [] w4).drewN n5) (by simp))
  simp only [decide_true] at s2
  have HS2 := Lib.hid s2; clear s2
  go_wp2_with fail
  refine HS2.out.mono ?_; rintro e w6 ⟨rfl, n6, rfl⟩
  have K6 : Keep [] W ((w4.drewN n5).drewN n6) := (KK.drewN _).drewN _
  generalize (w4.drewN n5).drewN n6 = w6 at K6 ⊢
  go_wp2_with fail
  refine (lives15_c w6).mono ?_; rintro e w7 ⟨rfl, k7⟩
  go_wp2_with fail
  go_ret
  exact ⟨rfl, K6.trans k7 (by simp)⟩
set_option maxHeartbeats 2000000 in
theorem expbounds_w (W : World) (v0 : Value) (l0 : List UInt8) (h0 : Bs W v0 l0) (large : Bool) (trees : Bool) (size : Int) (hs : (Lit.int .i64 size).wf = true) : Calls Try.prog 5 #[v0, .bool large, .bool trees, .int .i64 size] W fun e w' => e = .returned (.bool true) ∧ Keep [] W w' := by
  have c1 := fun w3 v3 l (h3 : Bs w3 v3 l) (hl : l.length ≤ 100000) => exp_decode w3 v3 l large trees size h3 hl hs
  have HC1 := Lib.hid c1; clear c1 hs
  go_enter Try.func5, Try.ntmps5
  go_wp2_with fail
  refine (cut_c W v0 l0 500 (by decide) h0).mono ?_; rintro e w1 ⟨v1, rfl, h1, -, rfl⟩
  have hlen : (l0.take 500).length ≤ 500 := by rw [List.length_take]; omega
  generalize l0.take 500 = l at h1 hlen
  clear h0
  obtain ⟨a1, cp1, rfl, _⟩ := h1.shape
  have d1 := HC1.out W _ l h1 (by omega)
  have hok := dec15_ok l large trees size
  have herr := dec15_err l large trees size
  generalize dec15 l large trees size = D at d1 hok herr
  obtain ⟨X, n, er⟩ := D
  dsimp only at d1 hok herr
  have HD1 := Lib.hid d1; clear d1
  go_wp2_with fail
  refine HD1.out.mono ?_; rintro e w3 ⟨v3, rfl, h3, k3⟩
  obtain ⟨a3, cp3, rfl, _⟩ := h3.shape
  clear HD1 HC1 h1 h3
  by_cases h0 : er = 0
  · obtain ⟨o2, o4, o3⟩ := hok h0
    subst h0
    have q1 : ((X.length : Int) == size) = true := by simpa using o2
    have q2 : decide ((n : Int) ≤ 4 * (l.length : Int)) = true := by simp; omega
    have q2' : decide (n ≤ 4 * l.length) = true := by simpa using o3
    have q3 : decide ((n : Int) ≤ size) = true := by simpa using o4
    have q5 : IntKind.i64.wrap (4 * (l.length : Int)) = 4 * l.length := by rw [IntKind.wrap_i64]; omega
    clear o2 o3 o4 hok herr
    go_wp2_with fail
    refine (lives15_c _).mono ?_; rintro e w7 ⟨rfl, k7⟩
    go_wp2_with fail
    go_ret
    exact ⟨rfl, k3.trans k7 (by simp)⟩
  · obtain ⟨rfl, rfl⟩ := herr h0
    have q1 : ((er : Int) != 0) = true := by simp; omega
    clear hok herr h0
    go_wp2_with fail
    refine (lives15_c _).mono ?_; rintro e w7 ⟨rfl, k7⟩
    go_wp2_with fail
    go_ret
    exact ⟨rfl, k3.trans k7 (by simp)⟩
theorem win15_shl (large : Bool) : IntKind.i64.wrap (64 * 2 ^ low15 large) = (win15 large : Int) := by cases large <;> decide
set_option maxHeartbeats 2000000 in
theorem expparams_w (W : World) (large : Bool) (trees : Bool) : Calls Try.prog 6 #[.bool large, .bool trees] W fun e w' => e = .returned (.bool true) ∧ Keep [] W w' := by
  have H1 := Lib.hid (exp_params W large trees)
  have H2 := Lib.hid (fun w => refparams15_c w large trees)
  have hsh := win15_shl large
  have hlow : low15 large ≤ 7 := by unfold low15; split <;> decide
  generalize win15 large = a at *
  generalize low15 large = b at *
  generalize least15 trees = c at *
  go_enter Try.func6, Try.ntmps6
  go_wp2_with fail
  refine H1.out.mono ?_; rintro e w1 ⟨rfl, k1⟩
  go_wp2_with fail
  refine (H2.out w1).mono ?_; rintro e w2 ⟨rfl, rfl⟩
  go_wp2_with fail
  refine (lives15_c _).mono ?_; rintro e w7 ⟨rfl, k7⟩
  go_wp2_with fail
  go_ret
  exact ⟨rfl, k1.trans k7 (by simp)⟩
end Go.Proofs.Ytjbjgcanbkpmdaa
namespace Go.Proofs.Ytjbjgcanbkpmdaa
set_option linter.unusedVariables false
set_option linter.unusedSimpArgs false
set_option maxRecDepth 100000
open Go.ChangeShapes Go.WideShapes Go.ChangeAt Go.RowKit

/-- a token, put between its bounds -/
def fit15 (least size : Nat) (t : Tk) : Tk := if t.len = 0 then ⟨t.lit, 0, 0⟩ else ⟨t.lit, max 1 (min t.dist size), max least (min t.len (least + 318))⟩
theorem fit15_ok (low least size : Nat) (hs : size = 64 * 2 ^ low) (hp : 1 ≤ size) (t : Tk) : tkOk15 low least (fit15 least size t) := by
  unfold fit15 tkOk15
  have e : ((64 * 2 ^ low : Nat) : Int) = 64 * 2 ^ low := by simp
  by_cases h : t.len = 0
  · rw [if_pos h]; exact .inl ⟨rfl, rfl⟩
  · rw [if_neg h]
    right
    dsimp only
    omega
theorem fit15_wf (least size : Nat) (h1 : least ≤ 3) (h2 : size ≤ 8192) (t : Tk) : (fit15 least size t).wf := by
  unfold fit15 Tk.wf
  by_cases h : t.len = 0
  · rw [if_pos h]; exact ⟨(by decide : (Lit.int .i64 0).wf = true), (by decide : (Lit.int .i64 0).wf = true)⟩
  · rw [if_neg h]
    simp [Lit.wf, IntKind.min, IntKind.max, IntKind.bits, IntKind.signed]; omega
theorem win15_low (large : Bool) : win15 large = 64 * 2 ^ low15 large ∧ win15 large ≤ 8192 ∧ 1 ≤ win15 large := by cases large <;> decide
theorem sumT_le15 (low least : Nat) (ts : List Tk) (h : ∀ t ∈ ts, tkOk15 low least t) : sumT ts ≤ (least + 318) * ts.length := by
  induction ts with
  | nil => simp [sumT]
  | cons t ts ih =>
    have hs : sumT (t :: ts) = sz1 t + sumT ts := by simp [sumT]
    have := ih (fun x hx => h x (by simp [hx]))
    have hz : sz1 t ≤ least + 318 := by
      unfold sz1
      rcases h t (by simp) with ⟨a, _⟩ | ⟨_, g2, _, _⟩
      · rw [if_pos a]; omega
      · split <;> omega
    rw [hs, List.length_cons, Nat.mul_succ]; omega
/-- what is told of tokens that fit, and what is decoded of them -/
theorem tells15 (large trees : Bool) (zb zl zf : List Int) (hb : trees = true → schk zb = 0 ∧ zb.length = 256) (hl : schk zl = 0 ∧ zl.length = 64) (hf : schk zf = 0 ∧ zf.length = 64) (ts : List Tk) (hts : ∀ t ∈ ts, tkOk15 (low15 large) (least15 trees) t) (hn : ts.length ≤ 30) :
    ∃ B : List UInt8, expT ts (win15 large) 1048576 true = (0, B) ∧ sumT ts ≤ 10000 ∧ B.length ≤ 10000 ∧
      (ts ≠ [] → dec15 (wr15 trees (low15 large) (least15 trees) (Ln zb) (Ln zl) (Ln zf) ts) large trees B.length = (B, ts.length, 0)) ∧
      (ts = [] → dec15 (wr15 trees (low15 large) (least15 trees) (Ln zb) (Ln zl) (Ln zf) ts) large trees B.length = ([], 0, 5)) := by
  have hleast : least15 trees ≤ 3 ∧ 1 ≤ least15 trees := by unfold least15; split <;> decide
  obtain ⟨w1, w2, w3⟩ := win15_low large
  have hsum := sumT_le15 _ _ ts hts
  have hm : (least15 trees + 318) * ts.length ≤ 321 * 30 := Nat.mul_le_mul (by omega) hn
  have ho := tellT_ok15 (low15 large) (least15 trees) ts hts ⟨win15 large, 1048576, true, []⟩ rfl w1 (by show 0 + _ ≤ 1048576; omega) hleast.2
  have hsz := tellT_size ho
  simp only [List.length_nil, Nat.zero_add] at hsz
  refine ⟨(tellT ⟨win15 large, 1048576, true, []⟩ ts).2.b, ?_, by omega, by omega, fun hne => ?_, fun he => ?_⟩
  · unfold expT
    rw [if_neg (by unfold winBad; omega), Int.toNat_natCast]
    show (if (tellT ⟨win15 large, 1048576, true, []⟩ ts).1 = 0 then _ else _) = _
    rw [if_pos ho]
    rfl
  · exact dec15_wr large trees zb zl zf hb hl hf ts hts ⟨win15 large, 1048576, true, []⟩ ho rfl rfl rfl hne
  · subst he
    have hlen := (wr15_len trees (low15 large) (least15 trees) zb zl zf (by unfold low15; split <;> decide) hb hl hf [] (by decide)).2
    show dec15 _ large trees ((0 : Nat) : Int) = _
    unfold dec15
    rw [if_neg (by decide), if_pos (show ((0 : Nat) : Int) = 0 from rfl), if_neg (by omega)]
set_option maxHeartbeats 8000000 in
theorem exptells_w (W : World) (large : Bool) (trees : Bool) (vb : Value) (zb : List Int) (hb : Is .i64 W vb zb) (vl : Value) (zl : List Int) (hl : Is .i64 W vl zl) (vf : Value) (zf : List Int) (hf : Is .i64 W vf zf) (vt : Value) (ts0 : List Tk) (ht : Ts W vt ts0) :
    Calls Try.prog 4 #[.bool large, .bool trees, vb, vl, vf, vt] W fun e w' => e = .returned (.bool true) ∧ Keep [] W w' := by
  have HFEW := Lib.hid (reffew8_c W vt ts0 30 300 (by omega) (by decide) ht)
  have HPR := Lib.hid (fun w => exp_params w large trees)
  obtain ⟨w1', w2', w3'⟩ := win15_low large
  have hleast : least15 trees ≤ 3 ∧ 1 ≤ least15 trees := by unfold least15; split <;> decide
  have HFULL := Lib.hid (fun w v zs n x h a b c => full15_c w v zs n x h a b c)
  have HTELL := Lib.hid (tells15 large trees)
  have HWRT := Lib.hid (refwrite15_c (large := large) (trees := trees))
  have HDEC := Lib.hid (fun w v b size hb hl hs => exp_decode w v b large trees size hb hl hs)
  have HFIT := Lib.hid (fit15_ok (low15 large) (least15 trees) (win15 large) w1' w3')
  have HFWF := Lib.hid (fit15_wf (least15 trees) (win15 large) hleast.1 w2')
  have HLEN := Lib.hid (fun zb zl zf hb hl hf ts hn => (wr15_len trees (low15 large) (least15 trees) zb zl zf (by unfold low15; split <;> decide) hb hl hf ts hn).1)
  generalize hwin : win15 large = win at *
  generalize low15 large = low at *
  generalize least15 trees = least at *
  have HB := Lib.hid hb; have HL := Lib.hid hl; have HF := Lib.hid hf
  clear w1' hwin hb hl hf ht
  go_enter Try.func4, Try.ntmps4
  go_wp2_with fail
  refine HFEW.out.mono ?_; rintro e w1 ⟨v1, rfl, o1, k1, _⟩
  have hln := fewT_len ts0 30 300
  generalize fewT ts0 30 300 = ts at o1 hln
  have ht1 := o1.ts
  clear HFEW o1
  go_wp2_with fail
  refine (HPR.out w1).mono ?_; rintro e w2 ⟨rfl, k2⟩
  clear HPR
  have K2 := k1.trans k2 (by simp)
  have ht2 := ht1.keep k2 (by simp)
  go_wp2_with fail
  refine (HFULL.out w2 vb zb 256 8 (HB.out.keep K2 (by simp)) (by decide) (by decide) schk_flat256).mono ?_; rintro e w3 ⟨vb3, zb3, rfl, hb3, k3, hbs, hbl⟩
  have K3 := K2.trans k3 (by simp)
  go_wp2_with fail
  refine (HFULL.out w3 vl zl 64 6 (HL.out.keep K3 (by simp)) (by decide) (by decide) schk_flat64).mono ?_; rintro e w4 ⟨vl4, zl4, rfl, hl4, k4, hls, hll⟩
  have K4 := K3.trans k4 (by simp)
  go_wp2_with fail
  refine (HFULL.out w4 vf zf 64 6 (HF.out.keep K4 (by simp)) (by decide) (by decide) schk_flat64).mono ?_; rintro e w5 ⟨vf5, zf5, rfl, hf5, k5, hfs, hfl⟩
  have K5 := K4.trans k5 (by simp)
  have ht5 := ((ht2.keep k3 (by simp)).keep k4 (by simp)).keep k5 (by simp)
  have hb5 := (hb3.keep k4 (by simp)).keep k5 (by simp)
  have hl5 := hl4.keep k5 (by simp)
  obtain ⟨at', ct, rfl, _⟩ := ht5.sh
  obtain ⟨ab, cb, rfl, _⟩ := hb5.sh
  obtain ⟨al, cl, rfl, _⟩ := hl5.sh
  obtain ⟨af, cf, rfl, _⟩ := hf5.sh
  have HT := Lib.hid ht5; have HB5 := Lib.hid hb5; have HL5 := Lib.hid hl5; have HF5 := Lib.hid hf5; have HK5 := Lib.hid K5
  have HBS : Hid (trees = true → schk zb3 = 0 ∧ zb3.length = 256) := fun _ => ⟨hbs, hbl⟩
  have HLS : Hid (schk zl4 = 0 ∧ zl4.length = 64) := ⟨hls, hll⟩
  have HFS : Hid (schk zf5 = 0 ∧ zf5.length = 64) := ⟨hfs, hfl⟩
  clear HFULL HB HL HF ht1 ht2 ht5 hb5 hl5 hf5 hb3 hl4 k1 k2 k3 k4 k5 K2 K3 K4 K5 hbs hbl hls hll hfs hfl
  go_wp2_with fail
  go_loopw [16, 17] (fun ov iv wr => ∃ (k : Nat) (a7 : Option Addr) (n7 c7 : Nat), k ≤ ts.length ∧ iv = .int .i64 k ∧ ov = .slice a7 n7 c7 ∧ Hid (OwnT wr (.slice a7 n7 c7) ((ts.take k).map (fit15 least win))) ∧ Hid (Keep [] w5 wr) ∧ Hid (∀ b, (Value.slice a7 n7 c7).ownBlock = some b → w5.heap.size ≤ b)) (fun _ iv _ => ts.length - (intOf iv).toNat)
  case atStart => exact ⟨0, none, 0, 0, Nat.zero_le _, rfl, rfl, OwnT.nil _, Keep.refl _ _, fun b hb => by simp [Value.ownBlock] at hb⟩
  case round =>
    obtain ⟨k, a7, n7, c7, hk, rfl, rfl, HO, HK, HBB⟩ := hrel
    by_cases hlt : k < ts.length
    · have hlt2 : (k : Int) < (ts.length : Int) := by omega
      obtain ⟨b, off, cap1, hv, e1, e2, e3⟩ := (HT.out.keep HK.out (by simp)).at k hlt
      simp only [Value.slice.injEq] at hv
      obtain ⟨rfl, h2, rfl⟩ := hv
      clear h2
      have hsn : (ts.take (k + 1)).map (fit15 least win) = (ts.take k).map (fit15 least win) ++ [fit15 least win ts[k]] := by
        rw [List.take_succ_eq_append_getElem hlt, List.map_append]; rfl
      have hlm : ((ts.take k).map (fit15 least win)).length ≤ 30 := by rw [List.length_map, List.length_take]; omega
      have HSN := Lib.hid hsn
      obtain ⟨t, htt⟩ : ∃ t, ts[k] = t := ⟨_, rfl⟩
      rw [htt] at e1 e2 e3 HSN
      have HWT := Lib.hid (HFWF.out t)
      obtain ⟨u, hu⟩ : ∃ u, fit15 least win t = u := ⟨_, rfl⟩
      rw [hu] at HSN HWT
      have HU := Lib.hid hu
      obtain ⟨M, hM⟩ : ∃ M, (ts.take k).map (fit15 least win) = M := ⟨_, rfl⟩
      rw [hM] at HO HSN hlm
      have HB0 := Lib.hid (Blk.new wr #[.int .u8 t.lit.toNat, .int .i64 t.dist, .int .i64 t.len] 40)
      have HK0 := Lib.hid ((Keep.refl [] wr).alloc (.cells #[.int .u8 t.lit.toNat, .int .i64 t.dist, .int .i64 t.len] 40))
      clear hsn htt hu hM
      obtain ⟨bz, hbz⟩ : ∃ bz : Bool, (t.len != 0) = bz := ⟨_, rfl⟩
      go_upto_if 51 with fail
      have HBZ := Lib.hid hbz
      clear hbz
      obtain ⟨q, hq⟩ : ∃ q, wr.heap.size = q := ⟨_, rfl⟩
      have HQ := Lib.hid hq
      rw [hq] at HB0 ⊢
      clear hq
      generalize wr.alloc (.cells #[.int .u8 t.lit.toNat, .int .i64 t.dist, .int .i64 t.len] 40) = w6 at HB0 HK0 ⊢
      go_cut [] (fun wx => Blk wx q #[.int .u8 u.lit.toNat, .int .i64 u.dist, .int .i64 u.len] 40 ∧ Keep [] wr wx)
      case first =>
        have hu := HU.out
        unfold fit15 at hu
        cases bz with
        | true =>
          have h0 : ¬ t.len = 0 := by have := HBZ.out; simpa using this
          rw [if_neg h0] at hu
          subst hu
          have V1 := Lib.hid (fun w => within_c t.len least (least + 318) w (by omega))
          have V2 := Lib.hid (fun w => within_c t.dist 1 win w (by omega))
          try dsimp only
          generalize max (least : Int) (min t.len (least + 318)) = x2 at *
          generalize max (1 : Int) (min t.dist win) = x1 at *
          have hB0 := HB0.out
          have a1 := hB0.cell 1 _ rfl
          have a2 := hB0.cell 2 _ rfl
          have f1 := hB0.free 1
          have f2 := hB0.free 2
          have hws : IntKind.i64.wrap ((least : Int) + 318) = (least : Int) + 318 := by rw [IntKind.wrap_i64]; omega
          have HS1 : Hid (Blk ((w6.setCell ⟨q, 2, none⟩ (.int .i64 x2)).setCell ⟨q, 1, none⟩ (.int .i64 x1)).drew q #[.int .u8 t.lit.toNat, .int .i64 x1, .int .i64 x2] 40) := ((hB0.set 2 (.int .i64 x2)).set 1 (.int .i64 x1)).keep (Keep.refl [] _).drew (by simp)
          have HS2 : Hid (Blk ((w6.setCell ⟨q, 1, none⟩ (.int .i64 x1)).setCell ⟨q, 2, none⟩ (.int .i64 x2)).drew q #[.int .u8 t.lit.toNat, .int .i64 x1, .int .i64 x2] 40) := ((hB0.set 1 (.int .i64 x1)).set 2 (.int .i64 x2)).keep (Keep.refl [] _).drew (by simp)
          have HK1 : Hid (Keep [] wr ((w6.setCell ⟨q, 2, none⟩ (.int .i64 x2)).setCell ⟨q, 1, none⟩ (.int .i64 x1)).drew) := ((HK0.out.setCell (.inr (by have := HQ.out; simp; omega)) _).setCell (.inr (by have := HQ.out; simp; omega)) _).drew
          have HK2 : Hid (Keep [] wr ((w6.setCell ⟨q, 1, none⟩ (.int .i64 x1)).setCell ⟨q, 2, none⟩ (.int .i64 x2)).drew) := ((HK0.out.setCell (.inr (by have := HQ.out; simp; omega)) _).setCell (.inr (by have := HQ.out; simp; omega)) _).drew
          clear hB0 h0 HB0 HU HWT HFIT
          go_wp2_with fail
          go_region_with (first
            | (go_at_call 16; with_reducible refine (V1.out _).mono ?_; rintro e w' ⟨rfl, rfl⟩)
            | (go_at_call 16; with_reducible refine (V2.out _).mono ?_; rintro e w' ⟨rfl, rfl⟩))
          all_goals
            go_wp2_with fail
            go_meet
            first | exact ⟨HS1.out, HK1.out⟩ | exact ⟨HS2.out, HK2.out⟩
        | false =>
          have h0 : t.len = 0 := by have := HBZ.out; simpa using this
          rw [if_pos h0] at hu
          subst hu
          have hB0 := HB0.out
          rw [h0] at hB0
          have a1 := hB0.cell 1 _ rfl
          have f1 := hB0.free 1
          have HS1 := Lib.hid (hB0.set 1 (.int .i64 0))
          have HK1 : Hid (Keep [] wr (w6.setCell ⟨q, 1, none⟩ (.int .i64 0))) := HK0.out.setCell (.inr (by have := HQ.out; simp; omega)) _
          clear hB0 h0 HB0 HU HWT HFIT
          go_wp2_with fail
          go_meet
          exact ⟨HS1.out, HK1.out⟩
      case rest =>
        clear HB0 HK0
        obtain ⟨hB, hKx⟩ := hcut
        have b0 := hB.cell 0 _ rfl
        have b1 := hB.cell 1 _ rfl
        have b2 := hB.cell 2 _ rfl
        have HOx := Lib.hid (HO.out.keep hKx (by simp))
        have HKx := Lib.hid (HK.out.trans hKx (by simp))
        have HSS := Lib.hid (Blk.new wc #[.int .u8 u.lit.toNat, .int .i64 u.dist, .int .i64 u.len] 40)
        clear hB hKx HO HK HU HFIT
        go_wp2_with (at_builtin; (refine wpList_appendT (.tmp 65) (.tmp 67) rfl rfl (.slice a7 n7 c7) M rfl (HOx.out.keep ((Keep.refl [] wc).alloc _) (by simp)) wc.heap.size u rfl HSS.out HWT.out (by omega) ?_); (intro v8 w8 o8 k8 b8 z8); (obtain ⟨g8, c8, hv8⟩ := o8.blk z8); (subst hv8))
        have HO8 : Hid (OwnT w8 (.slice (some ⟨g8, 0, none⟩) (M.length + 1) c8) ((ts.take (k + 1)).map (fit15 least win))) := by unfold Hid; rw [HSN.out]; rw [List.length_append] at o8; exact o8
        have HK8 : Hid (Keep [] w5 w8) := (HKx.out.alloc _).trans k8 (fun x hx => .inr (HBB.out x (by simpa using hx)))
        have HB8 : Hid (∀ b, (Value.slice (some ⟨g8, 0, none⟩) (M.length + 1) c8).ownBlock = some b → w5.heap.size ≤ b) := fun b hb => by
          rcases b8 b hb with h | h
          · exact HBB.out b h
          · have := HKx.out.size; rw [h]; simp; omega
        clear o8 k8 b8 z8 HOx HKx HBB HSN HSS
        generalize M.length + 1 = m8 at HO8 HB8 ⊢
        go_roundw
        case rel => exact ⟨k + 1, _, _, _, by omega, by go_num, rfl, HO8, HK8, HB8⟩
        case measure => simp [intOf]; omega
    · obtain rfl : k = ts.length := by omega
      have hlt2 : ¬ (ts.length : Int) < (ts.length : Int) := by omega
      have hO := HO.out
      rw [List.take_length] at hO
      have hok : ∀ t ∈ ts.map (fit15 least win), tkOk15 low least t := by
        intro t ht
        obtain ⟨x, _, rfl⟩ := List.mem_map.1 ht
        exact HFIT.out x
      have hml : (ts.map (fit15 least win)).length ≤ 30 := by rw [List.length_map]; exact hln
      generalize ts.map (fit15 least win) = fs at hO hok hml
      obtain ⟨B, hex, hsum, hBl, hd1, hd2⟩ := HTELL.out zb3 zl4 zf5 HBS.out HLS.out HFS.out fs hok hml
      have hL := HLEN.out zb3 zl4 zf5 HBS.out HLS.out HFS.out fs (by omega)
      have hTs := hO.ts
      obtain ⟨a9, c9, hsl, _⟩ := hTs.sh
      simp only [Value.slice.injEq] at hsl
      obtain ⟨rfl, rfl, rfl⟩ := hsl
      have HEX := tok_expand wr _ fs win 1048576 true hTs (by simp [Lit.wf, IntKind.min, IntKind.max, IntKind.bits, IntKind.signed]; omega) (by decide) (by omega)
      rw [hex] at HEX
      dsimp only at HEX
      have HEX := Lib.hid HEX
      have HTS := Lib.hid hTs
      have HML := Lib.hid hml
      have HD1 := Lib.hid hd1; have HD2 := Lib.hid hd2; have HLL := Lib.hid hL; have HOK := Lib.hid hok
      have HKW := Lib.hid (HK5.out.trans HK.out (by simp))
      have HK5W := HK
      clear hO hok hml hex hsum hd1 hd2 hL hTs HO HK HBB HFIT HFWF HTELL HLEN hlt HT
      go_wp2_with fail
      refine HEX.out.mono ?_; rintro e w7 ⟨v7, rfl, h7, k7⟩
      have h7 : Bs w7 v7 B := h7
      obtain ⟨a7, c7, rfl, _⟩ := h7.shape
      have hK57 := HK5W.out.trans k7 (by simp)
      have HW := HWRT.out w7 _ _ _ _ zb3 zl4 zf5 fs (HB5.out.keep hK57 (by simp)) (HL5.out.keep hK57 (by simp)) (HF5.out.keep hK57 (by simp)) (HTS.out.keep k7 (by simp)) HBS.out HLS.out HFS.out HOK.out (by have := HML.out; omega)
      obtain ⟨L, hLe⟩ : ∃ L, wr15 trees low least (Ln zb3) (Ln zl4) (Ln zf5) fs = L := ⟨_, rfl⟩
      rw [hLe] at HW HD1 HD2 HLL
      have HW := Lib.hid HW
      have HDD := HDEC.out
      have HDC := Lib.hid (fun w v (hb : Bs w v L) => HDD w v L (B.length : Int) hb HLL.out (by simp [Lit.wf, IntKind.min, IntKind.max, IntKind.bits, IntKind.signed]; omega))
      have H7 := Lib.hid h7
      have HK7 := Lib.hid (HKW.out.trans k7 (by simp))
      clear h7 k7 hLe HDD HDEC HEX HWRT HB5 HL5 HF5 HK5W HKW HTS hK57 HBS HLS HFS HOK HML HLL
      go_wp2_with fail
      refine HW.out.mono ?_; rintro e w8 ⟨v8, rfl, h8, k8⟩
      have hdc := HDC.out w8 v8 h8
      have HK8 := Lib.hid (HK7.out.trans k8 (by simp))
      have H78 := Lib.hid (H7.out.keep k8 (by simp))
      clear HW h8 HDC k8 H7 HK7
      by_cases hne : fs = []
      · rw [HD2.out hne] at hdc
        dsimp only at hdc
        have HDC := Lib.hid hdc
        have z1 : ((fs.length : Int) == 0) = true := by rw [hne]; rfl
        have z2 : (fs.length == 0) = true := by rw [hne]; rfl
        clear hdc HD1 HD2 hne
        go_wp2_with fail
        refine HDC.out.mono ?_; rintro e w9 ⟨v9, rfl, h9, k9⟩
        have K9 := HK8.out.trans k9 (by simp)
        clear HDC h9 k9 HK8
        go_wp2_with fail
        refine (lives15_c _).mono ?_; rintro e w10 ⟨rfl, k10⟩
        go_wp2_with fail
        go_ret
        exact ⟨rfl, K9.trans k10 (by simp)⟩
      · rw [HD1.out hne] at hdc
        dsimp only at hdc
        have HDC := Lib.hid hdc
        have hpos : 0 < fs.length := by cases fs; exact absurd rfl hne; simp
        have z1 : ((fs.length : Int) == 0) = false := by rw [beq_eq_false_iff_ne]; omega
        have z2 : (fs.length == 0) = false := by rw [beq_eq_false_iff_ne]; omega
        clear hdc HD1 HD2 hne hpos
        go_wp2_with fail
        refine HDC.out.mono ?_; rintro e w9 ⟨v9, rfl, h9, k9⟩
        have K9 := HK8.out.trans k9 (by simp)
        have s1 := same_c w9 v9 _ B B h9 (H78.out.keep k9 (by simp))
        simp only [decide_true] at s1
        have HS1 := Lib.hid s1
        clear HDC h9 k9 HK8 s1 H78
        go_wp2_with fail
        refine HS1.out.mono ?_; rintro e w10 ⟨rfl, n10, rfl⟩
        go_wp2_with fail
        refine (lives15_c _).mono ?_; rintro e w11 ⟨rfl, k11⟩
        go_wp2_with fail
        go_ret
        exact ⟨rfl, (K9.drewN n10).trans k11 (by simp)⟩
end Go.Proofs.Ytjbjgcanbkpmdaa
