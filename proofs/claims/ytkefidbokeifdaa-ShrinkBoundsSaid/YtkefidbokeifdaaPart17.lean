/- Texts put together: Sh4 Sh5 Sh ShLaw1 ShLaw2 ShLaw3 ShLaw4 ShLaw5 -/
import Derived.Test.YtkefidbokeifdaaPart13
import Derived.Test.YtkefidbokeifdaaPart6
import Derived.Test.YtkefidbokeifdaaPart16
import Derived.Test.YtkefidbokeifdaaPart3
import Derived.Test.YtkefidbokeifdaaPart19
import Derived.Test.YtkefidbokeifdaaPart1
namespace Go.Proofs.Ytkefidbokeifdaa
set_option linter.unusedVariables false
set_option linter.unusedSimpArgs false
open Go.ChangeShapes Go.WideShapes Go.ChangeAt Go.RowKit

/-- a writer's cells -/
def wrCells (qt qo : Nat) (s : EH) : Array Value := #[.pointer (some ⟨qt, 0, none⟩), .int .i64 s.w, .int .i64 s.last, .pointer (some ⟨qo, 0, none⟩), .int .i64 s.k, .int .i64 s.clr]
/-- a writer of codes and all that it holds -/
def EwL (q qt qo : Nat) (s : EH) : List Ob := [Ob.box q (wrCells qt qo s) 72, Ob.tab qt s.t, Ob.wr qo s.bs]
theorem wr_cells {w : World} {q qt qo : Nat} {s : EH} (h : Blk w q (wrCells qt qo s) 72) : w.cell? ⟨q, 0, none⟩ = some (.pointer (some ⟨qt, 0, none⟩)) ∧ w.cell? ⟨q, 1, none⟩ = some (.int .i64 s.w) ∧ w.cell? ⟨q, 2, none⟩ = some (.int .i64 s.last) ∧
    w.cell? ⟨q, 3, none⟩ = some (.pointer (some ⟨qo, 0, none⟩)) ∧ w.cell? ⟨q, 4, none⟩ = some (.int .i64 s.k) ∧ w.cell? ⟨q, 5, none⟩ = some (.int .i64 s.clr) :=
  ⟨h.cell 0 _ rfl, h.cell 1 _ rfl, h.cell 2 _ rfl, h.cell 3 _ rfl, h.cell 4 _ rfl, h.cell 5 _ rfl⟩
set_option maxRecDepth 100000 in
theorem wcontrol_c {W w : World} (q qt qo : Nat) (s : EH) (x : Nat) (h : St W w (EwL q qt qo s)) (hx : x < 256) (hw : s.w ≤ 13) (hb : s.bs.length ≤ 1000000000000) : Calls Try.prog 60 #[.pointer (some ⟨q, 0, none⟩), .int .u32 x] w fun e w' =>
    e = .returned (.tuple #[]) ∧ St W w' (EwL q qt qo (s.ctl x)) := by
  obtain ⟨-, c1, -, c3, -, -⟩ := wr_cells (h.blk 0 rfl)
  have HP := Lib.hid (st_put (h.read ((Keep.refl [] w).drew)) 2 rfl 256 s.w (by decide) (by omega) (by omega))
  have HW := Lib.hid hw; have HB := Lib.hid hb; have HX := Lib.hid hx
  clear h hx hw hb
  go_enter Try.func60, Try.ntmps60
  go_wp2_with fail
  go_still_tail 9, (by kernel_rfl)
  change wpList _ _ _ _ _ w.drew
  clear c1 c3
  generalize w.drew = w1 at *
  go_wp2_with fail
  refine HP.out.mono ?_; rintro e w2 ⟨rfl, hS⟩
  have hS2 : St W w2 (EwL q qt qo { s with bs := s.bs ++ bitsOf 256 s.w }) := hS
  obtain ⟨-, c1, -, c3, -, -⟩ := wr_cells (hS2.blk 0 rfl)
  have HP2 := Lib.hid (st_put (hS2.read ((Keep.refl [] w2).drew)) 2 rfl x s.w (by have := HX.out; omega) (by have := HW.out; omega) (by show (s.bs ++ bitsOf 256 s.w).length ≤ _; rw [List.length_append, bitsOf_length]; have := HW.out; have := HB.out; omega))
  clear hS hS2 HP
  dsimp only at c1 c3
  go_wp2_with fail
  go_still_tail 10, (by kernel_rfl)
  change wpList _ _ _ _ _ w2.drew
  clear c1 c3
  generalize w2.drew = w3 at *
  go_wp2_with fail
  refine HP2.out.mono ?_; rintro e w4 ⟨rfl, hS⟩
  have HS4 : Hid (St W w4 (EwL q qt qo (s.ctl x))) := hS
  clear hS HP2
  go_wp2_with fail
  go_end0
  exact ⟨rfl, HS4.out⟩
set_option maxRecDepth 100000 in
theorem wclear_c {W w : World} (q qt qo : Nat) (s : EH) (h : St W w (EwL q qt qo s)) (hw : s.w ≤ 13) (hb : s.bs.length ≤ 1000000000000) (hc : s.clr ≤ 1000000000000) : Calls Try.prog 48 #[.pointer (some ⟨q, 0, none⟩)] w fun e w' =>
    e = .returned (.tuple #[]) ∧ St W w' (EwL q qt qo s.clear) := by
  have HC := Lib.hid (wcontrol_c q qt qo s 2 h (by decide) hw hb)
  have hwr : IntKind.i64.wrap ((s.clr : Int) + 1) = ((s.clr + 1 : Nat) : Int) := by rw [IntKind.wrap_i64]; omega
  have HWR := Lib.hid hwr
  clear h hw hb hc hwr
  go_enter Try.func48, Try.ntmps48
  go_wp2_with fail
  refine HC.out.mono ?_; rintro e w2 ⟨rfl, hS⟩
  obtain ⟨c0, -, -, -, -, -⟩ := wr_cells (hS.blk 0 rfl)
  have HL := Lib.hid (st_lz_clear hS 1 rfl)
  clear hS HC
  go_wp2_with fail
  refine HL.out.mono ?_; rintro e w3 ⟨rfl, hS⟩
  have hS3 : St W w3 (EwL q qt qo { s.ctl 2 with t := s.t.clear }) := hS
  have hS4 : St W (w3.setCell ⟨q, 4, none⟩ (.int .i64 0)) (EwL q qt qo { s.ctl 2 with t := s.t.clear, k := 0 }) := hS3.setBox 0 rfl 4 (.int .i64 0)
  have hS5 := hS4.setBox 0 rfl 5 (.int .i64 ((s.clr + 1 : Nat) : Int))
  have HS5 : Hid (St W ((w3.setCell ⟨q, 4, none⟩ (.int .i64 0)).setCell ⟨q, 5, none⟩ (.int .i64 ((s.clr + 1 : Nat) : Int))) (EwL q qt qo s.clear)) := hS5
  have hB3 := hS3.blk 0 rfl
  obtain ⟨-, -, -, -, c4, c5⟩ := wr_cells hB3
  obtain ⟨-, -, -, -, -, d5⟩ := wr_cells (hS4.blk 0 rfl)
  have f4 := hB3.free 4
  have f5 := (hS4.blk 0 rfl).free 5
  have hwr := HWR.out
  dsimp only at c4 c5 d5
  have e1 : (s.ctl 2).clr = s.clr := rfl
  have e2 : (s.ctl 2).k = s.k := rfl
  rw [e1] at c5 d5
  rw [e2] at c4
  obtain ⟨n1, hn1⟩ : ∃ n1, s.clr + 1 = n1 := ⟨_, rfl⟩
  rw [hn1] at hwr HS5
  clear hS hS3 hS4 hS5 HL hB3 HWR e1 e2 hn1
  go_wp2_with fail
  go_end0
  exact ⟨rfl, HS5.out⟩
theorem shr_pos (c w : Nat) : (0 < (c : Int) / 2 ^ w) ↔ 2 ^ w ≤ c := by
  have e : ((c : Int) / 2 ^ w) = ((c / 2 ^ w : Nat) : Int) := by simp
  rw [e]
  have h2 := Nat.two_pow_pos w
  have : 0 < c / 2 ^ w ↔ 2 ^ w ≤ c := Nat.div_pos_iff.trans ⟨fun h => h.2, fun h => ⟨h2, h⟩⟩
  omega
set_option maxRecDepth 100000 in
theorem wput_cc {W w : World} (q qt qo : Nat) (s : EH) (c : Nat) (h : St W w (EwL q qt qo s)) (hc : c < 8192) (h9 : 9 ≤ s.w) (hw : s.w ≤ 13) (hb : s.bs.length ≤ 100000000000) (hk : s.k ≤ 1000000000000) : Calls Try.prog 50 #[.pointer (some ⟨q, 0, none⟩), .int .i64 c] w fun e w' =>
    e = .returned (.tuple #[]) ∧ St W w' (EwL q qt qo (s.put c)) := by
  unfold EH.put
  obtain ⟨R, hR⟩ : ∃ R, EH.grow c 4 s = R := ⟨_, rfl⟩
  have HR := Lib.hid hR
  rw [hR]
  have HS := Lib.hid h
  have HC := Lib.hid hc
  clear h hR
  go_enter Try.func50, Try.ntmps50
  go_wp2_with fail
  go_loopg [] 4 (fun g wr => ∃ s' : EH, Hid (St W wr (EwL q qt qo s')) ∧ Hid (EH.grow c g s' = R) ∧ 9 ≤ s'.w ∧ s'.w ≤ 13 ∧ 13 ≤ s'.w + g ∧ s'.bs.length + 30 * g ≤ 100000000000 + 200 ∧ s'.k ≤ 1000000000000)
  case atStart => exact ⟨s, HS, HR, h9, hw, by omega, by omega, hk⟩
  case round =>
    obtain ⟨s', HS', HR', h9', hw', hg, hb', hk'⟩ := hrel
    obtain ⟨-, c1, -, -, -, -⟩ := wr_cells (HS'.out.blk 0 rfl)
    have hcz := HC.out
    have hrun := HR'.out
    clear hc h9 hw hb hk HS HR
    by_cases hp : 2 ^ s'.w ≤ c
    · have t1 : 0 < (c : Int) / 2 ^ s'.w := (shr_pos _ _).2 hp
      have hw2 : s'.w < 13 := by
        rcases Nat.lt_or_ge s'.w 13 with h1 | h1
        · exact h1
        · have : 2 ^ 13 ≤ 2 ^ s'.w := Nat.pow_le_pow_right (by decide) h1; omega
      obtain ⟨f, rfl⟩ : ∃ f, gk = f + 1 := ⟨gk - 1, by omega⟩
      rw [EH.grow, if_pos hp] at hrun
      have HRUN := Lib.hid hrun
      have HCT := Lib.hid (wcontrol_c q qt qo s' 1 HS'.out (by decide) hw' (by omega))
      have hwr : IntKind.i64.wrap ((s'.w : Int) + 1) = ((s'.w + 1 : Nat) : Int) := by rw [IntKind.wrap_i64]; omega
      have HWR := Lib.hid hwr
      clear hrun hp HS' HR' hcz hwr
      go_wp2_with fail
      refine HCT.out.mono ?_; rintro e w2 ⟨rfl, hS⟩
      have hB := hS.blk 0 rfl
      obtain ⟨-, c1, -, -, -, -⟩ := wr_cells hB
      have g1 := hB.free 1
      have HS2 : Hid (St W (w2.setCell ⟨q, 1, none⟩ (.int .i64 ((s'.w + 1 : Nat) : Int))) (EwL q qt qo s'.wider)) := hS.setBox 0 rfl 1 (.int .i64 ((s'.w + 1 : Nat) : Int))
      have e1 : (s'.ctl 1).w = s'.w := rfl
      rw [e1] at c1
      have hwr := HWR.out
      obtain ⟨n1, hn1⟩ : ∃ n1, s'.w + 1 = n1 := ⟨_, rfl⟩
      rw [hn1] at hwr HS2
      have HN1 := Lib.hid hn1
      clear hS hB e1 HCT HWR hn1 t1
      go_wp2_with fail
      go_roundg f
      case rel =>
        have hbl : s'.wider.bs.length = s'.bs.length + s'.w + s'.w := by
          show ((s'.bs ++ bitsOf 256 s'.w) ++ bitsOf 1 s'.w).length = _
          simp only [List.length_append, bitsOf_length]
        exact ⟨s'.wider, HS2, HRUN, by show 9 ≤ s'.w + 1; omega, by show s'.w + 1 ≤ 13; omega, by show 13 ≤ s'.w + 1 + f; omega, by omega, hk'⟩
      case measure => omega
    · have t1 : ¬ 0 < (c : Int) / 2 ^ s'.w := fun h => hp ((shr_pos _ _).1 h)
      have hrun2 : s' = R := by
        cases gk with
        | zero => exact hrun
        | succ f => rw [EH.grow, if_neg hp] at hrun; exact hrun
      subst hrun2
      obtain ⟨-, d1, -, d3, -, -⟩ := wr_cells (HS'.out.blk 0 rfl)
      have HP := Lib.hid (st_put (HS'.out.read ((Keep.refl [] wr).drew)) 2 rfl c s'.w (by omega) (by omega) (by omega))
      have HKK := Lib.hid hk'
      have hcw : IntKind.u32.wrap (c : Int) = c := by rw [IntKind.wrap_u32]; omega
      clear hrun HR' c1 hk' hb' hg HS' hp
      go_wp2_with fail
      go_still_tail 11, (by kernel_rfl)
      change wpList _ _ _ _ _ wr.drew
      clear d1 d3
      generalize wr.drew = w1 at *
      go_wp2_with fail
      refine HP.out.mono ?_; rintro e w2 ⟨rfl, hS⟩
      have hS2 : St W w2 (EwL q qt qo { s' with bs := s'.bs ++ bitsOf c s'.w }) := hS
      have hB := hS2.blk 0 rfl
      obtain ⟨-, -, -, -, c4, -⟩ := wr_cells hB
      have g4 := hB.free 4
      dsimp only at c4
      have HS3 : Hid (St W (w2.setCell ⟨q, 4, none⟩ (.int .i64 ((s'.k + 1 : Nat) : Int))) (EwL q qt qo (s'.code c))) := hS2.setBox 0 rfl 4 (.int .i64 ((s'.k + 1 : Nat) : Int))
      have hwr : IntKind.i64.wrap ((s'.k : Int) + 1) = ((s'.k + 1 : Nat) : Int) := by have := HKK.out; rw [IntKind.wrap_i64]; omega
      obtain ⟨n1, hn1⟩ : ∃ n1, s'.k + 1 = n1 := ⟨_, rfl⟩
      rw [hn1] at hwr HS3
      clear hS hS2 hB HP hn1 hcw t1
      go_wp2_with fail
      go_end0
      exact ⟨rfl, HS3.out⟩
end Go.Proofs.Ytkefidbokeifdaa
namespace Go.Proofs.Ytkefidbokeifdaa
set_option linter.unusedVariables false
set_option linter.unusedSimpArgs false
open Go.ChangeShapes Go.WideShapes Go.ChangeAt Go.RowKit

theorem St.tok {W w : World} {Ps : List Ob} (h : St W w Ps) (i : Nat) {q : Nat} {t : LT} (hi : Ps[i]? = some (Ob.tab q t)) : t.ok := by
  obtain ⟨bs, h1⟩ := h.tab i hi; exact h1.ok
theorem child_lt {s : LT} (hs : s.ok) (p : Int) (b : UInt8) : s.child p b = -1 ∨ ∃ c : Nat, s.child p b = c ∧ c < 8192 := by
  unfold LT.child
  cases hf : s.rows.find? fun r => decide ((r.par : Int) = p ∧ r.byt = b) with
  | none => exact .inl rfl
  | some r => have := hs.all r (List.mem_of_find?_eq_some hf); exact .inr ⟨r.code, rfl, by omega⟩
set_option maxRecDepth 100000 in
theorem known_c {W w : World} (q qt qo : Nat) (s : EH) (v : Value) (b : List UInt8) (h : St W w (EwL q qt qo s)) (hb : Bs W v b) (hbn : b ≠ []) (hl : b.length ≤ 10000000) : Calls Try.prog 61 #[.pointer (some ⟨q, 0, none⟩), v] w fun e w' =>
    e = .returned (.tuple #[.int .i64 (s.known b).1, .int .i64 (s.known b).2]) ∧ St W w' (EwL q qt qo s) := by
  have hpos : 0 < b.length := List.length_pos_iff.2 hbn
  obtain ⟨g, off, cp, rfl, cell0⟩ := (hb.keep h.kp (by simp)).spot 0 hpos
  have hhd : b[0] = b.headD 0 := by cases b with | nil => exact absurd rfl hbn | cons a l => rfl
  rw [hhd, Nat.add_zero] at cell0
  have hb0 := (b.headD 0).toNat_lt
  obtain ⟨R, hR⟩ : ∃ R, s.known b = R := ⟨_, rfl⟩
  rw [hR]
  have hd1 : b.tail = b.drop 1 := by cases b <;> rfl
  unfold EH.known at hR
  rw [hd1] at hR
  have HTOK := Lib.hid (h.tok 1 rfl)
  generalize (b.headD 0).toNat = c0 at cell0 hR hb0
  have HR := Lib.hid hR
  have HS := Lib.hid h
  have HB := Lib.hid hb
  clear hhd hR h hb hbn hd1
  go_enter Try.func61, Try.ntmps61
  go_wp2_with fail
  go_loopw [6, 7] (fun cv nv wr => ∃ c n : Nat, cv = .int .i64 c ∧ nv = .int .i64 n ∧ c < 8192 ∧ 1 ≤ n ∧ n ≤ b.length ∧ Hid (St W wr (EwL q qt qo s)) ∧ Hid (kn s.t (b.drop n) c n = R)) (fun _ nv _ => b.length - (intOf nv).toNat)
  case atStart => exact ⟨c0, 1, rfl, rfl, by omega, by omega, by omega, HS, HR⟩
  case round =>
    obtain ⟨c, n, rfl, rfl, hc, hn1, hn, HSR, HRR⟩ := hrel
    clear cell0 HS HR hb0
    by_cases hlt : n < b.length
    · obtain ⟨g2, off2, cp2, e2, cell⟩ := (HB.out.keep HSR.out.kp (by simp)).spot n hlt
      simp only [Value.slice.injEq, Option.some.injEq, Addr.mk.injEq] at e2
      obtain ⟨⟨rfl, rfl, -⟩, -, rfl⟩ := e2
      obtain ⟨p0, -, -, -, -, -⟩ := wr_cells (HSR.out.blk 0 rfl)
      have HCH := Lib.hid (st_lz_child (HSR.out.read ((Keep.refl [] wr).drew)) 1 rfl c b[n] (wf64 (by omega)))
      have hr := HRR.out
      rw [List.drop_eq_getElem_cons hlt, kn] at hr
      generalize b[n] = ch at cell HCH hr
      have hcl := child_lt HTOK.out c ch
      obtain ⟨z, hz⟩ : ∃ z, s.t.child (c : Nat) ch = z := ⟨_, rfl⟩
      rw [hz] at hcl HCH hr
      clear hz HRR
      rcases hcl with rfl | ⟨z, rfl, hz2⟩
      · rw [if_pos (by decide)] at hr
        have HR := Lib.hid hr
        clear hr
        go_wp2_with fail
        go_still_tail 10, (by kernel_rfl)
        change wpList _ _ _ _ _ wr.drew
        clear cell p0
        generalize wr.drew = w1 at *
        go_wp2_with fail
        refine HCH.out.mono ?_; rintro e w2 ⟨rfl, hS⟩
        have HS2 := Lib.hid hS
        clear hS HCH HSR
        go_wp2_with fail
        go_ret2
        rw [← HR.out]
        exact ⟨rfl, HS2.out⟩
      · rw [if_neg (by omega), Int.toNat_natCast] at hr
        have HR := Lib.hid hr
        have t1 : ((z : Int) == -1) = false := by simp
        clear hr
        go_wp2_with fail
        go_still_tail 10, (by kernel_rfl)
        change wpList _ _ _ _ _ wr.drew
        clear cell p0
        generalize wr.drew = w1 at *
        go_wp2_with fail
        refine HCH.out.mono ?_; rintro e w2 ⟨rfl, hS⟩
        have HS2 := Lib.hid hS
        clear hS HCH HSR
        go_wp2_with fail
        go_roundw
        case rel => exact ⟨z, n + 1, rfl, by go_num, hz2, by omega, by omega, HS2, HR⟩
        case measure => simp [intOf]; omega
    · obtain rfl : n = b.length := by omega
      have hr := HRR.out
      rw [List.drop_length, kn] at hr
      have HR := Lib.hid hr
      clear hr HRR
      go_wp2_with fail
      go_ret2
      rw [← HR.out]
      exact ⟨rfl, HSR.out⟩
theorem known_lt {s : EH} (ht : s.t.ok) {b : List UInt8} (hb : b ≠ []) : (s.known b).1 < 8192 ∧ (s.known b).2 ≤ b.length := by
  obtain ⟨b0, r, rfl⟩ : ∃ b0 r, b = b0 :: r := by cases b with | nil => exact absurd rfl hb | cons b0 r => exact ⟨b0, r, rfl⟩
  obtain ⟨v, h1, h2, h3⟩ := kn_spec ht r b0.toNat 1 [b0] (text_byte s.t b0)
  have e : s.known (b0 :: r) = kn s.t r b0.toNat 1 := rfl
  rw [e]
  have hb := text_big ht h1
  have hl := h2.length_le
  exact ⟨by omega, by rw [h3, List.length_cons]; omega⟩
theorem aheadT_len {t : LT} (ht : t.ok) {last : Int} {x : List UInt8} (h : aheadT t last = some x) : x.length ≤ 7937 := by
  obtain ⟨-, -, u, h1, rfl⟩ := aheadT_spec ht h
  have := text_len ht h1
  simp; omega
set_option maxRecDepth 100000 in
theorem match_c {W w : World} (q qt qo : Nat) (s : EH) (v : Value) (b : List UInt8) (h : St W w (EwL q qt qo s)) (hb : Bs W v b) (hbn : b ≠ []) (hl : b.length ≤ 10000000) (hls : -1 ≤ s.last ∧ s.last < 8192) : Calls Try.prog 49 #[.pointer (some ⟨q, 0, none⟩), v] w fun e w' =>
    e = .returned (.tuple #[.int .i64 (s.mat b).1, .int .i64 (s.mat b).2]) ∧ St W w' (EwL q qt qo s) := by
  have HK := Lib.hid (known_c q qt qo s v b h hb hbn hl)
  have hkb : (s.known b).1 < 8192 ∧ (s.known b).2 ≤ b.length := known_lt (h.tok 1 rfl) hbn
  obtain ⟨R, hR⟩ : ∃ R, s.mat b = R := ⟨_, rfl⟩
  rw [hR]
  unfold EH.mat at hR
  have HTOK := Lib.hid (h.tok 1 rfl)
  obtain ⟨a, cp, rfl, hc1, hc2⟩ := hb.shape
  obtain ⟨⟨c, n⟩, hkn⟩ : ∃ K, s.known b = K := ⟨_, rfl⟩
  rw [hkn] at HK hkb hR
  dsimp only at HK hkb hR
  have HB := Lib.hid hb
  have HLS := Lib.hid hls
  obtain ⟨hkb1, hkb2⟩ := hkb
  clear hkn h hb hbn hls
  go_enter Try.func49, Try.ntmps49
  go_wp2_with fail
  refine HK.out.mono ?_; rintro e w2 ⟨rfl, hS⟩
  have hBx := hS.blk 0 rfl
  obtain ⟨p0, -, p2, -, -, -⟩ := wr_cells hBx
  obtain ⟨bt, hT⟩ := hS.tab 1 rfl
  have HA := Lib.hid (ahead_c w2 q _ _ qt bt s.t s.last hBx rfl rfl HLS.out hT)
  have HS := Lib.hid hS
  obtain ⟨A, hA⟩ : ∃ A, aheadT s.t s.last = A := ⟨_, rfl⟩
  rw [hA] at HA hR
  have HAA := Lib.hid hA
  clear hS hBx hT HK p0 p2 hA
  go_wp2_with fail
  refine HA.out.mono ?_; rintro e w3 ⟨v3, rfl, hb3, k3, hf3⟩
  have HS3 := Lib.hid (HS.out.read k3)
  cases A with
  | none =>
    dsimp only at hR
    have HR := Lib.hid hR
    simp only [Option.isSome_none]
    obtain ⟨a3, c3, rfl, -, -⟩ := hb3.shape
    clear hR hb3 k3 hf3 HA HS
    go_wp2_with fail
    go_ret2
    rw [← HR.out]
    exact ⟨rfl, HS3.out⟩
  | some x =>
    dsimp only at hR
    simp only [Option.isSome_some, Option.getD_some] at hb3 ⊢
    obtain ⟨a3, c3, rfl, -, -⟩ := hb3.shape
    have hxl := aheadT_len HTOK.out HAA.out
    by_cases hn : n < x.length
    · have t1 : decide ((n : Int) < (x.length : Int)) = true := by simp; omega
      have HP := Lib.hid (hasprefix_c w3 _ _ b x (HB.out.keep HS3.out.kp (by simp)) hb3)
      obtain ⟨i3, hi3⟩ := HS3.out.tab 1 rfl
      have HNX := Lib.hid (lz_next w3 qt i3 s.t hi3)
      obtain ⟨p0, -, -, -, -, -⟩ := wr_cells (HS3.out.blk 0 rfl)
      by_cases hp : x <+: b
      · rw [if_pos ⟨hn, hp⟩] at hR
        have HR := Lib.hid hR
        obtain ⟨⟨m, hm, -, -, -⟩, -⟩ := aheadT_spec HTOK.out HAA.out
        rw [hm, Int.toNat_natCast] at hR
        have HR := Lib.hid hR
        rw [hm] at HNX
        have hdp : decide (x <+: b) = true := by simpa using hp
        rw [hdp] at HP
        clear hR hb3 k3 hf3 HA HS hi3 hm hdp hp
        generalize x.length = xl at *
        go_wp2_with fail
        refine HP.out.mono ?_; rintro e w4 ⟨rfl, rfl⟩
        clear HP
        go_wp2_with fail
        refine HNX.out.mono ?_; rintro e w5 ⟨rfl, k5⟩
        have HS5 := Lib.hid (HS3.out.read k5)
        clear HNX k5 p0
        go_wp2_with fail
        go_ret2
        rw [← HR.out]
        exact ⟨rfl, HS5.out⟩
      · rw [if_neg (fun h => hp h.2)] at hR
        have HR := Lib.hid hR
        have hdp : decide (x <+: b) = false := by simpa using hp
        rw [hdp] at HP
        clear hR hb3 k3 hf3 HA HS hi3 hdp hp HNX
        generalize x.length = xl at *
        go_wp2_with fail
        refine HP.out.mono ?_; rintro e w4 ⟨rfl, rfl⟩
        clear HP
        go_wp2_with fail
        go_ret2
        rw [← HR.out]
        exact ⟨rfl, HS3.out⟩
    · have t1 : decide ((n : Int) < (x.length : Int)) = false := by simp; omega
      rw [if_neg (fun h => hn h.1)] at hR
      have HR := Lib.hid hR
      clear hR hb3 k3 hf3 HA HS
      generalize x.length = xl at *
      go_wp2_with fail
      go_ret2
      rw [← HR.out]
      exact ⟨rfl, HS3.out⟩
end Go.Proofs.Ytkefidbokeifdaa
namespace Go.Proofs.Ytkefidbokeifdaa
set_option linter.unusedVariables false
set_option linter.unusedSimpArgs false
open Go.ChangeShapes Go.WideShapes Go.ChangeAt Go.RowKit

theorem EHok.small {s : EH} {m : Nat} (h : EHok s m) (hm : m ≤ 10000000) : s.bs.length ≤ 10000000000 ∧ s.clr ≤ 10000000 ∧ s.k ≤ 10000000 := by
  have h1 := h.cost
  have h2 := h.clrs
  have h3 := h.w13
  refine ⟨by omega, by omega, by omega⟩
theorem EHok.front {s : EH} {m : Nat} (h : EHok s m) : EHok s.front m := by
  unfold EH.front
  split
  · rename_i hc; exact h.clear hc.2
  · exact h
theorem EHok.grow {c : Nat} (hc : c < 8192) (f : Nat) {s : EH} {m : Nat} (h : EHok s m) : EHok (EH.grow c f s) m ∧ (EH.grow c f s).t = s.t ∧ (EH.grow c f s).last = s.last := by
  induction f generalizing s with
  | zero => exact ⟨h, rfl, rfl⟩
  | succ f ih =>
    rw [EH.grow]
    split
    · rename_i hg
      have hw : s.w < 13 := by
        rcases Nat.lt_or_ge s.w 13 with h1 | h1
        · exact h1
        · have : 2 ^ 13 ≤ 2 ^ s.w := Nat.pow_le_pow_right (by decide) h1; omega
      exact ih (h.wider hw)
    · exact ⟨h, rfl, rfl⟩
theorem EHok.step {s : EH} {m : Nat} (h : EHok s m) {b : List UInt8} (hb : b ≠ []) : EHok (s.step b) (m + (s.front.mat b).2) := by
  obtain ⟨q1, q2, q3, q4, _⟩ := mat_spec h.front.tok hb
  exact (h.front.grow q1 4).1.tell q1 _ q3
set_option maxRecDepth 100000 in
set_option maxHeartbeats 2000000 in
theorem write_c (w : World) (v : Value) (l : List UInt8) (hb : Bs w v l) (hl : l.length ≤ 10000000) : Calls Try.prog 31 #[v] w fun e w' => ∃ q qt qo, e = .returned (.pointer (some ⟨q, 0, none⟩)) ∧ St w w' (EwL q qt qo (ehAll l)) ∧ (ehAll l).bs.length ≤ 10000000000 := by
  have HBG := Lib.hid (st_begin (St.nil w))
  obtain ⟨D, hD⟩ : ∃ D, ehAll l = D := ⟨_, rfl⟩
  rw [hD]
  have HD : Hid (EH.run l.length EH.start l = D) := hD
  have HB := Lib.hid hb
  clear hD
  obtain ⟨a, cp, rfl, hcp, hcp2⟩ := hb.shape
  clear hb
  go_enter Try.func31, Try.ntmps31
  go_wp2_with fail
  refine HBG.out.mono ?_; rintro e w2 ⟨qt, rfl, hS, -⟩
  have HNW := Lib.hid (st_new hS)
  clear HBG hS
  go_wp2_with fail
  refine HNW.out.mono ?_; rintro e w3 ⟨qo, rfl, hS, -⟩
  have hS4 := hS.pushBox (wrCells qt qo EH.start) 72
  clear HNW hS
  go_wp2_with fail
  have HS4 : Hid (St w (w3.alloc (.cells #[.pointer (some ⟨qt, 0, none⟩), .int .i64 9, .int .i64 (-1), .pointer (some ⟨qo, 0, none⟩), .int .i64 0, .int .i64 0] 72)) (EwL w3.heap.size qt qo EH.start)) :=
    hS4.sub _ (fun j => [2, 0, 1].getD j 0) (fun j => [1, 2, 0].getD j 0) (fun j hj => by
      rcases j with _ | _ | _ | j
      · exact ⟨rfl, rfl⟩
      · exact ⟨rfl, rfl⟩
      · exact ⟨rfl, rfl⟩
      · simp [EwL] at hj; omega)
  clear hS4
  generalize w3.alloc (.cells #[.pointer (some ⟨qt, 0, none⟩), .int .i64 9, .int .i64 (-1), .pointer (some ⟨qo, 0, none⟩), .int .i64 0, .int .i64 0] 72) = w4 at HS4 ⊢
  generalize w3.heap.size = q at HS4 ⊢
  have HOS : Hid (EHok EH.start 0) := ⟨LT.new_ok, by simp [EH.start], by simp [EH.start], by simp [EH.start], by simp [EH.start], by simp [EH.start]⟩
  go_loopg [0] l.length (fun g bv wr => ∃ (s : EH) (m : Nat) (b : List UInt8) (a' : Option Addr) (cp' : Nat), bv = .slice a' b.length cp' ∧ Hid (St w wr (EwL q qt qo s)) ∧ Hid (EHok s m) ∧ m + b.length ≤ 10000000 ∧ Hid (Bs w (.slice a' b.length cp') b) ∧ Hid (EH.run g s b = D) ∧ b.length ≤ g)
  case atStart => exact ⟨EH.start, 0, l, a, cp, rfl, HS4, HOS, by omega, HB, HD, Nat.le_refl _⟩
  case round =>
    obtain ⟨s, m, b, a', cp', rfl, HS, HOK, hm, HBB, HRUN, hg⟩ := hrel
    clear HS4 HD HB hcp hcp2
    have hrun := HRUN.out
    by_cases hbn : b = []
    · subst hbn
      have hDs : s = D := by
        cases gk with
        | zero => exact hrun
        | succ f => rw [EH.run, if_pos rfl] at hrun; exact hrun
      subst hDs
      clear hrun HRUN
      simp only [List.length_nil] at hm hg ⊢
      go_wp2_with fail
      go_ret
      exact ⟨q, qt, qo, rfl, HS.out, (HOK.out.small (by omega)).1⟩
    · have hpos : 0 < b.length := List.length_pos_iff.2 hbn
      obtain ⟨f, rfl⟩ : ∃ f, gk = f + 1 := ⟨gk - 1, by omega⟩
      rw [EH.run, if_neg hbn] at hrun
      have HRN := Lib.hid hrun
      have HBN := Lib.hid hbn
      obtain ⟨bz, hbz⟩ : ∃ bz : Bool, decide (s.t.next = -1 ∧ 32 ≤ s.k) = bz := ⟨_, rfl⟩
      have HBZ := Lib.hid hbz
      obtain ⟨i1, hi1⟩ := HS.out.tab 1 rfl
      have HNX := Lib.hid (lz_next wr qt i1 s.t hi1)
      obtain ⟨p0, -, -, -, -, -⟩ := wr_cells (HS.out.blk 0 rfl)
      clear hrun HRUN hi1 hbz hbn
      go_upto_region 3 with fail
      go_cut [26] (fun cv wx => cv = .bool bz ∧ Hid (St w wx (EwL q qt qo s)))
      case first =>
        have hbz := HBZ.out
        by_cases h1 : s.t.next = -1
        · rw [h1] at HNX
          by_cases h2 : 32 ≤ s.k
          · have e : bz = true := by rw [← hbz]; simpa using ⟨h1, h2⟩
            subst e
            have t2 : decide ((32 : Int) ≤ (s.k : Int)) = true := by simp; omega
            clear hbz h1 h2 hg
            go_wp2_with fail
            refine HNX.out.mono ?_; rintro e w5 ⟨rfl, k5⟩
            have hS5 := HS.out.read k5
            obtain ⟨-, -, -, -, c4, -⟩ := wr_cells (hS5.blk 0 rfl)
            have HS5 := Lib.hid hS5
            clear k5 hS5 HNX p0
            go_wp2_with fail
            go_meet
            exact ⟨rfl, HS5⟩
          · have e : bz = false := by rw [← hbz]; simp [h2]
            subst e
            have t2 : decide ((32 : Int) ≤ (s.k : Int)) = false := by simp; omega
            clear hbz h1 h2 hg
            go_wp2_with fail
            refine HNX.out.mono ?_; rintro e w5 ⟨rfl, k5⟩
            have hS5 := HS.out.read k5
            obtain ⟨-, -, -, -, c4, -⟩ := wr_cells (hS5.blk 0 rfl)
            have HS5 := Lib.hid hS5
            clear k5 hS5 HNX p0
            go_wp2_with fail
            go_meet
            exact ⟨rfl, HS5⟩
        · have e : bz = false := by rw [← hbz]; simp [h1]
          subst e
          have t1 : (s.t.next == -1) = false := by simpa using h1
          clear hbz h1 hg
          go_wp2_with fail
          refine HNX.out.mono ?_; rintro e w5 ⟨rfl, k5⟩
          have HS5 := Lib.hid (HS.out.read k5)
          clear k5 HNX p0
          go_wp2_with fail
          go_meet
          exact ⟨rfl, HS5⟩
      case rest =>
      obtain ⟨rfl, HS5⟩ := hcut
      clear HNX p0 HS
      go_upto_if 26 with fail
      go_cut [] (fun wx => Hid (St w wx (EwL q qt qo s.front)))
      case first =>
        have hbz := HBZ.out
        cases bz with
        | true =>
          have hfr : s.front = s.clear := by unfold EH.front; rw [if_pos (by simpa using hbz)]
          have hsm := HOK.out.small (by omega)
          have HCL := Lib.hid (wclear_c q qt qo s HS5.out HOK.out.w13 (by omega) (by omega))
          have HFR := Lib.hid hfr
          clear hbz hfr hsm hg
          go_wp2_with fail
          refine HCL.out.mono ?_; rintro e w6 ⟨rfl, hS6⟩
          have HS6 := Lib.hid hS6
          clear hS6 HCL
          go_wp2_with fail
          go_meet
          rw [HFR.out]
          exact HS6
        | false =>
          have hfr : s.front = s := by unfold EH.front; rw [if_neg (by simpa using hbz)]
          have HFR := Lib.hid hfr
          clear hbz hfr hg
          go_wp2_with fail
          go_meet
          rw [HFR.out]
          exact HS5
      case rest =>
      have HS6 := hcut
      clear HS5 HBZ hcut
      generalize wc = w6 at *
      have hof := HOK.out.front
      have hsm := hof.small (by omega)
      obtain ⟨q1, q2, q3, q4, -⟩ := mat_spec hof.tok HBN.out
      have HMT := Lib.hid (match_c q qt qo s.front _ b HS6.out HBB.out HBN.out (by omega) hof.last)
      have hst : s.step b = (s.front.put (s.front.mat b).1).pass (s.front.mat b).1 (b.headD 0) := rfl
      have HOS2 := Lib.hid (HOK.out.step HBN.out)
      have hrn := HRN.out
      obtain ⟨s1, hs1⟩ : ∃ s1, s.front = s1 := ⟨_, rfl⟩
      rw [hs1] at HMT q1 q2 q3 q4 hst HOS2 hrn hof hsm
      obtain ⟨⟨c, n⟩, hcn⟩ : ∃ K, s1.mat b = K := ⟨_, rfl⟩
      rw [hcn] at HMT q1 q2 q3 q4 hst HOS2 hrn
      dsimp only at HMT q1 q2 q3 q4 hst HOS2 hrn
      have HRN2 := Lib.hid hrn
      have HST := Lib.hid hst
      have HOF := Lib.hid hof
      have HSM := Lib.hid hsm
      have HQ1 := Lib.hid q1
      clear hs1 hcn HRN hrn hst hof hsm q1 q2 HS6 HOK
      go_wp2_with fail
      refine HMT.out.mono ?_; rintro e w7 ⟨rfl, hS7⟩
      have HPU := Lib.hid (wput_cc q qt qo s1 c hS7 HQ1.out HOF.out.w9 HOF.out.w13 (by have := HSM.out; omega) (by have := HSM.out; omega))
      clear hS7 HMT
      go_wp2_with fail
      refine HPU.out.mono ?_; rintro e w8 ⟨rfl, hS8⟩
      obtain ⟨g2, off2, cp2, e2, cell⟩ := (HBB.out.keep hS8.kp (by simp)).spot 0 hpos
      simp only [Value.slice.injEq] at e2
      obtain ⟨rfl, -, rfl⟩ := e2
      have hhd : b[0] = b.headD 0 := by
        have := HBN.out
        cases b with | nil => exact absurd rfl this | cons a l => rfl
      rw [hhd, Nat.add_zero] at cell
      have hg2 := HOF.out.grow HQ1.out 4
      have hl2 : -1 ≤ (s1.put c).last ∧ (s1.put c).last < 8192 := by
        show -1 ≤ (EH.grow c 4 s1).last ∧ (EH.grow c 4 s1).last < 8192
        exact hg2.1.last
      have HPS := Lib.hid (st_pass (hS8.read ((Keep.refl [] w8).drew)) 0 1 q _ _ qt (s1.put c).t (s1.put c).last c (b.headD 0) rfl rfl (by decide) rfl rfl hl2)
      have HST2 : Hid (∀ wx, St w wx (((EwL q qt qo (s1.put c)).set 1 (Ob.tab qt ((s1.put c).t.add (s1.put c).last (b.headD 0)).2)).set 0 (Ob.box q ((wrCells qt qo (s1.put c)).setIfInBounds 2 (.int .i64 c)) 72)) → St w wx (EwL q qt qo (s.step b))) := by
        intro wx hx
        rw [HST.out]
        exact hx
      generalize b.headD 0 = ch at cell HPS HST2
      clear hS8 HPU hhd hl2 hg2
      go_wp2_with fail
      go_still_tail 7, (by kernel_rfl)
      change wpList _ _ _ _ _ w8.drew
      clear cell
      generalize w8.drew = w9 at *
      go_wp2_with fail
      refine HPS.out.mono ?_; rintro e w10 ⟨rfl, hS10⟩
      have HS10 := Lib.hid (HST2.out _ hS10)
      obtain ⟨-, cpb, -⟩ := HBB.out.shape
      clear hS10 HPS HST2
      have hcb : b.length ≤ cp' := by
        obtain ⟨x1, x2, e9, hcb, -⟩ := HBB.out.shape
        simp only [Value.slice.injEq] at e9
        omega
      obtain ⟨hbq, -⟩ := HBB.out.cutOf n b.length cp' q4 (Nat.le_refl _) hcb (Nat.le_refl _)
      rw [show (b.drop n).take (b.length - n) = b.drop n from List.take_of_length_le (by simp)] at hbq
      unfold sliced at hbq
      have hld : b.length - n = (b.drop n).length := List.length_drop.symm
      have HLD := Lib.hid hld
      rw [hld] at hbq
      by_cases hcn : cp' = n
      · rw [if_pos hcn, show cp' - n = 0 by omega] at hbq
        have HBQ := Lib.hid hbq
        clear hbq hld
        go_wp2_with fail
        go_roundg f
        case rel => exact ⟨s.step b, m + n, b.drop n, _, _, by rw [← HLD.out], HS10, HOS2, by rw [← HLD.out]; omega, HBQ, HRN2, by rw [← HLD.out]; omega⟩
        case measure => omega
      · rw [if_neg hcn] at hbq
        have e5 : Option.map (fun x : Addr => x.add (n * 1)) (some ⟨g2, off2, none⟩) = some ⟨g2, off2 + n, none⟩ := by simp [Addr.add]; omega
        rw [e5] at hbq
        have HBQ := Lib.hid hbq
        clear hbq hld e5
        go_wp2_with fail
        go_roundg f
        case rel => exact ⟨s.step b, m + n, b.drop n, _, _, by rw [← HLD.out], HS10, HOS2, by rw [← HLD.out]; omega, HBQ, HRN2, by rw [← HLD.out]; omega⟩
        case measure => omega
theorem sh_encode (w : World) (v : Value) (l : List UInt8) (hb : Bs w v l) (hl : l.length ≤ 10000000) :
    Calls Try.prog 17 #[v] w fun e w' => ∃ v', e = .returned v' ∧ Bs w' v' (shEnc l) ∧ Keep [] w w' := by
  have HW := Lib.hid (write_c w v l hb hl)
  clear hb
  go_enter Try.func17, Try.ntmps17
  go_wp2_with fail
  refine HW.out.mono ?_; rintro e w2 ⟨q, qt, qo, rfl, hS, hsz⟩
  obtain ⟨-, -, -, c3, -, -⟩ := wr_cells (hS.blk 0 rfl)
  have HB := Lib.hid (st_wbytes hS 2 rfl (by omega))
  have HK := Lib.hid hS.kp
  clear HW hS
  go_wp2_with fail
  refine HB.out.mono ?_; rintro e w3 ⟨v3, l3, rfl, ho, hl3, k3, -⟩
  have e3 : l3 = shEnc l := toBits_inj _ _ (by rw [hl3]; exact (toBits_ofBits _).symm)
  subst e3
  have HO := Lib.hid ho
  have HK3 := Lib.hid (HK.out.trans k3 (by simp))
  clear ho hl3 k3 HB c3 hsz
  go_wp2_with fail
  go_ret
  exact ⟨_, rfl, HO.out.bs, HK3.out⟩
theorem sh_clears (w : World) (v : Value) (l : List UInt8) (hb : Bs w v l) (hl : l.length ≤ 10000000) :
    Calls Try.prog 18 #[v] w fun e w' => e = .returned (.int .i64 (shClr l)) ∧ Keep [] w w' := by
  have HW := Lib.hid (write_c w v l hb hl)
  clear hb
  go_enter Try.func18, Try.ntmps18
  go_wp2_with fail
  refine HW.out.mono ?_; rintro e w2 ⟨q, qt, qo, rfl, hS, hsz⟩
  obtain ⟨-, -, -, -, -, c5⟩ := wr_cells (hS.blk 0 rfl)
  have HK := Lib.hid hS.kp
  clear HW hS hsz
  go_wp2_with fail
  go_ret
  exact ⟨rfl, HK.out⟩
end Go.Proofs.Ytkefidbokeifdaa
namespace Go.Proofs.Ytkefidbokeifdaa
set_option linter.unusedVariables false
set_option linter.unusedSimpArgs false
set_option maxRecDepth 100000
open Go.ChangeShapes Go.WideShapes Go.ChangeAt Go.RowKit

theorem dec97 : shDec [97, 0] 1 = ([97], 1, 0) := by decide +kernel
theorem lives11_c (w : World) : Calls Try.prog 13 #[] w fun e w' => e = .returned (.bool true) ∧ Keep [] w w' := by
  have hb : Bs (w.alloc (.cells #[.int .u8 97, .int .u8 0] 5)) (.slice (some ⟨w.heap.size, 0, none⟩) 2 2) [97, 0] := Bs.lit w [97, 0] _ _ rfl rfl (by decide)
  have HD := Lib.hid (sh_decode _ _ _ 1 hb (by decide) (by decide))
  rw [dec97] at HD
  go_enter Try.func13, Try.ntmps13
  go_wp2_with fail
  refine HD.out.mono ?_; rintro e w2 ⟨v2, rfl, hb2, k2⟩
  obtain ⟨b, o, cp, rfl, hc⟩ := hb2.spot 0 (by decide)
  have hc' : w2.cell? ⟨b, o, none⟩ = some (.int .u8 97) := hc
  clear hc
  go_wp2_with fail
  go_ret
  exact ⟨rfl, ((Keep.refl [] w).alloc _).trans k2 (by simp)⟩
set_option maxHeartbeats 1000000 in
theorem shreads_w (W : World) (v0 : Value) (l0 : List UInt8) (h0 : Bs W v0 l0) (size : Int) (hz : (Lit.int .i64 size).wf = true) : Calls Try.prog 3 #[v0, .int .i64 size] W fun e w' => e = .returned (.bool true) ∧ Keep [] W w' := by
  have hz2 : size ≤ 9223372036854775807 := by
    have : -9223372036854775808 ≤ size ∧ size ≤ 9223372036854775807 := by simpa [Lit.wf, IntKind.min, IntKind.max, IntKind.bits, IntKind.signed] using hz
    exact this.2
  have HZ := Lib.hid hz; clear hz
  go_enter Try.func3, Try.ntmps3
  go_wp2_with fail
  refine (cut_c W v0 l0 400 (by decide) h0).mono ?_; rintro e w1 ⟨v1, rfl, h1, -, rfl⟩
  have hlen : (l0.take 400).length ≤ 400 := by rw [List.length_take]; omega
  generalize l0.take 400 = l at h1 hlen
  clear h0
  go_wp2_with fail
  refine (copy_c W v1 l (by omega) h1).mono ?_; rintro e w2 ⟨v2, rfl, h2, k2, b2⟩
  have h1' := h1.keep k2 (by simp)
  go_wp2_with fail
  refine (sh_decode w2 v2 l size h2.bs (by omega) HZ.out).mono ?_; rintro e w3 ⟨v3, rfl, h3, k3⟩
  have h1'' := h1'.keep k3 (by simp)
  have h2' := h2.bs.keep k3 (by simp)
  go_wp2_with fail
  refine (rshdec_c w3 v1 l size h1'' (by omega) hz2).mono ?_; rintro e w4 ⟨v4, rfl, h4, k4, b4⟩
  have h3' := h3.keep k4 (by simp)
  have g1 := h1''.keep k4 (by simp)
  have g2 := h2'.keep k4 (by simp)
  have KK : Keep [] W w4 := ((k2.trans k3 (by simp)).trans k4 (by simp))
  generalize shDec l size = D at *
  obtain ⟨D1, D2, D3⟩ := D
  dsimp only at *
  have s1 := same_c w4 v3 v4 D1 D1 h3' h4.bs
  simp only [decide_true] at s1
  have HS1 := Lib.hid s1; clear s1
  go_wp2_with fail
  refine HS1.out.mono ?_; rintro e w5 ⟨rfl, n5, rfl⟩
  have s2 := same_c (w4.drewN n5) v2 v1 l l (g2.keep ((Keep.refl [] w4).drewN n5) (by simp)) (g1.keep ((Keep.refl [] w4).drewN n5) (by simp))
  simp only [decide_true] at s2
  have HS2 := Lib.hid s2; clear s2
  go_wp2_with fail
  refine HS2.out.mono ?_; rintro e w6 ⟨rfl, n6, rfl⟩
  have K6 : Keep [] W ((w4.drewN n5).drewN n6) := (KK.drewN _).drewN _
  generalize (w4.drewN n5).drewN n6 = w6 at K6 ⊢
  go_wp2_with fail
  refine (lives11_c w6).mono ?_; rintro e w7 ⟨rfl, k7⟩
  go_wp2_with fail
  go_ret
  exact ⟨rfl, K6.trans k7 (by simp)⟩
end Go.Proofs.Ytkefidbokeifdaa
namespace Go.Proofs.Ytkefidbokeifdaa
set_option linter.unusedVariables false
set_option linter.unusedSimpArgs false
set_option maxRecDepth 100000
open Go.ChangeShapes Go.WideShapes Go.ChangeAt Go.RowKit

set_option maxHeartbeats 1000000 in
theorem shcodes_w (W : World) (v0 : Value) (zs0 : List Int) (h0 : Is .i64 W v0 zs0) (size : Int) (hz : (Lit.int .i64 size).wf = true) (ct : Int) (hct : (Lit.int .i64 ct).wf = true) : Calls Try.prog 4 #[v0, .int .i64 size, .int .i64 ct] W fun e w' => e = .returned (.bool true) ∧ Keep [] W w' := by
  have hz2 : size ≤ 9223372036854775807 := by
    have : -9223372036854775808 ≤ size ∧ size ≤ 9223372036854775807 := by simpa [Lit.wf, IntKind.min, IntKind.max, IntKind.bits, IntKind.signed] using hz
    exact this.2
  have HZ := Lib.hid hz; clear hz hct
  go_enter Try.func4, Try.ntmps4
  go_wp2_with fail
  refine (refints_c W v0 zs0 200 (by decide) h0).mono ?_; rintro e w1 ⟨v1, rfl, h1, -, rfl⟩
  have hlen : (zs0.take 200).length ≤ 1000 := by rw [List.length_take]; omega
  generalize zs0.take 200 = zs at h1 hlen
  clear h0
  go_wp2_with fail
  refine (rcodes_c W v1 zs h1 hlen).mono ?_; rintro e w2 ⟨v2, l2, rfl, h2, hl2, k2, b2⟩
  clear h1 hlen
  have hB2 := h2.bs
  obtain ⟨a2, c2, rfl, _⟩ := hB2.shape
  have HW := Lib.hid (within_c ct 0 l2.length w2 (by omega))
  obtain ⟨j, hj⟩ : ∃ j : Nat, max 0 (min ct (l2.length : Int)) = (j : Int) := ⟨(max 0 (min ct (l2.length : Int))).toNat, by omega⟩
  have hj2 : j ≤ l2.length := by omega
  rw [hj] at HW
  obtain ⟨v3, hq3, h3, hw3⟩ := hB2.upto j j rfl hj2
  have hl3 : (l2.take j).length ≤ 10000 := by rw [List.length_take]; omega
  generalize l2.take j = l at h3 hl3
  clear hj
  go_wp2_with fail
  refine HW.out.mono ?_; rintro e w3 ⟨rfl, rfl⟩
  go_wp2_with fail
  refine (sh_decode w2 v3 l size h3 (by omega) HZ.out).mono ?_; rintro e w4 ⟨v4, rfl, h4, k4⟩
  have h3' := h3.keep k4 (by simp)
  go_wp2_with fail
  refine (rshdec_c w4 v3 l size h3' (by omega) hz2).mono ?_; rintro e w5 ⟨v5, rfl, h5, k5, b5⟩
  have h4' := h4.keep k5 (by simp)
  have KK : Keep [] W w5 := ((k2.trans k4 (by simp)).trans k5 (by simp))
  generalize shDec l size = D at *
  obtain ⟨D1, D2, D3⟩ := D
  dsimp only at *
  have s1 := same_c w5 v4 v5 D1 D1 h4' h5.bs
  simp only [decide_true] at s1
  have HS1 := Lib.hid s1; clear s1
  go_wp2_with fail
  refine HS1.out.mono ?_; rintro e w6 ⟨rfl, n6, rfl⟩
  have K6 : Keep [] W (w5.drewN n6) := KK.drewN _
  generalize w5.drewN n6 = w6 at K6 ⊢
  go_wp2_with fail
  refine (lives11_c w6).mono ?_; rintro e w7 ⟨rfl, k7⟩
  go_wp2_with fail
  go_ret
  exact ⟨rfl, K6.trans k7 (by simp)⟩
end Go.Proofs.Ytkefidbokeifdaa
namespace Go.Proofs.Ytkefidbokeifdaa
set_option linter.unusedVariables false
set_option linter.unusedSimpArgs false
set_option maxRecDepth 100000
open Go.ChangeShapes Go.WideShapes Go.ChangeAt Go.RowKit

set_option maxHeartbeats 2000000 in
theorem shback_w (W : World) (v0 : Value) (l0 : List UInt8) (h0 : Bs W v0 l0) : Calls Try.prog 5 #[v0] W fun e w' => e = .returned (.bool true) ∧ Keep [] W w' := by
  go_enter Try.func5, Try.ntmps5
  go_wp2_with fail
  refine (cut_c W v0 l0 1500 (by decide) h0).mono ?_; rintro e w1 ⟨v1, rfl, h1, -, rfl⟩
  have hlen : (l0.take 1500).length ≤ 1500 := by rw [List.length_take]; omega
  generalize l0.take 1500 = l at h1 hlen
  clear h0
  obtain ⟨a1, c1, rfl, _⟩ := h1.shape
  obtain ⟨n, hd, hn1, hn2, hn3⟩ := shEnc_ok l (by omega)
  have hn4 : n ≤ 3000 := by
    rcases shDec_ok (shEnc l) l.length (by omega) with h | h
    · rw [hd] at h; have := h.2.2.1; dsimp only at this; omega
    · rw [hd] at h; exact absurd rfl h.1
  go_wp2_with fail
  refine (copy_c W _ l (by omega) h1).mono ?_; rintro e w2 ⟨v2, rfl, h2, k2, b2⟩
  have i1 := h1.keep k2 (by simp)
  go_wp2_with fail
  refine (sh_encode w2 v2 l h2.bs (by omega)).mono ?_; rintro e w3 ⟨v3, rfl, h3, k3⟩
  have i2 := i1.keep k3 (by simp)
  have j2 := h2.bs.keep k3 (by simp)
  have hwf : (Lit.int .i64 (l.length : Int)).wf = true := by simp [Lit.wf, IntKind.min, IntKind.max, IntKind.bits, IntKind.signed]; omega
  have HD := Lib.hid (sh_decode w3 v3 (shEnc l) l.length h3 (by omega) hwf)
  rw [hd] at HD
  have HR := Lib.hid (fun w' (k : Keep [] w3 w') => rshdec_c w' v3 (shEnc l) l.length (h3.keep k (by simp)) (by omega) (by omega))
  rw [hd] at HR
  generalize hE : shEnc l = E at *
  generalize hC : shClr l = C at *
  obtain ⟨a3, c3, rfl, _⟩ := h3.shape
  clear hd hE hwf
  go_wp2_with fail
  refine HD.out.mono ?_; rintro e w4 ⟨v4, rfl, h4, k4⟩
  have i3 := i2.keep k4 (by simp)
  have j3 := j2.keep k4 (by simp)
  go_wp2_with fail
  refine (HR.out w4 k4).mono ?_; rintro e w5 ⟨v5, rfl, h5, k5, b5⟩
  have i4 := Lib.hid (i3.keep k5 (by simp))
  have j4 := Lib.hid (j3.keep k5 (by simp))
  have h4' := Lib.hid (h4.keep k5 (by simp))
  have h5' := Lib.hid h5.bs
  have KK : Keep [] W w5 := (((k2.trans k3 (by simp)).trans k4 (by simp)).trans k5 (by simp))
  clear i1 i2 i3 j2 j3 h1 h2 h3 h4 h5 HD HR k4 k5 k3 k2
  have sm : ∀ (u u' : Value), Bs w5 u l → Bs w5 u' l → ∀ m, Calls Try.prog 12 #[u, u'] (w5.drewN m) fun e w' => e = .returned (.bool true) ∧ ∃ n, w' = (w5.drewN m).drewN n := by
    intro u u' hu hu' m
    have s1 := same_c (w5.drewN m) u u' l l (hu.keep ((Keep.refl [] w5).drewN m) (by simp)) (hu'.keep ((Keep.refl [] w5).drewN m) (by simp))
    simpa only [decide_true] using s1
  have SM := Lib.hid sm; clear sm
  have hnn : ((n : Int) != (n : Int)) = false := by simp
  have hc1 : IntKind.i64.wrap (2 * (l.length : Int)) = 2 * l.length := by rw [IntKind.wrap_i64]; omega
  have hc2 : IntKind.i64.wrap (2 * (l.length : Int) + 16) = 2 * l.length + 16 := by rw [IntKind.wrap_i64]; omega
  have hc3 : IntKind.i64.wrap (2 * (l.length : Int) + 10) = 2 * l.length + 10 := by rw [IntKind.wrap_i64]; omega
  have hc4 : IntKind.i64.wrap (2 * (C : Int)) = 2 * C := by rw [IntKind.wrap_i64]; omega
  have hc5 : IntKind.i64.wrap (2 * (l.length : Int) + 10 + 2 * (C : Int)) = 2 * l.length + 10 + 2 * C := by rw [IntKind.wrap_i64]; omega
  have t1 : decide ((E.length : Int) ≤ 2 * (l.length : Int) + 16) = true := by simp; omega
  have t2 : decide ((n : Int) ≤ 2 * (l.length : Int) + 10 + 2 * (C : Int)) = true := by simp; omega
  clear hn1 hn2 hn3 hn4
  go_wp2_with fail
  refine (SM.out v4 _ h4'.out i4.out 0).mono ?_; rintro e w6 ⟨rfl, n6, rfl⟩
  go_wp2_with fail
  refine (SM.out v5 _ h5'.out i4.out n6).mono ?_; rintro e w7 ⟨rfl, n7, rfl⟩
  go_wp2_with fail
  refine (SM.out v2 _ j4.out i4.out (n6 + n7)).mono ?_; rintro e w8 ⟨rfl, n8, rfl⟩
  have hc9 : Bs ((w5.drewN (n6 + n7)).drewN n8) (.slice a1 l.length c1) l := (i4.out.keep ((Keep.refl [] w5).drewN (n6 + n7)) (by simp)).keep ((Keep.refl [] _).drewN n8) (by simp)
  have K8 : Keep [] W ((w5.drewN (n6 + n7)).drewN n8) := (KK.drewN _).drewN _
  generalize (w5.drewN (n6 + n7)).drewN n8 = w8 at hc9 K8 ⊢
  have HCL := Lib.hid (sh_clears w8 _ l hc9 (by omega))
  rw [hC] at HCL
  go_wp2_with fail
  refine HCL.out.mono ?_; rintro e w9 ⟨rfl, k9⟩
  go_wp2_with fail
  refine (lives11_c w9).mono ?_; rintro e w10 ⟨rfl, k10⟩
  go_wp2_with fail
  go_ret
  exact ⟨rfl, (K8.trans k9 (by simp)).trans k10 (by simp)⟩
end Go.Proofs.Ytkefidbokeifdaa
namespace Go.Proofs.Ytkefidbokeifdaa
set_option linter.unusedVariables false
set_option linter.unusedSimpArgs false
set_option maxRecDepth 100000
open Go.ChangeShapes Go.WideShapes Go.ChangeAt Go.RowKit

theorem OwnB.storeW {w : World} {g n cap : Nat} {l : List UInt8} (h : OwnB w (.slice (some ⟨g, 0, none⟩) n cap) l) (j : Nat) (hj : j < l.length) (z : Int) : ∃ c, OwnB (w.setCell ⟨g, j, none⟩ (.int .u8 (IntKind.u8.wrap z))) (.slice (some ⟨g, 0, none⟩) n cap) (l.set j c) := by
  refine ⟨UInt8.ofNat (z % 256).toNat, ?_⟩
  have e : IntKind.u8.wrap z = ((UInt8.ofNat (z % 256).toNat).toNat : Int) := by
    rw [IntKind.wrap_u8', UInt8.toNat_ofNat']; omega
  rw [e]
  exact h.store j hj _
set_option maxHeartbeats 2000000 in
theorem shlong_w (W : World) (seed : Int) (hseed : (Lit.int .u64 seed).wf = true) (n0 : Int) (hn0 : (Lit.int .i64 n0).wf = true) (k0 : Int) (hk0 : (Lit.int .i64 k0).wf = true) : Calls Try.prog 6 #[.int .u64 seed, .int .i64 n0, .int .i64 k0] W fun e w' => e = .returned (.bool true) ∧ Keep [] W w' := by
  obtain ⟨n, hn⟩ : ∃ n : Nat, max 0 (min n0 40000) = (n : Int) := ⟨(max 0 (min n0 40000)).toNat, by omega⟩
  have hn2 : n ≤ 40000 := by omega
  obtain ⟨K, hK⟩ : ∃ K : Nat, max 1 (min k0 256) = (K : Int) := ⟨(max 1 (min k0 256)).toNat, by omega⟩
  have hK1 : ¬ (K : Int) = 0 := by omega
  have hK2 : ¬ K = 0 := by omega
  have hK3 : ((K : Int) == 0) = false := by simpa using hK1
  have hK4 : 0 < K := by omega
  have HW1 := Lib.hid (fun w => within_c n0 0 40000 w (by decide))
  have HW2 := Lib.hid (fun w => within_c k0 1 256 w (by decide))
  rw [hn] at HW1
  rw [hK] at HW2
  clear hn hK hseed hn0 hk0
  have hm := Lib.hid (fun w => run_make_bytes w n n (Nat.le_refl _) (by omega))
  go_enter Try.func6, Try.ntmps6
  go_wp2_with fail
  refine (HW1.out _).mono ?_; rintro e w1 ⟨rfl, rfl⟩
  go_wp2_with fail
  refine (HW2.out _).mono ?_; rintro e w1 ⟨rfl, rfl⟩
  have hmk := hm.out W
  go_wp2_with fail
  have hO := OwnB.madeN W n (by unfold maxLen; omega)
  have KW : Keep [] W (W.alloc (.cells (madeCells #[.int .u8 0] n) 5)) := (Keep.refl [] W).alloc _
  generalize W.alloc (.cells (madeCells #[.int .u8 0] n) 5) = w1 at hO KW ⊢
  have hlr : (List.replicate n (0 : UInt8)).length = n := List.length_replicate
  obtain ⟨g, hg⟩ : ∃ g, W.heap.size = g := ⟨_, rfl⟩
  have hHG := Lib.hid hg
  rw [hg] at hO ⊢
  clear hg hmk
  go_loopw [8, 9] (fun x i wr => ∃ (k : Nat) (X : Int) (l : List UInt8), k ≤ n ∧ x = .int .u64 X ∧ i = .int .i64 k ∧ l.length = n ∧ OwnB wr (.slice (some ⟨g, 0, none⟩) n n) l ∧ Keep [] W wr) (fun _ i _ => n - (intOf i).toNat)
  case atStart => exact ⟨0, seed, _, Nat.zero_le _, rfl, rfl, hlr, hO, KW⟩
  case round =>
    obtain ⟨k, X, l, hk, rfl, rfl, hl, HO, KK⟩ := hrel
    by_cases hx : k < n
    · have t1 : decide (k < n) = true := by simpa using hx
      have hsum : IntKind.i64.wrap ((k : Int) + 1) = ((k + 1 : Nat) : Int) := by rw [IntKind.wrap_i64]; omega
      have f1 := HO.free k
      obtain ⟨b1, o1, c1, e1, cell1⟩ := HO.bs.spot k (by omega)
      have e2 : b1 = g ∧ o1 = 0 := by
        have := e1; simp at this; exact ⟨this.1.1.symm, this.1.2.symm⟩
      obtain ⟨rfl, rfl⟩ := e2
      rw [Nat.zero_add] at cell1
      clear e1
      go_wp2_with fail
      go_roundw
      case rel =>
        obtain ⟨c, hc⟩ := HO.storeW k (by omega) _
        exact ⟨k + 1, _, _, hx, rfl, rfl, by rw [List.length_set]; exact hl, hc, KK.setCell (.inr (by have := hHG.out; simp; omega)) _⟩
      case measure => simp [intOf]; omega
    · have t1 : decide (k < n) = false := by simpa using hx
      clear hx hO hlr
      obtain ⟨m, hd, hn1, hn2', hn3⟩ := shEnc_ok l (by omega)
      have hm4 : 9 * m ≤ 8 * (shEnc l).length := by
        rcases shDec_ok (shEnc l) l.length (by omega) with h | h
        · rw [hd] at h; exact h.2.2.1
        · rw [hd] at h; exact absurd rfl h.1
      have hwf : (Lit.int .i64 (l.length : Int)).wf = true := by simp [Lit.wf, IntKind.min, IntKind.max, IntKind.bits, IntKind.signed]; omega
      have HE := Lib.hid (sh_encode wr _ l HO.bs (by omega))
      have HD := Lib.hid (fun w' v (hb : Bs w' v (shEnc l)) => sh_decode w' v (shEnc l) l.length hb (by omega) hwf)
      have HCL := Lib.hid (fun w' v (hb : Bs w' v l) => sh_clears w' v l hb (by omega))
      rw [hd] at HD
      rw [hl] at HD hn1 hn2'
      generalize shEnc l = E at *
      generalize shClr l = C at *
      clear hd hwf
      go_wp2_with fail
      refine HE.out.mono ?_; rintro e w2 ⟨v2, rfl, h2, k2⟩
      have i1 := HO.bs.keep k2 (by simp)
      obtain ⟨a2, c2, rfl, _⟩ := h2.shape
      go_wp2_with fail
      refine (HD.out w2 _ h2).mono ?_; rintro e w3 ⟨v3, rfl, h3, k3⟩
      have i2 := i1.keep k3 (by simp)
      have s1 := same_c w3 _ v3 l l i2 h3
      simp only [decide_true] at s1
      have HS1 := Lib.hid s1; clear s1
      have q1 : IntKind.i64.wrap (2 * (n : Int)) = 2 * n := by rw [IntKind.wrap_i64]; omega
      have q2 : IntKind.i64.wrap (2 * (n : Int) + 16) = 2 * n + 16 := by rw [IntKind.wrap_i64]; omega
      have q3 : IntKind.i64.wrap (8 * (E.length : Int)) = 8 * E.length := by rw [IntKind.wrap_i64]; omega
      have q9 : (8 * (E.length : Int)).tdiv 9 = 8 * (E.length : Int) / 9 := Int.tdiv_eq_ediv_of_nonneg (by omega)
      obtain ⟨z, hz⟩ : ∃ z : Nat, 8 * (E.length : Int) / 9 = (z : Int) := ⟨8 * E.length / 9, by omega⟩
      have hz2 : z ≤ 8 * E.length ∧ m ≤ z + 1 := by omega
      have q4 : IntKind.i64.wrap (z : Int) = z := by rw [IntKind.wrap_i64]; omega
      have q5 : IntKind.i64.wrap ((z : Int) + 1) = (z : Int) + 1 := by rw [IntKind.wrap_i64]; omega
      have p1 : decide ((E.length : Int) ≤ 2 * (n : Int) + 16) = true := by simp; omega
      have p2 : decide ((m : Int) ≤ (z : Int) + 1) = true := by simp; omega
      have p3 : decide (C ≤ m) = true := by simp; omega
      clear hn1 hn2' hn3 hm4
      go_wp2_with fail
      refine HS1.out.mono ?_; rintro e w4 ⟨rfl, n4, rfl⟩
      have i3 := i2.keep ((Keep.refl [] w3).drewN n4) (by simp)
      have K4 : Keep [] W (w3.drewN n4) := ((KK.trans k2 (by simp)).trans k3 (by simp)).drewN n4
      generalize w3.drewN n4 = w4 at i3 K4 ⊢
      go_wp2_with fail
      refine (HCL.out w4 _ i3).mono ?_; rintro e w5 ⟨rfl, k5⟩
      go_wp2_with fail
      refine (lives11_c w5).mono ?_; rintro e w6 ⟨rfl, k6⟩
      go_wp2_with fail
      go_ret
      exact ⟨rfl, (K4.trans k5 (by simp)).trans k6 (by simp)⟩
end Go.Proofs.Ytkefidbokeifdaa
namespace Go.Proofs.Ytkefidbokeifdaa
set_option linter.unusedVariables false
set_option linter.unusedSimpArgs false
set_option maxRecDepth 100000
open Go.ChangeShapes Go.WideShapes Go.ChangeAt Go.RowKit

set_option maxHeartbeats 2000000 in
theorem shbounds_w (W : World) (v0 : Value) (l0 : List UInt8) (h0 : Bs W v0 l0) (size : Int) (hz : (Lit.int .i64 size).wf = true) (other : Int) (hother : (Lit.int .i64 other).wf = true) : Calls Try.prog 7 #[v0, .int .i64 size, .int .i64 other] W fun e w' => e = .returned (.bool true) ∧ Keep [] W w' := by
  have HZ := Lib.hid hz; have HOT := Lib.hid hother; clear hz hother
  go_enter Try.func7, Try.ntmps7
  go_wp2_with fail
  refine (cut_c W v0 l0 300 (by decide) h0).mono ?_; rintro e w1 ⟨v1, rfl, h1, -, rfl⟩
  have hlen : (l0.take 300).length ≤ 300 := by rw [List.length_take]; omega
  generalize l0.take 300 = l at h1 hlen
  clear h0
  have hdo := shDec_ok l size (by omega)
  have HD := Lib.hid (sh_decode W v1 l size h1 (by omega) HZ.out)
  generalize shDec l size = D at *
  obtain ⟨D1, D2, D3⟩ := D
  dsimp only at *
  obtain ⟨a1, c1, rfl, _⟩ := h1.shape
  rcases hdo with ⟨rfl, hsz, hst, htl⟩ | ⟨hne, rfl, rfl⟩
  · have HD1 : D1.length ≤ 3000000 := by omega
    obtain ⟨m, hd, hn1, hn2, hn3⟩ := shEnc_ok D1 (by omega)
    have hdx := shDec_ok (shEnc D1) other (by omega)
    have hsame : other = D1.length → (shDec (shEnc D1) other).2.2 = 0 := by rintro rfl; rw [hd]
    have HDX := Lib.hid (fun w' v (hb : Bs w' v (shEnc D1)) => sh_decode w' v (shEnc D1) other hb (by omega) HOT.out)
    have HEN := Lib.hid (fun w' v (hb : Bs w' v D1) => sh_encode w' v D1 hb (by omega))
    clear hd hn1 hn2 hn3 m
    generalize shDec (shEnc D1) other = X at *
    generalize shEnc D1 = E at *
    obtain ⟨X1, X2, X3⟩ := X
    dsimp only at *
    have t0 : ((D1.length : Int) != size) = false := by simp; omega
    have q3 : IntKind.i64.wrap (8 * (l.length : Int)) = 8 * l.length := by rw [IntKind.wrap_i64]; omega
    have q9 : (8 * (l.length : Int)).tdiv 9 = 8 * (l.length : Int) / 9 := Int.tdiv_eq_ediv_of_nonneg (by omega)
    obtain ⟨z, hz⟩ : ∃ z : Nat, 8 * (l.length : Int) / 9 = (z : Int) := ⟨8 * l.length / 9, by omega⟩
    have hz2 : z ≤ 8 * l.length ∧ D2 ≤ z := by omega
    have q4 : IntKind.i64.wrap (z : Int) = z := by rw [IntKind.wrap_i64]; omega
    have t1 : decide (z < D2) = false := by simp; omega
    have HSZ := Lib.hid hsz
    clear hsz hst htl hz2
    go_wp2_with fail
    refine HD.out.mono ?_; rintro e w2 ⟨v2, rfl, h2, k2⟩
    obtain ⟨a2, c2, rfl, _⟩ := h2.shape
    go_wp2_with fail
    refine (HEN.out w2 _ h2).mono ?_; rintro e w3 ⟨v3, rfl, h3, k3⟩
    go_wp2_with fail
    refine (HDX.out w3 _ h3).mono ?_; rintro e w4 ⟨v4, rfl, h4, k4⟩
    obtain ⟨a4, c4, rfl, _⟩ := h4.shape
    have KK : Keep [] W w4 := (k2.trans k3 (by simp)).trans k4 (by simp)
    have hLV := Lib.hid (lives11_c w4)
    rcases hdx with ⟨rfl, hx1, hx2, hx3⟩ | ⟨hne, rfl, rfl⟩
    · by_cases ho : other = size
      · have t2 : (other == size) = true := by simpa using ho
        have t3 : ((X1.length : Int) == other) = true := by simpa using hx1
        clear ho hx1 hx2 hx3
        go_wp2_with fail
        refine hLV.out.mono ?_; rintro e w5 ⟨rfl, k5⟩
        go_wp2_with fail
        go_ret
        exact ⟨rfl, KK.trans k5 (by simp)⟩
      · have t2 : (other == size) = false := by simpa using ho
        have t3 : ((X1.length : Int) == other) = true := by simpa using hx1
        have t4 : decide (0 ≤ other) = true := by simp; omega
        clear ho hx1 hx2 hx3
        go_wp2_with fail
        refine hLV.out.mono ?_; rintro e w5 ⟨rfl, k5⟩
        go_wp2_with fail
        go_ret
        exact ⟨rfl, KK.trans k5 (by simp)⟩
    · have t2 : (other == size) = false := by
        simp only [beq_eq_false_iff_ne]
        intro he
        exact hne (hsame (by have := HSZ.out; omega))
      have t3 : ((X3 : Int) == 0) = false := by simp; omega
      have t5 : ((X3 : Int) != 0) = true := by simp; omega
      by_cases h0 : 0 ≤ other
      · have t4 : decide (0 ≤ other) = true := by simpa using h0
        by_cases h00 : other = 0
        · have t6 : ((0 : Int) == other) = true := by simp; omega
          clear hne hsame h0 h00
          go_wp2_with fail
          refine hLV.out.mono ?_; rintro e w5 ⟨rfl, k5⟩
          go_wp2_with fail
          go_ret
          exact ⟨rfl, KK.trans k5 (by simp)⟩
        · have t6 : ((0 : Int) == other) = false := by simp; omega
          clear hne hsame h0 h00
          go_wp2_with fail
          refine hLV.out.mono ?_; rintro e w5 ⟨rfl, k5⟩
          go_wp2_with fail
          go_ret
          exact ⟨rfl, KK.trans k5 (by simp)⟩
      · have t4 : decide (0 ≤ other) = false := by simpa using h0
        clear hne hsame h0
        go_wp2_with fail
        refine hLV.out.mono ?_; rintro e w5 ⟨rfl, k5⟩
        go_wp2_with fail
        go_ret
        exact ⟨rfl, KK.trans k5 (by simp)⟩
  · have t0 : ((D3 : Int) != 0) = true := by simp; omega
    clear hne
    go_wp2_with fail
    refine HD.out.mono ?_; rintro e w2 ⟨v2, rfl, h2, k2⟩
    obtain ⟨a2, c2, rfl, _⟩ := h2.shape
    go_wp2_with fail
    refine (lives11_c w2).mono ?_; rintro e w5 ⟨rfl, k5⟩
    go_wp2_with fail
    go_ret
    exact ⟨rfl, k2.trans k5 (by simp)⟩
end Go.Proofs.Ytkefidbokeifdaa
