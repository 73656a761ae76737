/- Texts put together: Inf2 Inf3 Inf4 Tok8 -/
import Derived.Test.YtokfcgloogdeiaaGreatDoorPart3
import Derived.Test.YtokfcgloogdeiaaGreatDoorPart10
import Derived.Test.YtokfcgloogdeiaaGreatDoorPart11
import Derived.Test.YtokfcgloogdeiaaGreatDoorPart14
import Derived.Test.YtokfcgloogdeiaaGreatDoorPart17
import Derived.Deep.LoopGhost
import Derived.Test.YtokfcgloogdeiaaGreatDoorPart12
namespace Go.Proofs.YtokfcgloogdeiaaGreatDoor
set_option linter.unusedVariables false
set_option linter.unusedSimpArgs false
set_option maxRecDepth 100000
open Go.ChangeShapes Go.WideShapes Go.ChangeAt Go.RowKit

theorem xor16 (a b : Nat) (ha : a < 65536) (hb : b < 65536) : (a ^^^ b = 65535) ↔ (a + b = 65535) := by
  have h1 : a ^^^ 65535 = 65535 - a := by
    apply Nat.eq_of_testBit_eq
    intro i
    rw [Nat.testBit_xor, show (65535 : Nat) = 2 ^ 16 - 1 from rfl, Nat.testBit_two_pow_sub_one, show 2 ^ 16 - 1 - a = 2 ^ 16 - (a + 1) by omega, Nat.testBit_two_pow_sub_succ (by simpa using ha)]
    by_cases hi : i < 16
    · simp [hi]
    · have : a.testBit i = false := Nat.testBit_lt_two_pow (Nat.lt_of_lt_of_le ha (Nat.pow_le_pow_right (n := 2) (by decide) (by omega : 16 ≤ i)))
      simp [hi, this]
  constructor
  · intro h
    have : b = a ^^^ 65535 := by rw [← h, ← Nat.xor_assoc, Nat.xor_self, Nat.zero_xor]
    omega
  · intro h
    have : b = a ^^^ 65535 := by omega
    rw [this, ← Nat.xor_assoc, Nat.xor_self, Nat.zero_xor]
/-- a reader aligned among others -/
theorem st_align {W w : World} {Ps : List Ob} (h : St W w Ps) (i : Nat) {q : Nat} {s : RS} (hi : Ps[i]? = some (Ob.rd q s)) : Calls Tryz.prog 77 #[.pointer (some ⟨q, 0, none⟩)] w fun e w' => e = .returned (.tuple #[]) ∧ St W w' (Ps.set i (Ob.rd q s.align)) := by
  obtain ⟨bs, ⟨v, rfl, h1⟩, h2, h3⟩ := h.focus i hi
  refine (align_c w q v s h1).mono ?_
  rintro e w' ⟨he, hr, hk⟩
  exact ⟨he, h3 w' _ _ ⟨v, rfl, hr⟩ (hk.mono (by simp)) (fun b hb => .inl hb)⟩
theorem st_bit18 {W w : World} {Ps : List Ob} (h : St W w Ps) (i : Nat) {q : Nat} {s : RS} (hi : Ps[i]? = some (Ob.rd q s)) : Calls Tryz.prog 44 #[.pointer (some ⟨q, 0, none⟩)] w fun e w' => e = .returned (.int .u32 (s.bits 1).1) ∧ St W w' (Ps.set i (Ob.rd q (s.bits 1).2)) := by
  obtain ⟨bs, ⟨v, rfl, h1⟩, h2, h3⟩ := h.focus i hi
  refine (bit_c w q v s h1).mono ?_
  rintro e w' ⟨he, hr, hk⟩
  exact ⟨he, h3 w' _ _ ⟨v, rfl, hr⟩ (hk.mono (by simp)) (fun b hb => .inl hb)⟩
/-- a code as an object -/
def Ob.cdc (q : Nat) (L : List Nat) : Ob where
  P w bs := Dec w q bs L
  keep := fun h k hb => h.keep k hb
  lt := fun h b hb => h.lt b hb
/-- the next symbol of a code, by a reader among others -/
theorem st_next18 {W w : World} {Ps : List Ob} (h : St W w Ps) (i j : Nat) (hij : i ≠ j) {q d : Nat} {s : RS} {L : List Nat} (hi : Ps[i]? = some (Ob.rd q s)) (hj : Ps[j]? = some (Ob.cdc d L)) : Calls Tryz.prog 80 #[.pointer (some ⟨d, 0, none⟩), .pointer (some ⟨q, 0, none⟩)] w fun e w' =>
    e = .returned (.tuple #[.int .i64 (s.next L).1, .int .i64 (s.next L).2.1]) ∧ St W w' (Ps.set i (Ob.rd q (s.next L).2.2)) := by
  obtain ⟨bs, cs, ⟨v, rfl, h1⟩, h2, hap, -, hst⟩ := h.apart i j hij hi hj
  refine (can_next w d q v s cs L h2 h1 (hap q (by simp))).mono ?_
  rintro e w' ⟨he, hr, hk⟩
  exact ⟨he, hst w' _ _ ⟨v, rfl, hr⟩ (hk.mono (by simp)) (fun b hb => .inl hb)⟩
/-- the cells of what is read by -/
def dCells (qr qo : Nat) (large : Bool) (n : Nat) (kp : Option Addr) : Array Value := #[.pointer (some ⟨qr, 0, none⟩), .pointer (some ⟨qo, 0, none⟩), .bool large, .int .i64 n, .pointer kp]
/-- what is read by, its reader, its output -/
def DI (q qr qo : Nat) (large : Bool) (kp : Option Addr) (s : SI) : List Ob := [Ob.box q (dCells qr qo large s.n kp) 61, Ob.rd qr s.r, Ob.out qo s.o]
theorem DI.cells {W w : World} {q qr qo : Nat} {large : Bool} {kp : Option Addr} {s : SI} {tl : List Ob} (h : St W w (DI q qr qo large kp s ++ tl)) : w.cell? ⟨q, 0, none⟩ = some (.pointer (some ⟨qr, 0, none⟩)) ∧ w.cell? ⟨q, 1, none⟩ = some (.pointer (some ⟨qo, 0, none⟩)) ∧ w.cell? ⟨q, 2, none⟩ = some (.bool large) ∧ w.cell? ⟨q, 3, none⟩ = some (.int .i64 s.n) ∧ w.cell? ⟨q, 4, none⟩ = some (.pointer kp) ∧ w.frozen? ⟨q, 3, none⟩ = false ∧ w.frozen? ⟨q, 4, none⟩ = false :=
  have b := h.blk 0 rfl
  ⟨b.cell 0 _ rfl, b.cell 1 _ rfl, b.cell 2 _ rfl, b.cell 3 _ rfl, b.cell 4 _ rfl, b.free 3, b.free 4⟩
/-- one step counted -/
theorem DI.count {W w : World} {q qr qo : Nat} {large : Bool} {kp : Option Addr} {r : RS} {o : HS} {n : Nat} {tl : List Ob} (h : St W w (DI q qr qo large kp ⟨r, o, n⟩ ++ tl)) (m : Nat) : St W (w.setCell ⟨q, 3, none⟩ (.int .i64 m)) (DI q qr qo large kp ⟨r, o, m⟩ ++ tl) :=
  h.setBox 0 rfl 3 (.int .i64 m)
set_option maxHeartbeats 4000000 in
theorem plain18_c {W w : World} (q qr qo : Nat) (large : Bool) (kp : Option Addr) (s : SI) (tl : List Ob) (h : St W w (DI q qr qo large kp s ++ tl)) (hb : s.o.b.length ≤ 1000000000000) (hn : s.n ≤ 1000000000000) : Calls Tryz.prog 64 #[.pointer (some ⟨q, 0, none⟩)] w fun e w' =>
    e = .returned (.int .i64 (plain18 s).1) ∧ Keep [] W w' ∧ ((plain18 s).1 = 0 → St W w' (DI q qr qo large kp (plain18 s).2 ++ tl)) := by
  obtain ⟨c0, -, -, -, -, -, -⟩ := DI.cells h
  have HA := Lib.hid (st_align h 1 rfl)
  obtain ⟨x1, r1, h1⟩ : ∃ x1 r1, s.r.align.bits 16 = (x1, r1) := ⟨_, _, rfl⟩
  obtain ⟨x2, r2, h2⟩ : ∃ x2 r2, r1.bits 16 = (x2, r2) := ⟨_, _, rfl⟩
  have hx1 : x1 < 65536 := by have := bits_lt15 s.r.align 16 (by decide); rw [show ((16 : Nat) : Int) = 16 from rfl, h1] at this; exact this
  have hx2 : x2 < 65536 := by have := bits_lt15 r1 16 (by decide); rw [show ((16 : Nat) : Int) = 16 from rfl, h2] at this; exact this
  have hp : plain18 s = if r2.E ≠ 0 then (r2.E, s) else if x1 + x2 ≠ 65535 then (4, s) else plL x1 { s with r := r2 } := by
    unfold plain18; rw [h1]; dsimp only; rw [h2]
  obtain ⟨R, hR⟩ : ∃ R, plain18 s = R := ⟨_, rfl⟩
  rw [hR] at hp ⊢
  have HP := Lib.hid hp
  have HBN : Hid (s.o.b.length ≤ 1000000000000 ∧ s.n ≤ 1000000000000) := ⟨hb, hn⟩
  have HX : Hid (x1 < 65536 ∧ x2 < 65536) := ⟨hx1, hx2⟩
  have H1 := Lib.hid h1; have H2 := Lib.hid h2
  clear h hb hn hp hR h1 h2 hx1 hx2
  go_enter Tryz.func64, Tryz.ntmps64
  go_wp2_with fail
  refine HA.out.mono ?_; rintro e wa ⟨rfl, hSa⟩
  have hSa' : St W wa (DI q qr qo large kp { s with r := s.r.align } ++ tl) := hSa
  have HB := st_bits hSa' 1 rfl 16
  rw [H1.out] at HB
  have HB1 := Lib.hid HB
  clear c0
  obtain ⟨c0, -, -, -, -, -, -⟩ := DI.cells hSa'
  clear HA hSa hSa' HB
  go_wp2_with fail
  refine HB1.out.mono ?_; rintro e wb ⟨rfl, hSb⟩
  have hSb' : St W wb (DI q qr qo large kp { s with r := r1 } ++ tl) := hSb
  have HB := st_bits hSb' 1 rfl 16
  rw [H2.out] at HB
  have HB2 := Lib.hid HB
  clear c0
  obtain ⟨c0, -, -, -, -, -, -⟩ := DI.cells hSb'
  clear HB1 hSb hSb' HB
  go_wp2_with fail
  refine HB2.out.mono ?_; rintro e wc ⟨rfl, hSc⟩
  have hSc' : St W wc (DI q qr qo large kp { s with r := r2 } ++ tl) := hSc
  clear c0
  obtain ⟨c0, -, -, -, -, -, -⟩ := DI.cells hSc'
  have HER := Lib.hid (st_err hSc' 1 rfl)
  have HS := Lib.hid hSc'
  clear HB2 hSc hSc' H1 H2
  go_wp2_with fail
  refine HER.out.mono ?_; rintro e wd ⟨rfl, rfl⟩
  clear HER
  dsimp only
  obtain ⟨E2, hE2⟩ : ∃ E2, r2.E = E2 := ⟨_, rfl⟩
  rw [hE2] at HP ⊢
  clear hE2
  by_cases g0 : E2 = 0
  · subst g0
    rw [show ((0 : Nat) : Int) = 0 from rfl]
    obtain ⟨z, hz⟩ : ∃ z, x1 ^^^ x2 = z := ⟨_, rfl⟩
    have hX := HX.out
    have hpp := HP.out
    have hzz := xor16 x1 x2 hX.1 hX.2
    rw [hz] at hzz
    rw [if_neg (by simp)] at hpp
    have hbx : bits .xor .u32 (x1 : Int) (x2 : Int) = (z : Int) := by rw [← hz]; exact u32_xor_nat x1 x2 (by omega) (by omega)
    clear hz
    by_cases gz : z = 65535
    · have t1 : ((z : Int) != 65535) = false := by simp; omega
      have t1' : (z != 65535) = false := by simp; omega
      rw [if_neg (by simpa using hzz.1 gz)] at hpp
      have HPP := Lib.hid hpp
      have hx1 := hX.1
      clear hpp HP gz hzz hX
      go_wp2_with fail
      go_loopw [37] (fun iv wr => ∃ (k : Nat) (sk : SI), k ≤ x1 ∧ iv = .int .u32 k ∧ Hid (St W wr (DI q qr qo large kp sk ++ tl)) ∧ Hid (plL (x1 - k) sk = R) ∧ sk.o.b.length ≤ 1000000000000 + k ∧ sk.n ≤ 1000000000000 + k) (fun iv _ => x1 - (intOf iv).toNat)
      case atStart => exact ⟨0, _, Nat.zero_le _, rfl, HS, HPP.out.symm, HBN.out.1, HBN.out.2⟩
      case round =>
        clear HS HPP c0
        obtain ⟨k, sk, hk, rfl, HS, HR, hbk, hnk⟩ := hrel
        by_cases hlt : k < x1
        · obtain ⟨f, hf⟩ : ∃ f, x1 - k = f + 1 := ⟨x1 - k - 1, by omega⟩
          have hf2 : x1 - (k + 1) = f := by omega
          rw [hf] at HR
          have hr := HR.out
          rw [plL] at hr
          have hx8 := bits_lt15 sk.r 8 (by decide)
          rw [show ((8 : Nat) : Int) = 8 from rfl] at hx8
          have HB := st_bits HS.out 1 rfl 8
          obtain ⟨x, rn, hxr⟩ : ∃ x rn, sk.r.bits 8 = (x, rn) := ⟨_, _, rfl⟩
          rw [hxr] at hr hx8 HB
          dsimp only at hr hx8 HB
          obtain ⟨c0, c1, -, -, -, -, -⟩ := DI.cells HS.out
          have HB3 := Lib.hid HB
          have HRR := Lib.hid hr
          have wx : IntKind.u8.wrap (x : Int) = (x : Int) := by rw [IntKind.wrap_u8]; omega
          have hc : (UInt8.ofNat x).toNat = x := by rw [UInt8.toNat_ofNat']; exact Nat.mod_eq_of_lt hx8
          have HC := Lib.hid hc
          have HF2 := Lib.hid hf2
          have wk : IntKind.u32.wrap ((k : Int) + 1) = ((k + 1 : Nat) : Int) := by rw [IntKind.wrap_u32]; omega
          have hkz : (k : Int) < (x1 : Int) := by omega
          clear HR hr hxr HB hc hf hf2 hx8
          go_wp2_with fail
          refine HB3.out.mono ?_; rintro e w4 ⟨rfl, hS4⟩
          have hS4' : St W w4 (DI q qr qo large kp { sk with r := rn } ++ tl) := hS4
          clear c0 c1
          obtain ⟨c0, c1, -, c3, -, g3, -⟩ := DI.cells hS4'
          have HE4 := Lib.hid (st_err hS4' 1 rfl)
          have HS4 := Lib.hid hS4'
          clear HB3 hS4 hS4'
          go_wp2_with fail
          refine HE4.out.mono ?_; rintro e w5 ⟨rfl, rfl⟩
          clear HE4
          dsimp only at c3 ⊢
          obtain ⟨E4, hE4'⟩ : ∃ E4, rn.E = E4 := ⟨_, rfl⟩
          rw [hE4'] at HRR ⊢
          clear hE4'
          by_cases g4 : E4 = 0
          · subst g4
            have hr2 := HRR.out
            rw [if_neg (by simp)] at hr2
            have hn1 : sk.n + 1 ≤ 2000000000000 := by omega
            obtain ⟨n1, hnn⟩ : ∃ n1, sk.n + 1 = n1 := ⟨_, rfl⟩
            have wn : IntKind.i64.wrap ((sk.n : Int) + 1) = (n1 : Int) := by rw [IntKind.wrap_i64]; omega
            rw [hnn] at hr2
            have HS6 := Lib.hid (DI.count HS4.out n1)
            have HNN : Hid (sk.n + 1 = n1) := hnn
            obtain ⟨d0, d1, -, -, -, -, -⟩ := DI.cells HS6.out
            have hL := st_hs_lit HS6.out 2 rfl (UInt8.ofNat x) (by show sk.o.b.length + 1 ≤ _; omega)
            rw [HC.out] at hL
            dsimp only at hL
            obtain ⟨el, o2, ho2⟩ : ∃ el o2, sk.o.lit (UInt8.ofNat x) = (el, o2) := ⟨_, _, rfl⟩
            have hL2 : Calls Tryz.prog 59 #[.pointer (some ⟨qo, 0, none⟩), .int .u8 x] (w4.setCell ⟨q, 3, none⟩ (.int .i64 n1)) fun e w' => e = .returned (.int .i64 el) ∧ St W w' (DI q qr qo large kp ⟨rn, o2, n1⟩ ++ tl) := by
              have := hL; rw [ho2] at this; exact this
            rw [ho2] at hr2
            dsimp only at hr2
            have HLT := Lib.hid hL2
            have HR2 := Lib.hid hr2
            have hob : el = 0 → o2.b.length ≤ sk.o.b.length + 1 := fun h0 => by
              have := (lit_ok (o := sk.o) (c := UInt8.ofNat x) (by rw [ho2]; exact h0)).1
              rw [ho2] at this; dsimp only at this; rw [this]; simp
            have HOB := Lib.hid hob
            clear hL hL2 hr2 HRR ho2 hob hnn hn1
            go_wp2_with fail
            refine HLT.out.mono ?_; rintro e w6 ⟨rfl, hS5⟩
            have HS5 := Lib.hid hS5
            clear HLT hS5 HS6 HS4 HS d0 d1 c0 c1 c3 g3
            by_cases g5 : el = 0
            · subst g5
              have hr3 := HR2.out
              rw [if_neg (by simp)] at hr3
              have HR3 := Lib.hid hr3
              have HOB2 := HOB.out rfl
              clear hr3 HR2 HOB
              go_wp2_with fail
              go_roundw
              case rel => exact ⟨k + 1, _, by omega, by first | rfl | simp, HS5.out, by rw [HF2.out]; exact HR3.out, by dsimp only; omega, by have := HNN.out; dsimp only; omega⟩
              case measure => simp [intOf]; omega
            · have t5 : ((el : Int) != 0) = true := by simp; omega
              have HRE : Hid (R = (el, sk)) := by have := HR2.out; rw [if_pos g5] at this; exact this.symm
              have HG5 := Lib.hid g5
              clear HR2 g5 HOB
              go_wp2_with fail
              go_ret
              rw [HRE.out]
              exact ⟨rfl, HS5.out.kp, fun h => absurd h HG5.out⟩
          · have t4 : ((E4 : Int) != 0) = true := by simp; omega
            have HRE : Hid (R = (E4, sk)) := by have := HRR.out; rw [if_pos g4] at this; exact this.symm
            have HG4 := Lib.hid g4
            clear HRR g4 HS
            go_wp2_with fail
            go_ret
            rw [HRE.out]
            exact ⟨rfl, HS4.out.kp, fun h => absurd h HG4.out⟩
        · obtain rfl : k = x1 := by omega
          rw [Nat.sub_self] at HR
          have hr := HR.out
          rw [plL] at hr
          have HRE := Lib.hid hr.symm
          clear HR hr hlt hk
          go_wp2_with fail
          go_ret
          rw [HRE.out]
          exact ⟨rfl, HS.out.kp, fun _ => HS.out⟩
    · have t1 : ((z : Int) != 65535) = true := by simp; omega
      have t1' : (z != 65535) = true := by simp; omega
      have HRE : Hid (R = (4, s)) := by rw [if_pos (fun h => gz (hzz.2 h))] at hpp; exact hpp
      clear hpp HP gz hzz hX HX
      go_wp2_with fail
      go_ret
      rw [HRE.out]
      exact ⟨rfl, HS.out.kp, fun h => by simp at h⟩
  · have t0 : ((E2 : Int) != 0) = true := by simp; omega
    have HRE : Hid (R = (E2, s)) := by have := HP.out; rw [if_pos g0] at this; exact this
    have HG := Lib.hid g0
    clear HP g0
    go_wp2_with fail
    go_ret
    rw [HRE.out]
    exact ⟨rfl, HS.out.kp, fun h => absurd h HG.out⟩
end Go.Proofs.YtokfcgloogdeiaaGreatDoor
namespace Go.Proofs.YtokfcgloogdeiaaGreatDoor
set_option linter.unusedVariables false
set_option linter.unusedSimpArgs false
set_option maxRecDepth 100000
open Go.ChangeShapes Go.WideShapes Go.ChangeAt Go.RowKit

/-- two codes in their box -/
def Cds18 (c a b : Nat) (LL LD : List Nat) : List Ob := [Ob.cdc a LL, Ob.cdc b LD, Ob.box c #[.pointer (some ⟨a, 0, none⟩), .pointer (some ⟨b, 0, none⟩)] 135]
theorem Cds18.cells {W w : World} {q qr qo : Nat} {large : Bool} {kp : Option Addr} {s : SI} {c a b : Nat} {LL LD : List Nat} {tl : List Ob} (h : St W w (DI q qr qo large kp s ++ (Cds18 c a b LL LD ++ tl))) : w.cell? ⟨c, 0, none⟩ = some (.pointer (some ⟨a, 0, none⟩)) ∧ w.cell? ⟨c, 1, none⟩ = some (.pointer (some ⟨b, 0, none⟩)) :=
  have hbk := h.blk 5 rfl
  ⟨hbk.cell 0 _ rfl, hbk.cell 1 _ rfl⟩
set_option maxHeartbeats 4000000 in
theorem copyi18_c {W w : World} (q qr qo : Nat) (large : Bool) (kp : Option Addr) (c a b : Nat) (LL LD : List Nat) (tl : List Ob) (s : SI) (x : Int) (hx : (Lit.int .i64 x).wf = true) (hL : ∀ x ∈ LD, x ≤ 16) (hp : s.r.pos ≤ 8 * s.r.l.length) (hl : s.r.l.length ≤ 1000000) (hlen : LD.length ≤ 1000) (h : St W w (DI q qr qo large kp s ++ (Cds18 c a b LL LD ++ tl))) (hb : s.o.b.length ≤ 1000000000000) : Calls Tryz.prog 81 #[.pointer (some ⟨q, 0, none⟩), .int .i64 x, .pointer (some ⟨b, 0, none⟩)] w fun e w' =>
    e = .returned (.int .i64 (copy18 large LD x s).1) ∧ Keep [] W w' ∧ ((copy18 large LD x s).1 = 0 → St W w' (DI q qr qo large kp (copy18 large LD x s).2 ++ (Cds18 c a b LL LD ++ tl))) := by
  obtain ⟨b1, e1, o1, h1⟩ : ∃ b1 e1 o1, lenOf x large = (b1, e1, o1) := ⟨_, _, _, rfl⟩
  obtain ⟨x1, r1, h2⟩ : ∃ x1 r1, s.r.bits e1 = (x1, r1) := ⟨_, _, rfl⟩
  obtain ⟨y, er, r2, h3⟩ : ∃ y er r2, r1.next LD = (y, er, r2) := ⟨_, _, _, rfl⟩
  obtain ⟨b2, e2, o2, h4⟩ : ∃ b2 e2 o2, dstOf y large = (b2, e2, o2) := ⟨_, _, _, rfl⟩
  obtain ⟨x2, r3, h5⟩ : ∃ x2 r3, r2.bits e2 = (x2, r3) := ⟨_, _, rfl⟩
  obtain ⟨k1, k2⟩ := copy18_cases large LD x s b1 e1 o1 x1 r1 y er r2 b2 e2 o2 x2 r3 h1 h2 h3 h4 h5
  obtain ⟨g1, g2⟩ : b1 ≤ 258 ∧ e1 ≤ 16 := by have := lenOf_le x large; rw [h1] at this; exact this
  obtain ⟨g3, g4⟩ : b2 ≤ 49153 ∧ e2 ≤ 14 := by have := dstOf_le y large; rw [h4] at this; exact this
  have hx1 : x1 < 65536 := by
    have := bits_lt15 s.r e1 (by omega); rw [h2] at this
    have h : 2 ^ e1 ≤ 2 ^ 16 := Nat.pow_le_pow_right (by decide) g2
    dsimp only at this; omega
  have hx2 : x2 < 16384 := by
    have := bits_lt15 r2 e2 (by omega); rw [h5] at this
    have h : 2 ^ e2 ≤ 2 ^ 14 := Nat.pow_le_pow_right (by decide) g4
    dsimp only at this; omega
  have hnE : r1.E ≠ 0 → er = r1.E := fun hE => by have := RS.next_err LD r1 hE; rw [h3] at this; exact (congrArg (fun z => z.2.1) this)
  have hny : er = 0 → ∃ i : Nat, i < LD.length ∧ y = (i : Int) := fun h0 => by
    have hE : r1.E = 0 := by
      by_cases hE : r1.E = 0
      · exact hE
      · exact absurd ((hnE hE).symm.trans h0) hE
    have hpb := bits_good s.r e1 (by rw [h2]; exact hE) hp
    rw [h2] at hpb
    dsimp only at hpb
    obtain ⟨_, p2, p3, p4⟩ := hpb
    obtain ⟨i, hi, _, hy, _⟩ := next_good LD hL r1 (by rw [h3]; exact h0) (by rw [p2, p3]; exact p4)
    rw [h3] at hy; exact ⟨i, hi, hy⟩
  have HNY := Lib.hid hny; have HNE := Lib.hid hnE
  have HLN := Lib.hid (fun wx => dyn_length wx x large hx)
  have HDS := Lib.hid (fun wx (hy : (Lit.int .i64 y).wf = true) => dyn_distance wx y large hy)
  rw [h1] at HLN; rw [h4] at HDS
  obtain ⟨R, hR⟩ : ∃ R, copy18 large LD x s = R := ⟨_, rfl⟩
  rw [hR] at k1 k2 ⊢
  have K1 := Lib.hid k1; have K2 := Lib.hid k2
  have H2 := Lib.hid h2; have H3 := Lib.hid h3; have H5 := Lib.hid h5
  have HS := Lib.hid h; have HBL := Lib.hid hb; have HLE := Lib.hid hlen
  obtain ⟨c0, -, c2, -, -, -, -⟩ := DI.cells h
  have w1 : IntKind.i64.wrap (x1 : Int) = (x1 : Int) := by rw [IntKind.wrap_i64]; omega
  have w2 : IntKind.i64.wrap (x2 : Int) = (x2 : Int) := by rw [IntKind.wrap_i64]; omega
  obtain ⟨nn, hnn⟩ : ∃ nn, b1 + x1 = nn := ⟨_, rfl⟩
  obtain ⟨dd, hdd⟩ : ∃ dd, b2 + x2 = dd := ⟨_, rfl⟩
  have w3 : IntKind.i64.wrap ((b1 : Int) + (x1 : Int)) = (nn : Int) := by rw [IntKind.wrap_i64]; omega
  have w4 : IntKind.i64.wrap ((b2 : Int) + (x2 : Int)) = (dd : Int) := by rw [IntKind.wrap_i64]; omega
  have HNL : Hid (nn ≤ 100000 ∧ dd ≤ 100000) := by unfold Hid; omega
  rw [hnn, hdd] at K2
  clear k1 k2 h1 h2 h3 h4 h5 h hb hR g1 g2 g3 g4 hx1 hx2 hnn hdd hL hp hl hlen hnE hny hx
  go_enter Tryz.func81, Tryz.ntmps81
  go_wp2_with fail
  refine (HLN.out w).mono ?_; rintro e wa ⟨rfl, hka⟩
  have HS1 := Lib.hid (HS.out.read hka)
  clear c0 c2 hka HS
  obtain ⟨c0, -, c2, -, -, -, -⟩ := DI.cells HS1.out
  cases o1 with
  | false =>
    have HRE := Lib.hid (K1.out rfl)
    clear K1 K2
    go_wp2_with fail
    go_ret
    rw [HRE.out]
    exact ⟨rfl, HS1.out.kp, fun h => by simp at h⟩
  | true =>
    obtain ⟨k3, k4⟩ := K2.out rfl
    have K3 := Lib.hid k3; have K4 := Lib.hid k4
    have HB := st_bits HS1.out 1 rfl e1
    rw [H2.out] at HB
    have HB1 := Lib.hid HB
    clear K1 K2 k3 k4 HB HLN
    go_wp2_with fail
    refine HB1.out.mono ?_; rintro e wb ⟨rfl, hSb⟩
    have hSb' : St W wb (DI q qr qo large kp { s with r := r1 } ++ (Cds18 c a b LL LD ++ tl)) := hSb
    clear c0 c2
    obtain ⟨c0, -, c2, -, -, -, -⟩ := DI.cells hSb'
    have HN := st_next18 hSb' 1 4 (by decide) rfl rfl
    rw [H3.out] at HN
    have HN1 := Lib.hid HN
    clear HB1 hSb hSb' HS1 H2 HN
    go_wp2_with fail
    refine HN1.out.mono ?_; rintro e wc ⟨rfl, hSc⟩
    have hSc' : St W wc (DI q qr qo large kp { s with r := r2 } ++ (Cds18 c a b LL LD ++ tl)) := hSc
    clear c0 c2
    obtain ⟨c0, -, c2, -, -, -, -⟩ := DI.cells hSc'
    have HSc := Lib.hid hSc'
    clear HN1 hSc hSc' H3
    by_cases g2 : er = 0
    · obtain ⟨i, hi, hy⟩ := HNY.out g2
      have g1 : r1.E = 0 := by
        by_cases hE : r1.E = 0
        · exact hE
        · exact absurd ((HNE.out hE).symm.trans g2) hE
      obtain ⟨k5, k6⟩ := K4.out g1
      obtain ⟨k7, k8⟩ := k6 g2
      have K7 := Lib.hid k7; have K8 := Lib.hid k8
      have hle := HLE.out
      have hdd := HDS.out wc (by rw [hy]; simp [Lit.wf, IntKind.min, IntKind.max, IntKind.bits, IntKind.signed]; omega)
      have HDD := Lib.hid hdd
      subst g2
      clear K3 K4 k5 k6 k7 k8 g1 HNE HNY hle hdd HDS hi hy
      go_wp2_with fail
      refine HDD.out.mono ?_; rintro e wd ⟨rfl, hkd⟩
      have HSd := Lib.hid (HSc.out.read hkd)
      clear c0 c2 hkd HSc HDD
      obtain ⟨c0, -, c2, -, -, -, -⟩ := DI.cells HSd.out
      cases o2 with
      | false =>
        have HRE := Lib.hid (K7.out rfl)
        clear K7 K8
        go_wp2_with fail
        go_ret
        rw [HRE.out]
        exact ⟨rfl, HSd.out.kp, fun h => by simp at h⟩
      | true =>
        obtain ⟨k9, k10⟩ := K8.out rfl
        have K9 := Lib.hid k9; have K10 := Lib.hid k10
        have HB := st_bits HSd.out 1 rfl e2
        rw [H5.out] at HB
        have HB3 := Lib.hid HB
        clear K7 K8 k9 k10 HB
        go_wp2_with fail
        refine HB3.out.mono ?_; rintro e we ⟨rfl, hSe⟩
        have hSe' : St W we (DI q qr qo large kp { s with r := r3 } ++ (Cds18 c a b LL LD ++ tl)) := hSe
        clear c0 c2
        obtain ⟨c0, c1, -, -, -, -, -⟩ := DI.cells hSe'
        have HE := Lib.hid (st_err hSe' 1 rfl)
        have HSe := Lib.hid hSe'
        clear HB3 hSe hSe' HSd H5
        go_wp2_with fail
        refine HE.out.mono ?_; rintro e wf ⟨rfl, rfl⟩
        clear HE
        dsimp only
        obtain ⟨E3, hE3⟩ : ∃ E3, r3.E = E3 := ⟨_, rfl⟩
        rw [hE3] at K9 K10 ⊢
        clear hE3
        by_cases g3 : E3 = 0
        · subst g3
          have HRE := Lib.hid (K10.out rfl)
          have hnl := HNL.out
          have hbl := HBL.out
          have hcp := st_hs_copy HSe.out 2 rfl (dd : Int) (nn : Int) (by simp [Lit.wf, IntKind.min, IntKind.max, IntKind.bits, IntKind.signed]; omega) (by simp [Lit.wf, IntKind.min, IntKind.max, IntKind.bits, IntKind.signed]; omega) (by show (s.o.b.length : Int) + _ ≤ _; split <;> omega)
          have hcp2 : Calls Tryz.prog 60 #[.pointer (some ⟨qo, 0, none⟩), .int .i64 dd, .int .i64 nn] we fun e w' => e = .returned (.int .i64 (s.o.copy dd nn).1) ∧ St W w' (DI q qr qo large kp ⟨r3, (s.o.copy dd nn).2, s.n⟩ ++ (Cds18 c a b LL LD ++ tl)) := hcp
          have HCP := Lib.hid hcp2
          clear hcp hcp2 K9 K10 hnl hbl
          go_wp2_with fail
          refine HCP.out.mono ?_; rintro e wf ⟨rfl, hS⟩
          have HS6 := Lib.hid hS
          clear HCP hS
          go_wp2_with fail
          go_ret
          rw [HRE.out]
          exact ⟨rfl, HS6.out.kp, fun _ => HS6.out⟩
        · have t3 : ((E3 : Int) != 0) = true := by simp; omega
          have HRE := Lib.hid (K9.out g3)
          have HG := Lib.hid g3
          clear K9 K10 g3
          go_wp2_with fail
          go_ret
          rw [HRE.out]
          exact ⟨rfl, HSe.out.kp, fun h => absurd h HG.out⟩
    · have t2 : ((er : Int) != 0) = true := by simp; omega
      have hRE : R.1 = er := by
        by_cases hE : r1.E = 0
        · exact (K4.out hE).1 g2
        · rw [K3.out hE, HNE.out hE]
      have HRE := Lib.hid hRE
      have HG := Lib.hid g2
      clear K3 K4 g2 hRE HNY HNE
      go_wp2_with fail
      go_ret
      rw [HRE.out]
      exact ⟨rfl, HSc.out.kp, fun h => absurd h HG.out⟩
end Go.Proofs.YtokfcgloogdeiaaGreatDoor
namespace Go.Proofs.YtokfcgloogdeiaaGreatDoor
set_option linter.unusedVariables false
set_option linter.unusedSimpArgs false
set_option maxRecDepth 100000
open Go.ChangeShapes Go.WideShapes Go.ChangeAt Go.RowKit

set_option maxHeartbeats 4000000 in
theorem wordsi18_c {W w : World} (q qr qo : Nat) (large : Bool) (kp : Option Addr) (c a b : Nat) (LL LD : List Nat) (tl : List Ob) (hL : ∀ x ∈ LL, x ≤ 16) (hD : ∀ x ∈ LD, x ≤ 16) (hlL : LL.length ≤ 1000) (hlD : LD.length ≤ 1000) (N F : Nat) (s : SI) (h : St W w (DI q qr qo large kp s ++ (Cds18 c a b LL LD ++ tl)))
    (hs : s.ok) (hcap : s.cap) (hn : s.n ≤ s.r.pos) (hrl : s.r.l.length = N) (hl : N ≤ 1000000) (hF : 8 * N + 1 ≤ s.r.pos + F) : Calls Tryz.prog 66 #[.pointer (some ⟨q, 0, none⟩), .pointer (some ⟨c, 0, none⟩)] w fun e w' =>
    e = .returned (.int .i64 (words18 large LL LD F s).1) ∧ Keep [] W w' ∧ ((words18 large LL LD F s).1 = 0 → St W w' (DI q qr qo large kp (words18 large LL LD F s).2 ++ (Cds18 c a b LL LD ++ tl))) := by
  obtain ⟨R, hR⟩ : ∃ R, words18 large LL LD F s = R := ⟨_, rfl⟩
  rw [hR]
  have HR := Lib.hid hR
  have HS := Lib.hid h; have HL := Lib.hid hL; have HD := Lib.hid hD; have HLL := Lib.hid hlL; have HLD := Lib.hid hlD
  have HOK := Lib.hid hs; have HCAP := Lib.hid hcap; have HRL := Lib.hid hrl; have HN0 := Lib.hid hl
  clear hR h hL hD hs hcap hlL hlD hrl
  go_enter Tryz.func66, Tryz.ntmps66
  go_wp2_with fail
  go_loopg [] F (fun g wr => ∃ (sk : SI), Hid (St W wr (DI q qr qo large kp sk ++ (Cds18 c a b LL LD ++ tl))) ∧ Hid (sk.r.l.length = N) ∧ Hid sk.ok ∧ Hid sk.cap ∧ sk.n ≤ sk.r.pos ∧ 8 * N + 1 ≤ sk.r.pos + g ∧ Hid (words18 large LL LD g sk = R))
  case atStart => exact ⟨s, HS, HRL, HOK, HCAP, hn, hF, HR⟩
  case round =>
    clear HS HRL HOK HCAP HR hn hF
    obtain ⟨sk, HS, HRL, HOK, HCAP, hn, hg, HR⟩ := hrel
    have hpl : sk.r.pos ≤ 8 * N := by have := HOK.out.2.1; rw [HRL.out] at this; exact this
    obtain ⟨f, rfl⟩ : ∃ f, gk = f + 1 := ⟨gk - 1, by omega⟩
    have hr := HR.out
    rw [words18] at hr
    obtain ⟨c0, -, -, c3, -, g3, -⟩ := DI.cells HS.out
    obtain ⟨d0, d1⟩ := Cds18.cells HS.out
    have HNX := st_next18 (HS.out.read ((Keep.refl [] wr).drew)) 1 3 (by decide) rfl rfl
    have hng := next_good LL HL.out sk.r
    have hfn := fwd_next LL HL.out sk.r
    obtain ⟨x, er, r1, hx⟩ : ∃ x er r1, sk.r.next LL = (x, er, r1) := ⟨_, _, _, rfl⟩
    rw [hx] at HNX hr hng hfn
    dsimp only at HNX hr hng hfn
    have HN := Lib.hid HNX
    have HRR := Lib.hid hr
    have HNG := Lib.hid hng; have HFN := Lib.hid hfn
    clear HNX hr hng hfn hx HR
    go_upto_region 1 with fail
    go_cut [5, 6] (fun v5 v6 wx => v5 = .int .i64 x ∧ v6 = .int .i64 er ∧ St W wx (DI q qr qo large kp { sk with r := r1 } ++ (Cds18 c a b LL LD ++ tl)))
    case first =>
      go_region_with (first | (go_at_call 80; (refine HN.out.mono ?_); (rintro e w3 ⟨rfl, hS⟩)))
      all_goals
        go_wp2_with fail
        go_meet
        exact ⟨rfl, rfl, hS⟩
    case rest =>
    obtain ⟨rfl, rfl, hS1'⟩ := hcut
    clear c0 c3 g3 d0 d1
    obtain ⟨c0, c1, -, c3, -, g3, -⟩ := DI.cells hS1'
    have HS1 := Lib.hid hS1'
    clear HN hS1' HS
    by_cases g1 : er = 0
    · subst g1
      obtain ⟨i, hi, -, hxi, -⟩ := HNG.out rfl HOK.out.2.1
      subst hxi
      have hfw := HFN.out rfl HOK.out.2.1
      have hr2 := HRR.out
      rw [if_neg (by simp)] at hr2
      obtain ⟨n1, hn1⟩ : ∃ n1, sk.n + 1 = n1 := ⟨_, rfl⟩
      rw [hn1] at hr2
      have wn : IntKind.i64.wrap ((sk.n : Int) + 1) = (n1 : Int) := by have := HN0.out; rw [IntKind.wrap_i64]; omega
      have hS2 := DI.count HS1.out n1
      have HS2 : Hid (St W (wc.setCell ⟨q, 3, none⟩ (.int .i64 n1)) (DI q qr qo large kp ⟨r1, sk.o, n1⟩ ++ (Cds18 c a b LL LD ++ tl))) := hS2
      have hok2 : (⟨r1, sk.o, n1⟩ : SI).ok := ⟨hfw.E1, hfw.hp, HOK.out.2.2⟩
      have hcap2 : sk.o.b.length + 100000 ≤ 100000 * n1 := by have := HCAP.out; unfold SI.cap at this; omega
      have HOK2 := Lib.hid hok2; have HCAP2 := Lib.hid hcap2
      have hp1 : sk.r.pos + 1 ≤ r1.pos := hfw.p
      have hn2 : n1 ≤ r1.pos := by omega
      have hg2 : 8 * N + 1 ≤ r1.pos + f := by omega
      have hrl1 : r1.l.length = N := by rw [hfw.l]; exact HRL.out
      have hpl2 : r1.pos ≤ 8 * N := by have := hfw.le; rw [HRL.out] at this; exact this
      have HNUM : Hid (n1 ≤ r1.pos ∧ 8 * N + 1 ≤ r1.pos + f ∧ r1.pos ≤ 8 * N ∧ r1.l.length = N) := ⟨hn2, hg2, hpl2, hrl1⟩
      have HR2 := Lib.hid hr2
      dsimp only at c3
      obtain ⟨d0, d1, -, -, -, -, -⟩ := DI.cells HS2.out
      obtain ⟨-, d2⟩ := Cds18.cells HS2.out
      have hi3 : (i : Int) < 1000 := by have := HLL.out; omega
      clear HRR hr2 HNG HFN hfw hok2 hcap2 hp1 hn2 hg2 hpl2 hS2 hn1 hpl hg hn HS1 hrl1
      by_cases g2 : i = 256
      · have t2 : ((i : Int) == 256) = true := by simp; omega
        have t2' : (i == 256) = true := by simpa using g2
        have HRE : Hid (R = (0, ⟨r1, sk.o, n1⟩)) := by have := HR2.out; rw [if_pos (by omega)] at this; exact this.symm
        clear HR2 g2
        go_wp2_with fail
        go_ret
        rw [HRE.out]
        exact ⟨rfl, HS2.out.kp, fun _ => HS2.out⟩
      · have t2 : ((i : Int) == 256) = false := by simp; omega
        have t2' : (i == 256) = false := by simpa using g2
        have hr3 := HR2.out
        rw [if_neg (by omega)] at hr3
        have htk := tok18_adv large LD HD.out (i : Int) ⟨r1, sk.o, n1⟩
        have htc := tok18_cap large LD (i : Int) ⟨r1, sk.o, n1⟩
        have ht : tok18 large LD (i : Int) ⟨r1, sk.o, n1⟩ = if (i : Int) < 256 then ((sk.o.lit (UInt8.ofNat i)).1, ⟨r1, (sk.o.lit (UInt8.ofNat i)).2, n1⟩) else copy18 large LD (i : Int) ⟨r1, sk.o, n1⟩ := by
          unfold tok18; rw [Int.toNat_natCast]
        obtain ⟨et, st, hts⟩ : ∃ et st, tok18 large LD (i : Int) ⟨r1, sk.o, n1⟩ = (et, st) := ⟨_, _, rfl⟩
        rw [hts] at hr3 htk htc ht
        dsimp only at hr3 htk htc
        have HR3 := Lib.hid hr3; have HTK := Lib.hid htk; have HTC := Lib.hid htc
        by_cases g3' : i < 256
        · have t3 : decide ((i : Int) < 256) = true := by simp; omega
          have t3' : decide (i < 256) = true := by simpa using g3'
          have hc : (UInt8.ofNat i).toNat = i := by rw [UInt8.toNat_ofNat']; exact Nat.mod_eq_of_lt g3'
          have wx : IntKind.u8.wrap (i : Int) = (i : Int) := by rw [IntKind.wrap_u8]; omega
          rw [if_pos (by omega)] at ht
          have e1 : (sk.o.lit (UInt8.ofNat i)).1 = et := (congrArg Prod.fst ht).symm
          have e2 : st = ⟨r1, (sk.o.lit (UInt8.ofNat i)).2, n1⟩ := congrArg Prod.snd ht
          have hL := st_hs_lit HS2.out 2 rfl (UInt8.ofNat i) (by have := HCAP2.out; have := HNUM.out; have := HN0.out; show sk.o.b.length + 1 ≤ _; have h5 := HOK2.out; have h6 := HCAP.out; unfold SI.cap at h6; omega)
          rw [hc] at hL
          have hL2 : Calls Tryz.prog 59 #[.pointer (some ⟨qo, 0, none⟩), .int .u8 i] (wc.setCell ⟨q, 3, none⟩ (.int .i64 n1)) fun e w' => e = .returned (.int .i64 et) ∧ St W w' (DI q qr qo large kp st ++ (Cds18 c a b LL LD ++ tl)) := by
            rw [e2, ← e1]; exact hL
          have hfs : st.r.l.length = N := by rw [e2]; exact HNUM.out.2.2.2
          have HLT := Lib.hid hL2; have HFS := Lib.hid hfs
          clear hL hL2 hfs e1 e2 ht hts hr3 htk htc hc g3' g2 HR2
          go_wp2_with fail
          refine HLT.out.mono ?_; rintro e w3 ⟨rfl, hS3⟩
          have HS3 := Lib.hid hS3
          have HK3 := Lib.hid hS3.kp
          clear HLT hS3 HS2
          by_cases g4 : et = 0
          · subst g4
            have hr4 := HR3.out
            rw [if_neg (by simp)] at hr4
            have HR4 := Lib.hid hr4
            have ha := HTK.out rfl HOK2.out
            have hb := HTC.out rfl
            have HA := Lib.hid ha; have HB := Lib.hid hb
            clear hr4 HR3 HTK HTC ha hb
            go_wp2_with fail
            go_roundg f
            case rel =>
              obtain ⟨q1, q2, q3, q4⟩ := HNUM.out
              have hA := HA.out
              obtain ⟨b1, b2⟩ := HB.out
              have h1 := hA.fw.p
              dsimp only at h1 b1 b2
              refine ⟨st, HS3, HFS, hA.ok, ?_, by omega, by omega, HR4.out⟩
              have hc := HCAP2.out
              show st.o.b.length ≤ 100000 * st.n
              rw [b2]; omega
            case measure => omega
          · have t4 : ((et : Int) != 0) = true := by simp; omega
            have HRE : Hid (R = (et, sk)) := by have := HR3.out; rw [if_pos g4] at this; exact this.symm
            have HG := Lib.hid g4
            clear HR3 g4 HTK HTC
            go_wp2_with fail
            go_ret
            rw [HRE.out]
            exact ⟨rfl, HK3.out, fun h => absurd h HG.out⟩
        · have t3 : decide ((i : Int) < 256) = false := by simp; omega
          have t3' : decide (i < 256) = false := by simpa using g3'
          rw [if_neg (by omega)] at ht
          have hcp := copyi18_c q qr qo large kp c a b LL LD tl ⟨r1, sk.o, n1⟩ (i : Int) (by simp [Lit.wf, IntKind.min, IntKind.max, IntKind.bits, IntKind.signed]; omega) HD.out (by have := HNUM.out; dsimp only; omega) (by have := HNUM.out; have := HN0.out; dsimp only; omega) HLD.out HS2.out (by have := HCAP2.out; have := HNUM.out; have := HN0.out; have h6 := HCAP.out; unfold SI.cap at h6; show sk.o.b.length ≤ _; omega)
          rw [← ht] at hcp
          have hfs : et = 0 → st.r.l.length = N := fun h0 => by
            have ha := HTK.out h0 HOK2.out
            rw [ha.fw.l]; exact HNUM.out.2.2.2
          have HLT := Lib.hid hcp; have HFS := Lib.hid hfs
          clear hcp ht hts hr3 htk htc g3' g2 HR2 hfs
          go_wp2_with fail
          refine HLT.out.mono ?_; rintro e w3 ⟨rfl, hk3, hS3⟩
          have HS3 := Lib.hid hS3
          have HK3 := Lib.hid hk3
          clear HLT hS3 hk3 HS2
          by_cases g4 : et = 0
          · subst g4
            have hr4 := HR3.out
            rw [if_neg (by simp)] at hr4
            have HR4 := Lib.hid hr4
            have ha := HTK.out rfl HOK2.out
            have hb := HTC.out rfl
            have HA := Lib.hid ha; have HB := Lib.hid hb
            clear hr4 HR3 HTK HTC ha hb
            go_wp2_with fail
            go_roundg f
            case rel =>
              obtain ⟨q1, q2, q3, q4⟩ := HNUM.out
              have hA := HA.out
              obtain ⟨b1, b2⟩ := HB.out
              have h1 := hA.fw.p
              dsimp only at h1 b1 b2
              refine ⟨st, HS3.out trivial, HFS.out trivial, hA.ok, ?_, by omega, by omega, HR4.out⟩
              have hc := HCAP2.out
              show st.o.b.length ≤ 100000 * st.n
              rw [b2]; omega
            case measure => omega
          · have t4 : ((et : Int) != 0) = true := by simp; omega
            have HRE : Hid (R = (et, sk)) := by have := HR3.out; rw [if_pos g4] at this; exact this.symm
            have HG := Lib.hid g4
            clear HR3 g4 HTK HTC
            go_wp2_with fail
            go_ret
            rw [HRE.out]
            exact ⟨rfl, HK3.out, fun h => absurd h HG.out⟩
    · have t1 : ((er : Int) != 0) = true := by simp; omega
      have HRE : Hid (R = (er, sk)) := by have := HRR.out; rw [if_pos g1] at this; exact this.symm
      have HG := Lib.hid g1
      clear HRR g1 HNG HFN
      go_wp2_with fail
      go_ret
      rw [HRE.out]
      exact ⟨rfl, HS1.out.kp, fun h => absurd h HG.out⟩
end Go.Proofs.YtokfcgloogdeiaaGreatDoor
namespace Go.Proofs.YtokfcgloogdeiaaGreatDoor
set_option linter.unusedVariables false
set_option linter.unusedSimpArgs false
open Go.ChangeShapes Go.WideShapes Go.ChangeAt Go.RowKit

theorem wf_natT (n : Nat) (h : n ≤ 9223372036854775807) : (Lit.int .i64 (n : Int)).wf = true := by simp [Lit.wf, IntKind.min, IntKind.max, IntKind.bits, IntKind.signed]; omega
theorem pcs_wf (d : Int) (hd : (Lit.int .i64 d).wf = true) (most : Nat) (hm : most ≤ 9223372036854775807) (n : Nat) : ∀ t ∈ pcs d most n, t.wf := by
  induction n using Nat.strongRecOn with
  | _ n ih =>
    by_cases h : n = 0 ∨ most = 0
    · rw [pcs, dif_pos h]; simp
    · rw [pcs, dif_neg h]
      intro t ht
      rcases List.mem_cons.1 ht with h1 | h1
      · subst h1; exact ⟨hd, wf_natT _ (by omega)⟩
      · exact ih (n - most) (by omega) t h1
/-- how many bytes a token tells -/
theorem size1_c (w : World) (t : Tk) (ht : t.wf) : Calls Tryz.prog 42 #[.agg t.cells.toArray] w fun e w' => e = .returned (.int .i64 (sz1 t)) ∧ Keep [] w w' := by
  obtain ⟨c, d, l⟩ := t
  have hl := ht.2
  simp only [Lit.wf, IntKind.min, IntKind.max, IntKind.bits, IntKind.signed, Bool.and_eq_true, decide_eq_true_eq] at hl
  have hK := (Keep.refl [] w).alloc (.cells #[.int .u8 c.toNat, .int .i64 d, .int .i64 l] 45)
  have HK := Lib.hid hK
  clear hK
  show Calls Tryz.prog 42 #[.agg #[.int .u8 c.toNat, .int .i64 d, .int .i64 l]] w _
  unfold sz1
  show Calls _ _ _ _ fun e w' => e = .returned (.int .i64 ((if l = 0 then 1 else l.toNat : Nat) : Int)) ∧ _
  by_cases h0 : l = 0
  · rw [if_pos h0]
    subst h0
    clear hl ht
    go_enter Tryz.func42, Tryz.ntmps42
    go_wp2_with fail
    go_ret
    exact ⟨rfl, HK.out⟩
  · rw [if_neg h0]
    have hb : (l == 0) = false := by simpa using h0
    have hm : max (0 : Int) l = ((l.toNat : Nat) : Int) := by omega
    obtain ⟨m, hmm⟩ : ∃ m : Nat, l.toNat = m := ⟨_, rfl⟩
    rw [hmm] at hm ⊢
    clear h0 hl ht hmm
    go_enter Tryz.func42, Tryz.ntmps42
    go_wp2_with fail
    go_ret
    exact ⟨rfl, HK.out⟩
theorem tok_size (w : World) (v : Value) (ts : List Tk) (h : Ts w v ts) : Calls Tryz.prog 19 #[v] w fun e w' => e = .returned (.int .i64 (sizeT ts)) ∧ Keep [] w w' := by
  have HI := Lib.hid (fun w' (k : Keep [] w w') i hi => (h.keep k (by simp)).at i hi)
  have HWF := Lib.hid h.wf
  obtain ⟨a, cap, rfl, hl⟩ := h.sh
  clear h
  go_enter Tryz.func19, Tryz.ntmps19
  go_wp2_with fail
  go_loopw [3, 8] (fun sv i wr => ∃ (k z : Nat), k ≤ ts.length ∧ i = .int .i64 k ∧ sv = .int .i64 z ∧ Hid (z = min 4611686018427387904 (sumT (ts.take k))) ∧ Hid (Keep [] w wr)) (fun _ i _ => ts.length - (intOf i).toNat)
  case atStart => exact ⟨0, 0, by omega, rfl, rfl, (by unfold Hid; simp [sumT]), Keep.refl _ _⟩
  case round =>
    obtain ⟨k, z, hk, rfl, rfl, HZ, HK⟩ := hrel
    by_cases hlt : k < ts.length
    · have z1 : (k : Int) < (ts.length : Int) := by omega
      obtain ⟨b, off, cap1, hv, e1, e2, e3⟩ := HI.out wr HK.out k hlt
      simp only [Value.slice.injEq] at hv
      obtain ⟨rfl, h2, rfl⟩ := hv
      clear h2
      have HST := Lib.hid (sumT_take ts k hlt)
      have HW := Lib.hid (HWF.out _ (List.getElem_mem hlt))
      generalize ts[k] = t at e1 e2 e3 HST HW
      have HS := Lib.hid (fun ww => size1_c ww t HW.out)
      have hz : z ≤ 4611686018427387904 := by have := HZ.out; omega
      have hw1 : IntKind.i64.wrap (4611686018427387904 - (z : Int)) = ((4611686018427387904 - z : Nat) : Int) := by rw [IntKind.wrap_i64]; omega
      obtain ⟨r, hr⟩ : ∃ r : Nat, 4611686018427387904 - z = r := ⟨_, rfl⟩
      rw [hr] at hw1
      obtain ⟨y, hy⟩ : ∃ y : Nat, sz1 t = y := ⟨_, rfl⟩
      rw [hy] at HST
      have HS' : Hid (∀ ww, Calls Tryz.prog 42 #[.agg #[.int .u8 t.lit.toNat, .int .i64 t.dist, .int .i64 t.len]] ww fun e w' => e = .returned (.int .i64 (y : Int)) ∧ Keep [] ww w') := by unfold Hid; rw [← hy]; exact HS.out
      clear HS hy
      obtain ⟨m, hm⟩ : ∃ m : Nat, min y r = m := ⟨_, rfl⟩
      have hm2 : min (y : Int) (r : Int) = (m : Int) := by omega
      have hw2 : IntKind.i64.wrap ((z : Int) + (m : Int)) = ((z + m : Nat) : Int) := by rw [IntKind.wrap_i64]; omega
      have HZ2 : Hid (z + m = min 4611686018427387904 (sumT (ts.take (k + 1)))) := by unfold Hid; rw [HST.out]; have := HZ.out; omega
      obtain ⟨z2, hz2⟩ : ∃ z2 : Nat, z + m = z2 := ⟨_, rfl⟩
      rw [hz2] at hw2 HZ2
      clear hm hr hz HZ HST hz2
      go_wp2_with fail
      refine (HS'.out _).mono ?_; rintro e w2 ⟨rfl, k2⟩
      have HK2 : Hid (Keep [] w w2) := (HK.out.alloc _).trans k2 (by simp)
      clear k2 HS'
      go_wp2_with fail
      go_roundw
      case rel => exact ⟨k + 1, z2, by omega, by go_num, rfl, HZ2, HK2⟩
      case measure => simp [intOf]; omega
    · obtain rfl : k = ts.length := by omega
      have HE : Hid (z = sizeT ts) := by have := HZ.out; rw [List.take_length] at this; exact this
      clear HZ
      go_wp2_with fail
      go_ret
      exact ⟨by rw [HE.out]; rfl, HK.out⟩
/-- one token told -/
theorem tell_c (w : World) (q : Nat) (bs : List Nat) (s : HS) (t : Tk) (h : Ho w q bs s) (ht : t.wf) (hl : s.b.length + sz1 t ≤ 140737488350000) : Calls Tryz.prog 41 #[.pointer (some ⟨q, 0, none⟩), .agg t.cells.toArray] w fun e w' => e = .returned (.int .i64 (s.tk t).1) ∧ HoStep w w' q bs (s.tk t).2 := by
  obtain ⟨c, d, l⟩ := t
  have hd := ht.1
  have hll := ht.2
  have hK := (Keep.refl [] w).alloc (.cells #[.int .u8 c.toNat, .int .i64 d, .int .i64 l] 45)
  have hHo := h.keep hK (by simp)
  have HB := Lib.hid hK
  have hsz : w.heap.size ≤ (w.alloc (.cells #[.int .u8 c.toNat, .int .i64 d, .int .i64 l] 45)).heap.size := by simp
  have HSZ := Lib.hid hsz
  clear hK hsz
  show Calls Tryz.prog 41 #[_, .agg #[.int .u8 c.toNat, .int .i64 d, .int .i64 l]] w _
  unfold HS.tk
  show Calls _ _ _ _ fun e w' => e = .returned (.int .i64 ((if l = 0 then s.lit c else s.copy d l).1 : Nat)) ∧ HoStep w w' q bs (if l = 0 then s.lit c else s.copy d l).2
  by_cases h0 : l = 0
  · rw [if_pos h0]
    have HC := Lib.hid (hs_lit _ q bs s c hHo (by unfold sz1 at hl; rw [if_pos h0] at hl; exact hl))
    subst h0
    clear hl hd hll ht hHo h
    go_enter Tryz.func41, Tryz.ntmps41
    go_wp2_with fail
    refine HC.out.mono ?_; rintro e w2 ⟨rfl, hst⟩
    obtain ⟨bs', h1, h2, h3⟩ := hst
    have HR : Hid (HoStep w w2 q bs (s.lit c).2) := ⟨bs', h1, HB.out.nil.trans h2 (fun x hx => .inl hx), fun b hb => (h3 b hb).imp id (fun h => Nat.le_trans HSZ.out h)⟩
    clear h1 h2 h3 HC
    go_wp2_with fail
    go_ret
    exact ⟨rfl, HR.out⟩
  · rw [if_neg h0]
    have HC := Lib.hid (hs_copy _ q bs s d l hHo hd hll (by unfold sz1 at hl; rw [if_neg h0] at hl; simp only at hl; split <;> omega))
    have hb : (l == 0) = false := by simpa using h0
    clear hl hd hll ht hHo h h0
    go_enter Tryz.func41, Tryz.ntmps41
    go_wp2_with fail
    refine HC.out.mono ?_; rintro e w2 ⟨rfl, hst⟩
    obtain ⟨bs', h1, h2, h3⟩ := hst
    have HR : Hid (HoStep w w2 q bs (s.copy d l).2) := ⟨bs', h1, HB.out.nil.trans h2 (fun x hx => .inl hx), fun b hb => (h3 b hb).imp id (fun h => Nat.le_trans HSZ.out h)⟩
    clear h1 h2 h3 HC
    go_wp2_with fail
    go_ret
    exact ⟨rfl, HR.out⟩
set_option maxRecDepth 100000 in
set_option maxHeartbeats 2000000 in
theorem tok_expand (w : World) (v : Value) (ts : List Tk) (win most : Int) (nou : Bool) (h : Ts w v ts) (hw : (Lit.int .i64 win).wf = true) (hm : (Lit.int .i64 most).wf = true) (hs : sumT ts ≤ 140737488350000) :
    Calls Tryz.prog 17 #[v, .int .i64 win, .int .i64 most, .bool nou] w fun e w' => ∃ v', e = .returned (.tuple #[v', .int .i64 (expT ts win most nou).1]) ∧ Bs w' v' (expT ts win most nou).2 ∧ Keep [] w w' := by
  have HI := Lib.hid (fun w' (k : Keep [] w w') i hi => (h.keep k (by simp)).at i hi)
  have HWF := Lib.hid h.wf
  have HSM := Lib.hid hs
  have hm' : -9223372036854775808 ≤ most ∧ most ≤ 9223372036854775807 := by simp [Lit.wf, IntKind.min, IntKind.max, IntKind.bits, IntKind.signed] at hm; omega
  obtain ⟨a, cap, rfl, hl⟩ := h.sh
  have HN := Lib.hid (hs_new w win most nou (by omega) (by omega))
  obtain ⟨R, hR⟩ : ∃ R, expT ts win most nou = R := ⟨_, rfl⟩
  rw [hR]
  have HR := Lib.hid hR
  clear h hs hw hm hm' hR
  go_enter Tryz.func17, Tryz.ntmps17
  go_wp2_with fail
  refine HN.out.mono ?_; rintro e w1 ⟨p, er, rfl, k1, n1, n2⟩
  have HK1 := Lib.hid k1; have HN1 := Lib.hid n1; have HN2 := Lib.hid n2
  clear k1 n1 n2
  by_cases hb : hsBad win most
  · obtain ⟨rfl, rfl⟩ := HN1.out hb
    have HE : Hid (R = (2, [])) := by
      rw [Hid, ← HR.out]; unfold expT; rw [if_pos (show winBad win most from hb)]
    clear HN1 HN2 HN HR hb
    go_wp2_with fail
    go_ret2
    exact ⟨_, by rw [HE.out]; rfl, by rw [HE.out]; exact Bs.nil _, HK1.out⟩
  · obtain ⟨rfl, q, bs, rfl, ho, hbs⟩ := HN2.out hb
    obtain ⟨s0, hs0⟩ : ∃ s0 : HS, (⟨win.toNat, most.toNat, nou, []⟩ : HS) = s0 := ⟨_, rfl⟩
    have HE : Hid (R = if (tellT s0 ts).1 = 0 then (0, (tellT s0 ts).2.b) else ((tellT s0 ts).1, [])) := by
      rw [Hid, ← HR.out, ← hs0]; unfold expT; rw [if_neg (show ¬ winBad win most from hb)]
    have HL0 : Hid (s0.b.length = 0) := by rw [Hid, ← hs0]; rfl
    rw [hs0] at ho
    have HH := Lib.hid ho; have HBS := Lib.hid hbs
    clear HN1 HN2 HN HR hb ho hbs hs0
    go_wp2_with fail
    go_loopw [27] (fun i wr => ∃ (k : Nat) (s : HS) (bs' : List Nat), k ≤ ts.length ∧ i = .int .i64 k ∧ Hid (tellT s0 (ts.take k) = (0, s)) ∧ Hid (Ho wr q bs' s) ∧ Hid (Keep [] w wr) ∧ Hid (∀ b ∈ bs', w.heap.size ≤ b)) (fun i _ => ts.length - (intOf i).toNat)
    case atStart => exact ⟨0, s0, bs, by omega, rfl, by simp [tellT, Hid], HH, HK1, HBS⟩
    case round =>
      obtain ⟨k, s, bs', hk, rfl, HT, HO, HK, HB⟩ := hrel
      by_cases hlt : k < ts.length
      · have z1 : (k : Int) < (ts.length : Int) := by omega
        obtain ⟨b, off, cap1, hv, e1, e2, e3⟩ := HI.out wr HK.out k hlt
        simp only [Value.slice.injEq] at hv
        obtain ⟨rfl, h2, rfl⟩ := hv
        clear h2
        have HCU : Hid (tellT s0 (ts.take (k + 1)) = s.tk ts[k]) := by
          have := tellT_cut s0 ts k hlt (by rw [HT.out])
          rw [HT.out] at this; exact this
        have HSZ : Hid (s.b.length + sz1 ts[k] ≤ 140737488350000) := by
          have h1 := tellT_size (s := s0) (ts := ts.take k) (by rw [HT.out])
          rw [HT.out] at h1
          have h2 := sumT_take ts k hlt
          have h3 := sumT_le ts (k + 1)
          have := HSM.out; have := HL0.out
          show _ ≤ _
          simp only at h1
          omega
        have HW := Lib.hid (HWF.out _ (List.getElem_mem hlt))
        generalize ts[k] = t at e1 e2 e3 HCU HSZ HW
        have hA : Keep [] wr (wr.alloc (.cells #[.int .u8 t.lit.toNat, .int .i64 t.dist, .int .i64 t.len] 45)) := (Keep.refl [] wr).alloc _
        have HTL : Hid (Calls Tryz.prog 41 #[.pointer (some ⟨q, 0, none⟩), .agg #[.int .u8 t.lit.toNat, .int .i64 t.dist, .int .i64 t.len]] (wr.alloc (.cells #[.int .u8 t.lit.toNat, .int .i64 t.dist, .int .i64 t.len] 45)) fun e w' => e = .returned (.int .i64 (s.tk t).1) ∧ HoStep (wr.alloc (.cells #[.int .u8 t.lit.toNat, .int .i64 t.dist, .int .i64 t.len] 45)) w' q bs' (s.tk t).2) := tell_c _ q bs' s t (HO.out.keep hA (by simp)) HW.out HSZ.out
        have HKA := Lib.hid (HK.out.alloc (.cells #[.int .u8 t.lit.toNat, .int .i64 t.dist, .int .i64 t.len] 45))
        clear hA HSZ HW
        obtain ⟨er, her⟩ : ∃ er : Nat, (s.tk t).1 = er := ⟨_, rfl⟩
        obtain ⟨s2, hs2⟩ : ∃ s2 : HS, (s.tk t).2 = s2 := ⟨_, rfl⟩
        rw [her, hs2] at HTL
        rw [show s.tk t = (er, s2) from Prod.ext her hs2] at HCU
        clear her hs2
        go_wp2_with fail
        refine HTL.out.mono ?_; rintro e w2 ⟨rfl, bs2, h1, h2, h3⟩
        have HO2 := Lib.hid h1
        have HK2 : Hid (Keep [] w w2) := HKA.out.trans h2 (fun x hx => .inr (HB.out x hx))
        have HB2 : Hid (∀ b ∈ bs2, w.heap.size ≤ b) := fun b hb => by
          rcases h3 b hb with h | h
          · exact HB.out b h
          · exact Nat.le_trans HKA.out.size h
        clear h1 h2 h3 HTL HKA HO HK HB
        by_cases h0 : er = 0
        · subst h0
          go_wp2_with fail
          go_roundw
          case rel => exact ⟨k + 1, s2, bs2, by omega, by go_num, HCU, HO2, HK2, HB2⟩
          case measure => simp [intOf]; omega
        · have he : ((er : Int) != 0) = true := by simp; omega
          have HE2 : Hid (R = (er, [])) := by
            have h1 := tellT_err s0 ts (k + 1) (by rw [HCU.out]; exact h0)
            rw [Hid, HE.out, h1, HCU.out, if_neg h0]
          clear h0 HE
          go_wp2_with fail
          go_ret2
          exact ⟨_, by rw [HE2.out]; rfl, by rw [HE2.out]; exact Bs.nil _, HK2.out⟩
      · obtain rfl : k = ts.length := by omega
        have HE2 : Hid (R = (0, s.b)) := by
          have h1 := HT.out
          rw [List.take_length] at h1
          rw [Hid, HE.out, h1, if_pos rfl]
        have HSL : Hid (s.b.length ≤ 140737488350000) := by
          have h1 := tellT_size (s := s0) (ts := ts) (by have := HT.out; rw [List.take_length] at this; rw [this])
          have h2 := HT.out
          rw [List.take_length] at h2
          rw [h2] at h1
          have := HSM.out; have := HL0.out
          show _ ≤ _
          simp only at h1
          omega
        have HBY := Lib.hid (hs_bytes wr q bs' s HO.out HSL.out)
        clear HE HT
        go_wp2_with fail
        refine HBY.out.mono ?_; rintro e w2 ⟨v2, rfl, o2, k2, b2⟩
        obtain ⟨ax, nx, cx, rfl⟩ := o2.shape
        have HK2 : Hid (Keep [] w w2) := HK.out.trans k2 (by simp)
        have HO2 := Lib.hid o2.bs
        clear k2 b2 o2 HBY
        go_wp2_with fail
        go_ret2
        exact ⟨_, by rw [HE2.out]; rfl, by rw [HE2.out]; exact HO2.out, HK2.out⟩
end Go.Proofs.YtokfcgloogdeiaaGreatDoor
