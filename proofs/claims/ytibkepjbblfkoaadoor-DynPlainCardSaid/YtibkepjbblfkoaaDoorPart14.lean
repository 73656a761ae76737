/- Texts put together: Can6 Can DynMath5 -/
import Derived.Test.YtibkepjbblfkoaaDoorPart10
import Derived.Laws.BitsAllLaws
import Derived.Test.YtibkepjbblfkoaaDoorPart5
import Derived.Test.YtibkepjbblfkoaaDoorPart3
namespace Go.Proofs.YtibkepjbblfkoaaDoor
set_option linter.unusedVariables false
set_option linter.unusedSimpArgs false
open Go.ChangeShapes Go.WideShapes Go.ChangeAt Go.RowKit

/-- block q is a decoder made of lengths L, bs its blocks -/
def Dec (w : World) (q : Nat) (bs L : List Nat) : Prop := ∃ sb, bs = [q, sb] ∧ q ≠ sb ∧ Mk w q sb 0 L L.length ∧ (∀ x ∈ L, x ≤ 16) ∧ wt L ≤ 65536 ∧ L.length ≤ 4096
theorem Dec.keep {w w' : World} {q : Nat} {bs L S : List Nat} (h : Dec w q bs L) (k : Keep S w w') (hs : ∀ b ∈ bs, b ∉ S) : Dec w' q bs L := by
  obtain ⟨sb, rfl, a, b, c⟩ := h
  exact ⟨sb, rfl, a, b.keep k (hs q (by simp)) (hs sb (by simp)), c⟩
theorem Dec.lt {w : World} {q : Nat} {bs L : List Nat} (h : Dec w q bs L) : ∀ b ∈ bs, b < w.heap.size := by
  obtain ⟨sb, rfl, a, ⟨cs, ss, b1, _, _, _, b2, _⟩, c⟩ := h
  intro b hb
  simp at hb
  rcases hb with rfl | rfl
  · exact b1.lt
  · exact b2.lt
theorem Dec.ok {w : World} {q : Nat} {bs L : List Nat} (h : Dec w q bs L) : (∀ x ∈ L, x ≤ 16) ∧ wt L ≤ 65536 := by
  obtain ⟨sb, rfl, a, b, c, d, _⟩ := h
  exact ⟨c, d⟩
/-- what bits begin with: a symbol and its word's length -/
def bg (L : List Nat) (x : Nat) : Nat × Nat := match pick L (tr 16 x 0) 16 with | some i => (i, len L i) | none => (0, 0)
theorem bg_hit (L : List Nat) (x i : Nat) (hL : ∀ y ∈ L, y ≤ 16) (h : hit L (tr 16 x 0) i) : bg L x = (i, len L i) := by
  unfold bg; rw [(pick_some L _ 16 i hL).2 ⟨h, h.2.2.1⟩]
theorem bg_none (L : List Nat) (x : Nat) (hL : ∀ y ∈ L, y ≤ 16) (h : ∀ i, ¬ hit L (tr 16 x 0) i) : bg L x = (0, 0) := by
  unfold bg; rw [(pick_none L _ 16 hL).2 fun i hi => absurd hi (h i)]
theorem low9 (x n c : Nat) (hn : n ≤ 9) : x % 512 % 2 ^ n = x % 2 ^ n := by
  rw [show (512 : Nat) = 2 ^ 9 from rfl]
  exact Nat.mod_mod_of_dvd x (Nat.pow_dvd_pow 2 hn)
/-- a place among the words of n bits -/
theorem place (L : List Nat) (x n : Nat) (h0 : 0 < n) (hn : n ≤ 16) (hno : ∀ i, hit L (tr 16 x 0) i → n ≤ len L i) :
    fst L n ≤ tr n x 0 ∧ (tr n x 0 - fst L n < cnt L n → ∃ i, i < L.length ∧ 0 < len L i ∧ len L i = n ∧ stt L n + (tr n x 0 - fst L n) = syAt L i ∧ hit L (tr 16 x 0) i) ∧
    (cnt L n ≤ tr n x 0 - fst L n → ∀ i, hit L (tr 16 x 0) i → n + 1 ≤ len L i) := by
  have ht := tr_top x n hn
  obtain ⟨m, rfl⟩ : ∃ m, n = m + 1 := ⟨n - 1, by omega⟩
  have hf := fst_acc L m (by omega)
  have hq : 0 < 2 ^ (16 - (m + 1)) := Nat.two_pow_pos _
  have hlo : acc L m ≤ tr 16 x 0 := by
    rcases Nat.lt_or_ge (tr 16 x 0) (acc L m) with h | h
    · obtain ⟨k, a, b, c, d⟩ := acc_find L (tr 16 x 0) m h
      obtain ⟨e1, e2⟩ := hit_of L (tr 16 x 0) k a (by omega) c d
      obtain ⟨i, hi, f1, f2⟩ := sym_at k _ L e1
      have := hno i (e2 i hi f1 f2)
      omega
    · exact h
  have hle : fst L (m + 1) ≤ tr (m + 1) x 0 := by
    rw [← ht, Nat.le_div_iff_mul_le hq, hf]; exact hlo
  have hr : (tr 16 x 0 - acc L m) / 2 ^ (16 - (m + 1)) = tr (m + 1) x 0 - fst L (m + 1) := by
    rw [← hf, Nat.mul_comm, Nat.sub_mul_div, ht]
  refine ⟨hle, fun hc => ?_, fun hc i hi => ?_⟩
  · have hc' : tr (m + 1) x 0 - fst L (m + 1) < L.count (m + 1) := by unfold cnt at hc; simpa using hc
    have hhi : tr 16 x 0 < acc L (m + 1) := by
      rw [acc, ← hf, ← Nat.add_mul]
      refine (Nat.div_lt_iff_lt_mul hq).1 ?_
      rw [ht]; omega
    obtain ⟨e1, e2⟩ := hit_of L (tr 16 x 0) (m + 1) (by omega) hn (by simpa using hlo) hhi
    rw [Nat.add_sub_cancel, hr] at e1 e2
    obtain ⟨i, hi, f1, f2⟩ := sym_at (m + 1) _ L e1
    exact ⟨i, hi, by omega, f1, by unfold syAt; rw [f1, f2], e2 i hi f1 f2⟩
  · have h1 := hno i hi
    rcases Nat.lt_or_ge (m + 1) (len L i) with h | h
    · exact h
    · have e : len L i = m + 1 := by omega
      have h2 := hi.2.2.2
      have h3 := rk_lt_cnt L i hi.1 hi.2.1
      rw [e] at h2 h3
      rw [ht] at h2
      unfold wd at h2
      rw [e] at h2
      omega
theorem or_i64 (a b : Nat) (ha : a < 4611686018427387904) (hb : b < 4611686018427387904) : Go.bits .or .i64 (a : Int) (b : Int) = ((a ||| b : Nat) : Int) := by
  have hx : a ||| b < 2 ^ 62 := Nat.or_lt_two_pow (by omega) (by omega)
  show IntKind.i64.wrap ((BitVec.ofInt 64 (a : Int) ||| BitVec.ofInt 64 (b : Int)).toNat : Int) = _
  rw [BitVec.toNat_or, ofInt_u64 a (by omega), ofInt_u64 b (by omega), IntKind.wrap_i64]
  omega
theorem or1 (a b : Nat) (ha : a < 2305843009213693952) (hb : b < 2) : Go.bits .or .i64 ((a : Int) * 2) (b : Int) = ((a * 2 + b : Nat) : Int) := by
  have := or_i64 (a * 2) b (by omega) (by omega)
  rw [nat_join1 _ _ (by omega) hb] at this
  rw [← this]; simp
theorem sub_in (a b : Nat) (h : a < 65536) (h2 : b ≤ a) : IntKind.i64.wrap ((a : Int) - b) = (a : Int) - b := by rw [IntKind.wrap_i64]; omega
theorem add_in (a b : Nat) (h : a < 1000000) (h2 : b < 65536) : IntKind.i64.wrap ((a : Int) + (b : Nat)) = ((a + b : Nat) : Int) := by rw [IntKind.wrap_i64]; omega
theorem bit1 (x n : Nat) (hx : x < 4294967296) : Go.bits .and .u32 ((x : Int) / 2 ^ n) 1 = ((x / 2 ^ n % 2 : Nat) : Int) := by
  have h := u32_and_nat (x / 2 ^ n) 1 (Nat.lt_of_le_of_lt (Nat.div_le_self _ _) hx) (by omega)
  rw [Nat.and_one_is_mod] at h
  rw [← h]; simp
set_option maxRecDepth 100000 in
set_option maxHeartbeats 4000000 in
theorem canbegin_c (w : World) (q : Nat) (bs L : List Nat) (h : Dec w q bs L) (x : Nat) (hx : x < 65536) : Calls Tryd.prog 53 #[.pointer (some ⟨q, 0, none⟩), .int .u32 x] w fun e w' => e = .returned (.tuple #[.int .i64 (bg L x).1, .int .i64 (bg L x).2]) ∧ Keep [] w w' := by
  obtain ⟨sb, rfl, hqs, ⟨cs, ss, b1, b2, b3, b4, b5, b6⟩, hL, hwt, hlen⟩ := h
  have hxm := Nat.mod_lt x (show 0 < 512 by decide)
  have hxi : (x : Int) % 512 = ((x % 512 : Nat) : Int) := by simp
  have hd : ((x % 512 : Nat) : Int) < 512 := by omega
  rcases b4 (x % 512) hxm with ⟨i, h1, h2, h3, h4, h5, h6, h7⟩ | ⟨h1, h6, h7⟩
  · have hhit : hit L (tr 16 x 0) i := by
      rw [low9 x _ 0 h4] at h5
      exact (hit_bits L x i 0 h2 hL hwt h3).1 h5
    rw [bg_hit L x i hL hhit]
    have c6 := b1.cell _ _ h6
    have c7 := b1.cell _ _ h7
    have hi16 : (i : Int) ≤ 4096 := by omega
    have hp : (0 : Int) < len L i := by omega
    clear hhit h5 h6 h7 b4 b6 b2 b3
    generalize len L i = n at *
    generalize x % 512 = y at *
    go_enter Tryd.func53, Tryd.ntmps53
    have hN := Blk.new w #[.int .i16 i, .int .i16 n] 88
    have KA : Keep [] w (w.alloc (.cells #[.int .i16 i, .int .i16 n] 88)) := (Keep.refl [] w).alloc _
    go_wp2_with fail
    have e0 := hN.cell 0 _ rfl
    have e1 := hN.cell 1 _ rfl
    generalize w.alloc (.cells #[.int .i16 i, .int .i16 n] 88) = wA at e0 e1 KA ⊢
    clear hN
    go_quiet (fail)
    go_wp2_with fail
    go_ret2
    exact ⟨rfl, KA.drewN _⟩
  · have c6 := b1.cell _ _ h6
    have c7 := b1.cell _ _ h7
    have c1 := b1.cell 1 _ b2.2.2.1
    have c53 := b1.cell 53 _ b3
    have HC := Lib.hid (fun n (hn : n < 17) => And.intro (b1.cell _ _ (b2.2.2.2 n hn).1) (And.intro (b1.cell _ _ (b2.2.2.2 n hn).2.1) (b1.cell _ _ (b2.2.2.2 n hn).2.2)))
    have HS := Lib.hid (fun i hi hp => b5.cell _ _ (b6.2 i hi hi hp))
    have HT := Lib.hid (fun w => turn_c x 9 w (by omega))
    have ht9 : turn x 9 = tr 9 x 0 := turn_code x 9 (by omega)
    rw [ht9] at HT
    have HNO : Hid (∀ i, hit L (tr 16 x 0) i → 10 ≤ len L i) := by
      intro i hi
      rcases Nat.lt_or_ge 9 (len L i) with h | h
      · exact h
      · refine absurd ((hit_bits L x i 0 hi.1 hL hwt hi.2.1).2 hi) ?_
        rw [← low9 x _ 0 h]
        exact h1 i hi.1 hi.1 hi.2.1 h
    have HP := Lib.hid (place L x)
    have HB := Lib.hid (fun i => bg_hit L x i hL)
    have HBN := Lib.hid (bg_none L x hL)
    have HTR := Lib.hid (fun k => tr_succ k x 0)
    have HTL := Lib.hid (fun k => tr_lt k x)
    have HLG := Lib.hid (longest_ge L)
    have hlg := longest_le L 16 hL
    have HSL := Lib.hid (syAt_lt L)
    have hsyn := syN_le L hlen hlg
    clear h1 h6 h7 b4 b6 b2 b3 hL hwt ht9
    generalize x % 512 = y at *
    go_enter Tryd.func53, Tryd.ntmps53
    have hN := Blk.new w #[.int .i16 0, .int .i16 0] 88
    have KA : Keep [] w (w.alloc (.cells #[.int .i16 0, .int .i16 0] 88)) := (Keep.refl [] w).alloc _
    go_wp2_with fail
    refine (HT.out _).mono ?_; rintro e w1 ⟨rfl, rfl⟩
    go_wp2_with fail
    generalize w.alloc (.cells #[.int .i16 0, .int .i16 0] 88) = wA at KA ⊢
    clear hN c6 c7
    go_loopw [7, 8] (fun u i wr => ∃ n : Nat, 10 ≤ n ∧ n ≤ 17 ∧ i = .int .i64 n ∧ u = .int .i64 (tr (n - 1) x 0) ∧ Hid (∀ i, hit L (tr 16 x 0) i → n ≤ len L i) ∧ ∃ m, wr = wA.drewN m) (fun _ i _ => 17 - (intOf i).toNat)
    case atStart =>
      have h9 := HTL.out 9
      exact ⟨10, by omega, by omega, rfl, by rw [IntWalk.wrap64_in _ (by omega)], HNO.out, 0, rfl⟩
    case round =>
      obtain ⟨n, hn1, hn2, rfl, rfl, HR, m, rfl⟩ := hrel
      have c1' := KA.cellW c1
      have c53' := KA.cellW c53
      by_cases hlt : n ≤ longest L
      · obtain ⟨d2, d3, d4⟩ := HC.out n (by omega)
        have d2 := KA.cellW d2
        have d3 := KA.cellW d3
        have d4 := KA.cellW d4
        obtain ⟨P1, P2, P3⟩ := HP.out n (by omega) (by omega) HR.out
        have htr := HTR.out (n - 1)
        rw [show n - 1 + 1 = n by omega] at htr
        have ht1 := HTL.out (n - 1)
        have ht16 : 2 ^ (n - 1) ≤ 2 ^ 15 := Nat.pow_le_pow_right (by decide) (by omega)
        have hn0 : (0 : Int) ≤ n - 1 := by omega
        have hsub : ((n : Int) - 1).toNat = n - 1 := by omega
        have hb := bit1 x (n - 1) (by omega)
        have hb2 := Nat.mod_lt (x / 2 ^ (n - 1)) (show 0 < 2 by decide)
        have ho := or1 (tr (n - 1) x 0) (x / 2 ^ (n - 1) % 2) (by omega) hb2
        rw [← htr] at ho
        have hn16 : (n : Int) < 17 := by omega
        generalize x / 2 ^ (n - 1) % 2 = bb at *
        have hw : wrap64 (bb : Int) = bb := IntWalk.wrap64_in _ (by omega)
        have htl := HTL.out n
        have ht17 : 2 ^ n ≤ 2 ^ 16 := Nat.pow_le_pow_right (by decide) (by omega)
        have hsb := sub_in (tr n x 0) (fst L n) (Nat.lt_of_lt_of_le htl (Nat.le_trans ht17 (by decide))) P1
        have hA : IntKind.i64.wrap ((stt L n : Int) + (tr n x 0 - fst L n : Nat)) = (stt L n + (tr n x 0 - fst L n) : Nat) := by
          have := stt_le L n
          have := Nat.mul_le_mul (show n ≤ 17 by omega) hlen
          exact add_in _ _ (by omega) (Nat.lt_of_le_of_lt (Nat.sub_le _ _) (Nat.lt_of_lt_of_le htl (Nat.le_trans ht17 (by decide))))
        have hsc : ((tr n x 0 : Nat) : Int) - (fst L n : Nat) = ((tr n x 0 - fst L n : Nat) : Int) := (Int.ofNat_sub P1).symm
        rw [hsc] at hsb
        have HT2 : Hid (tr n x 0 = tr (n + 1 - 1) x 0) := by unfold Hid; rw [Nat.add_sub_cancel]
        have HP2 := Lib.hid P2
        have HP3 := Lib.hid P3
        have hplu : tr n x 0 - fst L n < 65536 := Nat.lt_of_le_of_lt (Nat.sub_le _ _) (Nat.lt_of_lt_of_le htl (Nat.le_trans ht17 (by decide)))
        have hT1 : tr (n - 1) x 0 < 65536 := by omega
        clear htr ht1 ht16 htl ht17 P1 P2 P3
        generalize hpl : tr n x 0 - fst L n = pl at *
        generalize hT : tr n x 0 = T at *
        generalize fst L n = f at *
        generalize hcn : cnt L n = c at *
        generalize hst : stt L n = st at *
        generalize tr (n - 1) x 0 = T1 at *
        have HST := Lib.hid hst
        have HPL := Lib.hid hpl
        clear hpl hT hcn hst
        clear hw
        by_cases hpc : pl < c
        · obtain ⟨i, i1, i2, i3, i4, i5⟩ := HP2.out hpc
          have HF := Lib.hid (HB.out i i5)
          rw [i3] at HF
          have hsl := HSL.out i i1 i2
          have hcell := KA.cellW (HS.out i i1 i2)
          rw [← i4] at hsl hcell
          have hsi : ((st + pl : Nat) : Int) < syN L := by omega
          have hpci : (pl : Int) < c := by omega
          generalize hsp : st + pl = sp at *
          have HSP := Lib.hid hsp
          clear hsp i1 i2 i3 i4 i5 HP2 HP3 HR hsl hpc
          go_wp2_with fail
          go_quiet (fail)
          go_wp2_with fail
          go_ret2
          rw [HF.out]
          exact ⟨rfl, (KA.drewN _).drewN _⟩
        · have HR2 := Lib.hid (HP3.out (by omega))
          have hpci : ¬ (pl : Int) < c := by omega
          clear HP2 HP3 HR hpc hA
          go_wp2_with fail
          go_roundw
          case rel => exact ⟨n + 1, by omega, by omega, by go_num, by rw [HT2.out], HR2, m, rfl⟩
          case measure => simp [intOf]; omega
      · have HF := Lib.hid (HBN.out (fun i hi => by have := HR.out i hi; have := HLG.out i; omega))
        have hlti : ¬ (n : Int) ≤ longest L := by omega
        clear HR hlt
        go_wp2_with fail
        go_ret2
        rw [HF.out]
        exact ⟨rfl, KA.drewN _⟩
end Go.Proofs.YtibkepjbblfkoaaDoor
namespace Go.Proofs.YtibkepjbblfkoaaDoor
set_option linter.unusedVariables false
set_option linter.unusedSimpArgs false
open Go.ChangeShapes Go.WideShapes Go.ChangeAt Go.RowKit

theorem can_new (w : World) (v : Value) (zs : List Int) (h : Is .i64 w v zs) : Calls Tryd.prog 33 #[v] w fun e w' => ∃ p, e = .returned (.tuple #[.pointer p, .int .i64 (werr zs)]) ∧ Keep [] w w' ∧ (werr zs ≠ 0 → p = none) ∧ (werr zs = 0 → ∃ q bs, p = some ⟨q, 0, none⟩ ∧ Dec w' q bs (Ln zs) ∧ ∀ b ∈ bs, w.heap.size ≤ b) := by
  by_cases h0 : werr zs = 0
  · obtain ⟨hm, hwt⟩ := werr_ok h0
    refine (cannew_ok w v zs h h0).mono ?_
    rintro e w' ⟨q, sb, nb, rfl, k, ⟨cs, ss, m⟩, hq, hs, hne⟩
    refine ⟨_, by rw [h0]; rfl, k, fun h => absurd h0 h, fun _ => ⟨q, [q, sb], rfl, ⟨sb, rfl, hne, ⟨cs, ss, m⟩, may_Ln hm, hwt, by rw [Ln_length]; exact ((may_iff zs).1 hm).1⟩, ?_⟩⟩
    intro b hb
    simp at hb
    rcases hb with rfl | rfl <;> assumption
  · refine (cannew_err w v zs h h0).mono ?_
    rintro e w' ⟨rfl, k⟩
    exact ⟨none, rfl, k, fun _ => rfl, fun h => absurd h h0⟩
/-- a Decoder that New did not make -/
def Plain (w : World) (q : Nat) : Prop := ∃ cs, Blk w q cs 91 ∧ cs[0]? = some (.bool false) ∧ cs[1]? = some (.int .i64 0)
theorem Plain.keep {w w' : World} {q : Nat} {S : List Nat} (h : Plain w q) (k : Keep S w w') (hq : q ∉ S) : Plain w' q := by
  obtain ⟨cs, a, b⟩ := h
  exact ⟨cs, a.keep k hq, b⟩
theorem pz_plain (w : World) (q : Nat) (h : Blk w q pz 91) : Plain w q := ⟨pz, h, by kernel_rfl, by kernel_rfl⟩
theorem can_next_nil (w : World) (p : Option Addr) : Calls Tryd.prog 48 #[.pointer none, .pointer p] w fun e w' => e = .returned (.tuple #[.int .i64 (-1), .int .i64 1]) ∧ Keep [] w w' := by
  go_enter Tryd.func48, Tryd.ntmps48
  go_wp2_with fail
  go_ret2
  exact ⟨rfl, Keep.refl _ _⟩
theorem can_next_plain (w : World) (q : Nat) (p : Option Addr) (h : Plain w q) : Calls Tryd.prog 48 #[.pointer (some ⟨q, 0, none⟩), .pointer p] w fun e w' => e = .returned (.tuple #[.int .i64 (-1), .int .i64 1]) ∧ Keep [] w w' := by
  obtain ⟨cs, b1, b2, b3⟩ := h
  have c0 := b1.cell 0 _ b2
  go_enter Tryd.func48, Tryd.ntmps48
  go_wp2_with fail
  go_ret2
  exact ⟨rfl, Keep.refl _ _⟩
/-- why there is no word -/
def lk (L : List Nat) (s : RS) : Nat := if s.E ≠ 0 then s.E else if s.left < longest L then 3 else 7
theorem lack_nil (w : World) (q : Nat) (bs L : List Nat) (h : Dec w q bs L) : Calls Tryd.prog 54 #[.pointer (some ⟨q, 0, none⟩), .pointer none] w fun e w' => e = .returned (.int .i64 1) ∧ w = w' := by
  go_enter Tryd.func54, Tryd.ntmps54
  go_wp2_with fail
  refine (err_nil _).mono ?_; rintro e w1 ⟨rfl, rfl⟩
  go_wp2_with fail
  go_ret
  exact ⟨rfl, rfl⟩
theorem lack_c (w : World) (q r : Nat) (v : Value) (s : RS) (bs L : List Nat) (h : Dec w q bs L) (hr : Rd w r v s) : Calls Tryd.prog 54 #[.pointer (some ⟨q, 0, none⟩), .pointer (some ⟨r, 0, none⟩)] w fun e w' => e = .returned (.int .i64 (lk L s)) ∧ ∃ n, w' = w.drewN n := by
  obtain ⟨sb, rfl, hqs, ⟨cs, ss, b1, b2, b3, b4, b5, b6⟩, hL, hwt, hlen⟩ := h
  have c1 := b1.cell 1 _ b2.2.2.1
  have HE := Lib.hid (err_c w r v s hr)
  have HL := Lib.hid (fun n => left_c (w.drewN n) r v s (hr.drewN n))
  clear b4 b6 b2 b3
  by_cases hE : s.E = 0
  · have he : ((s.E : Int) != 0) = false := by simp [hE]
    have HK : Hid (lk L s = if s.left < longest L then 3 else 7) := by unfold Hid lk; rw [if_neg (by simpa using hE)]
    clear hE
    by_cases hl : s.left < longest L
    · rw [if_pos hl] at HK
      generalize longest L = lg at *
      generalize s.left = lf at *
      go_enter Tryd.func54, Tryd.ntmps54
      go_wp2_with fail
      refine HE.out.mono ?_; rintro e w1 ⟨rfl, rfl⟩
      go_wp2_with fail
      go_quiet ((go_at_call 39; exact Calls.quiet_of (HL.out _)))
      go_wp2_with fail
      go_ret
      exact ⟨by rw [HK.out]; rfl, _, rfl⟩
    · rw [if_neg hl] at HK
      generalize longest L = lg at *
      generalize s.left = lf at *
      go_enter Tryd.func54, Tryd.ntmps54
      go_wp2_with fail
      refine HE.out.mono ?_; rintro e w1 ⟨rfl, rfl⟩
      go_wp2_with fail
      go_quiet ((go_at_call 39; exact Calls.quiet_of (HL.out _)))
      go_wp2_with fail
      go_ret
      exact ⟨by rw [HK.out]; rfl, _, rfl⟩
  · have he : ((s.E : Int) != 0) = true := by simp; omega
    have HK : Hid (lk L s = s.E) := by unfold Hid lk; rw [if_pos hE]
    clear hE
    generalize s.E = er at *
    go_enter Tryd.func54, Tryd.ntmps54
    go_wp2_with fail
    refine HE.out.mono ?_; rintro e w1 ⟨rfl, rfl⟩
    go_wp2_with fail
    go_ret
    exact ⟨by rw [HK.out]; rfl, 0, rfl⟩
theorem num_low (l : List UInt8) (p a n : Nat) (h : n ≤ a) : num l p a % 2 ^ n = num l p n := by
  have := num_cut l p a n 0 (by omega)
  simpa using this
theorem hit_same (L : List Nat) (l : List UInt8) (p i : Nat) (hL : ∀ y ∈ L, y ≤ 16) (hwt : wt L ≤ 65536) : hit L (tr 16 (num l p (longest L)) 0) i ↔ hit L (tr 16 (num l p 16) 0) i := by
  have hlg := longest_le L 16 hL
  have h1 := longest_ge L i
  constructor
  · intro h
    refine (hit_bits L _ i 0 h.1 hL hwt h.2.1).1 ?_
    rw [num_low l p 16 _ (by omega), ← num_low l p (longest L) _ h1]
    exact (hit_bits L _ i 0 h.1 hL hwt h.2.1).2 h
  · intro h
    refine (hit_bits L _ i 0 h.1 hL hwt h.2.1).1 ?_
    rw [num_low l p (longest L) _ h1, ← num_low l p 16 _ (by omega)]
    exact (hit_bits L _ i 0 h.1 hL hwt h.2.1).2 h
/-- what the decoder finds is what the document picks -/
theorem next_bg (L : List Nat) (s : RS) (h0 : s.E = 0) (hL : ∀ y ∈ L, y ≤ 16) (hwt : wt L ≤ 65536) :
    (∃ i, bg L (num s.l s.pos (longest L)) = (i, len L i) ∧ 0 < len L i ∧ len L i ≤ min (longest L) s.left ∧ s.next L = ((i : Int), 0, { s with pos := s.pos + len L i })) ∨
    (((bg L (num s.l s.pos (longest L))).2 = 0 ∨ min (longest L) s.left < (bg L (num s.l s.pos (longest L))).2) ∧ s.next L = (-1, lk L s, s)) := by
  have hlk : lk L s = if s.left < longest L then 3 else 7 := by unfold lk; rw [if_neg (by omega)]
  by_cases hh : ∃ i, hit L (tr 16 (num s.l s.pos 16) 0) i
  · obtain ⟨i, hi⟩ := hh
    have hb := bg_hit L _ i hL ((hit_same L s.l s.pos i hL hwt).2 hi)
    have hge := longest_ge L i
    by_cases hle : len L i ≤ s.left
    · refine .inl ⟨i, hb, hi.2.1, by omega, RS.next_hit L s h0 i ((pick_some L _ _ i hL).2 ⟨hi, ?_⟩)⟩
      have := hi.2.2.1
      omega
    · refine .inr ⟨.inr (by rw [hb]; show _ < len L i; omega), ?_⟩
      rw [RS.next_none L s h0 ((pick_none L _ _ hL).2 fun k hk => ?_), hlk]
      rw [hit_unique L _ k i hk hi]; omega
  · have hno : ∀ i, ¬ hit L (tr 16 (num s.l s.pos 16) 0) i := fun i hi => hh ⟨i, hi⟩
    have hb := bg_none L (num s.l s.pos (longest L)) hL (fun i hi => hno i ((hit_same L s.l s.pos i hL hwt).1 hi))
    refine .inr ⟨.inl (by rw [hb]), ?_⟩
    rw [RS.next_none L s h0 ((pick_none L _ _ hL).2 fun k hk => absurd hk (hno k)), hlk]
theorem bits_fit (s : RS) (n : Nat) (h0 : s.E = 0) (h32 : n ≤ 32) (hl : n ≤ s.left) : s.bits n = (num s.l s.pos n, { s with pos := s.pos + n }) := by
  unfold RS.bits
  rw [if_neg (by omega), if_neg (by simpa using h0), if_neg (by omega)]
  simp
set_option maxHeartbeats 2000000 in
theorem can_next (w : World) (q r : Nat) (v : Value) (s : RS) (bs L : List Nat) (h : Dec w q bs L) (hr : Rd w r v s) (hd : r ∉ bs) : Calls Tryd.prog 48 #[.pointer (some ⟨q, 0, none⟩), .pointer (some ⟨r, 0, none⟩)] w fun e w' => e = .returned (.tuple #[.int .i64 (s.next L).1, .int .i64 (s.next L).2.1]) ∧ Rd w' r v (s.next L).2.2 ∧ Keep [r] w w' := by
  have hq : ∃ cs, Blk w q cs 91 ∧ Hd cs L := by
    obtain ⟨sb, rfl, hqs, ⟨cs, ss, b1, b2, _⟩, _⟩ := h
    exact ⟨cs, b1, b2⟩
  obtain ⟨hL, hwt⟩ := h.ok
  obtain ⟨cs, b1, b2⟩ := hq
  have c0 := b1.cell 0 _ b2.2.1
  have c1 := b1.cell 1 _ b2.2.2.1
  have hlg := longest_le L 16 hL
  have HB := Lib.hid (fun w' (k : Keep [] w w') x hx => canbegin_c w' q bs L (h.keep k (by simp)) x hx)
  have HK := Lib.hid (fun w' (k : Keep [] w w') => lack_c w' q r v s bs L (h.keep k (by simp)) (hr.keep k (by simp) (by simp)))
  have HR := Lib.hid (fun w' (k : Keep [] w w') => hr.keep k (by simp) (by simp))
  clear b2
  by_cases h0 : s.E = 0
  · have HL := Lib.hid (look_ok w r v s (longest L) hr h0 (by omega))
    have hx := num_lt s.l s.pos (longest L)
    have hx2 : 2 ^ longest L ≤ 2 ^ 16 := Nat.pow_le_pow_right (by decide) hlg
    have hx3 : num s.l s.pos (longest L) < 65536 := Nat.lt_of_lt_of_le hx hx2
    rcases next_bg L s h0 hL hwt with ⟨i, e1, e2, e3, e4⟩ | ⟨e1, e2⟩
    · have HBI := Lib.hid (fun w' (k : Keep [] w w') => bits_c w' r v s (len L i) (HR.out w' k))
      rw [bits_fit s (len L i) h0 (by have := longest_ge L i; omega) (by omega)] at HBI
      have HE4 := Lib.hid e4
      have HE1 := Lib.hid e1
      have hn0 : ((len L i : Int) == 0) = false := by simp; omega
      have hnm : ¬ ((min (longest L) s.left : Nat) : Int) < len L i := by omega
      clear e1 e4 hL hwt h0 hx hx2 e2 e3 hlg h hr b1
      generalize num s.l s.pos (longest L) = x at *
      generalize min (longest L) s.left = mn at *
      generalize len L i = n at *
      generalize longest L = lg at *
      go_enter Tryd.func48, Tryd.ntmps48
      go_wp2_with fail
      refine HL.out.mono ?_; rintro e w1 ⟨rfl, m, rfl⟩
      go_wp2_with fail
      refine (HB.out _ ((Keep.refl _ _).drewN m) x hx3).mono ?_; rintro e w2 ⟨rfl, k2⟩
      rw [HE1.out]
      have K2 := ((Keep.refl [] w).drewN m).trans k2 (by simp)
      go_wp2_with fail
      refine (HBI.out w2 K2).mono ?_; rintro e w3 ⟨rfl, hr3, k3⟩
      go_wp2_with fail
      go_ret2
      rw [HE4.out]
      exact ⟨rfl, hr3, K2.nil.trans k3 (by simp)⟩
    · have HE2 := Lib.hid e2
      generalize hbg : bg L (num s.l s.pos (longest L)) = bb at *
      obtain ⟨i, n⟩ := bb
      have HBG := Lib.hid hbg
      have e1' : n = 0 ∨ min (longest L) s.left < n := e1
      clear hL hwt h0 hx hx2 e2 hlg h hr b1 hbg e1
      generalize num s.l s.pos (longest L) = x at *
      generalize min (longest L) s.left = mn at *
      generalize longest L = lg at *
      go_enter Tryd.func48, Tryd.ntmps48
      go_wp2_with fail
      refine HL.out.mono ?_; rintro e w1 ⟨rfl, m, rfl⟩
      go_wp2_with fail
      refine (HB.out _ ((Keep.refl _ _).drewN m) x hx3).mono ?_; rintro e w2 ⟨rfl, k2⟩
      rw [HBG.out]
      have K2 := ((Keep.refl [] w).drewN m).trans k2 (by simp)
      clear k2 HL HB
      by_cases hn : n = 0
      · subst hn
        clear e1'
        go_wp2_with fail
        refine (HK.out w2 K2).mono ?_; rintro e w3 ⟨rfl, m3, rfl⟩
        go_wp2_with fail
        go_ret2
        rw [HE2.out]
        exact ⟨rfl, (HR.out w2 K2).drewN _, (K2.drewN _).nil⟩
      · have hn0 : ((n : Int) == 0) = false := by simp; omega
        have hmn : (mn : Int) < n := by omega
        clear e1' hn
        go_wp2_with fail
        refine (HK.out w2 K2).mono ?_; rintro e w3 ⟨rfl, m3, rfl⟩
        go_wp2_with fail
        go_ret2
        rw [HE2.out]
        exact ⟨rfl, (HR.out w2 K2).drewN _, (K2.drewN _).nil⟩
  · have HL := Lib.hid (look_err w r v s (longest L) hr h0)
    have HE2 : Hid (s.next L = (-1, lk L s, s)) := by
      have := RS.next_err L s h0
      unfold Hid lk; rw [if_pos h0]; exact this
    generalize hbg : bg L 0 = bb at *
    obtain ⟨i, n⟩ := bb
    have HBG := Lib.hid hbg
    clear hL hwt h0 hlg h hr b1 hbg
    generalize longest L = lg at *
    go_enter Tryd.func48, Tryd.ntmps48
    go_wp2_with fail
    refine HL.out.mono ?_; rintro e w1 ⟨rfl, rfl⟩
    go_wp2_with fail
    refine (HB.out _ (Keep.refl _ _) 0 (by omega)).mono ?_; rintro e w2 ⟨rfl, k2⟩
    rw [HBG.out]
    clear HL HB
    by_cases hn : n = 0
    · subst hn
      go_wp2_with fail
      refine (HK.out w2 k2).mono ?_; rintro e w3 ⟨rfl, m3, rfl⟩
      go_wp2_with fail
      go_ret2
      rw [HE2.out]
      exact ⟨rfl, (HR.out w2 k2).drewN _, (k2.drewN _).nil⟩
    · have hn0 : ((n : Int) == 0) = false := by simp; omega
      have hmn : (0 : Int) < n := by omega
      clear hn
      go_wp2_with fail
      refine (HK.out w2 k2).mono ?_; rintro e w3 ⟨rfl, m3, rfl⟩
      go_wp2_with fail
      go_ret2
      rw [HE2.out]
      exact ⟨rfl, (HR.out w2 k2).drewN _, (k2.drewN _).nil⟩
theorem can_next_nilrd (w : World) (q : Nat) (bs L : List Nat) (h : Dec w q bs L) : Calls Tryd.prog 48 #[.pointer (some ⟨q, 0, none⟩), .pointer none] w fun e w' => e = .returned (.tuple #[.int .i64 (-1), .int .i64 1]) ∧ Keep [] w w' := by
  have hq : ∃ cs, Blk w q cs 91 ∧ Hd cs L := by
    obtain ⟨sb, rfl, hqs, ⟨cs, ss, b1, b2, _⟩, _⟩ := h
    exact ⟨cs, b1, b2⟩
  obtain ⟨cs, b1, b2⟩ := hq
  have c0 := b1.cell 0 _ b2.2.1
  have c1 := b1.cell 1 _ b2.2.2.1
  have HB := Lib.hid (fun w' (k : Keep [] w w') x hx => canbegin_c w' q bs L (h.keep k (by simp)) x hx)
  have HK := Lib.hid (fun w' (k : Keep [] w w') => lack_nil w' q bs L (h.keep k (by simp)))
  have HL := Lib.hid (look_nil w (longest L))
  generalize hbg : bg L 0 = bb at *
  obtain ⟨i, n⟩ := bb
  have HBG := Lib.hid hbg
  clear h b1 hbg b2
  generalize longest L = lg at *
  go_enter Tryd.func48, Tryd.ntmps48
  go_wp2_with fail
  refine HL.out.mono ?_; rintro e w1 ⟨rfl, rfl⟩
  go_wp2_with fail
  refine (HB.out _ (Keep.refl _ _) 0 (by omega)).mono ?_; rintro e w2 ⟨rfl, k2⟩
  rw [HBG.out]
  clear HL HB
  by_cases hn : n = 0
  · subst hn
    go_wp2_with fail
    refine (HK.out w2 k2).mono ?_; rintro e w3 ⟨rfl, rfl⟩
    go_wp2_with fail
    go_ret2
    exact ⟨rfl, k2⟩
  · have hn0 : ((n : Int) == 0) = false := by simp; omega
    have hmn : (0 : Int) < n := by omega
    clear hn
    go_wp2_with fail
    refine (HK.out w2 k2).mono ?_; rintro e w3 ⟨rfl, rfl⟩
    go_wp2_with fail
    go_ret2
    exact ⟨rfl, k2⟩
end Go.Proofs.YtibkepjbblfkoaaDoor
namespace Go.Proofs.YtibkepjbblfkoaaDoor
set_option linter.unusedVariables false
set_option linter.unusedSimpArgs false

/-- how many lengths at the beginning are alike -/
def likeN (x : Int) : List Int → Nat
  | [] => 0
  | y :: l => if y = x then likeN x l + 1 else 0
theorem likeN_le (x : Int) (l : List Int) : likeN x l ≤ l.length := by
  induction l with
  | nil => simp [likeN]
  | cons y l ih => rw [likeN]; split
                   · simp; omega
                   · simp
theorem likeN_take (x : Int) (l : List Int) (n : Nat) (h : n ≤ likeN x l) : l.take n = List.replicate n x := by
  induction l generalizing n with
  | nil => rw [likeN] at h; obtain rfl : n = 0 := by omega
           simp
  | cons y l ih =>
    cases n with
    | zero => simp
    | succ n =>
      rw [likeN] at h
      by_cases e : y = x
      · rw [if_pos e] at h
        rw [List.take_succ_cons, List.replicate_succ, ih n (by omega), e]
      · rw [if_neg e] at h; omega
theorem likeN_at (x : Int) (l : List Int) (j : Nat) (h : ∀ i, i < j → l[i]? = some x) (he : l[j]? ≠ some x) : likeN x l = j := by
  induction l generalizing j with
  | nil =>
    cases j with
    | zero => rfl
    | succ j => have := h 0 (by omega); simp at this
  | cons y l ih =>
    rw [likeN]
    cases j with
    | zero => rw [if_neg (by intro e; exact he (by simp [e]))]
    | succ j =>
      have h0 := h 0 (by omega)
      simp at h0
      rw [if_pos h0, ih j (fun i hi => by simpa using h (i + 1) (by omega)) (by simpa using he)]
/-- the symbol for what lengths begin with, and for how many it stands -/
def beg17 (l : List Int) (last : Int) : Lt × Nat :=
  if l.getD 0 0 = 0 ∧ 11 ≤ likeN (l.getD 0 0) l then (⟨18, min (likeN (l.getD 0 0) l) 138 - 11⟩, min (likeN (l.getD 0 0) l) 138)
  else if l.getD 0 0 = 0 ∧ 3 ≤ likeN (l.getD 0 0) l then (⟨17, min (likeN (l.getD 0 0) l) 10 - 3⟩, min (likeN (l.getD 0 0) l) 10)
  else if l.getD 0 0 = last ∧ 3 ≤ likeN (l.getD 0 0) l then (⟨16, min (likeN (l.getD 0 0) l) 6 - 3⟩, min (likeN (l.getD 0 0) l) 6)
  else (⟨(l.getD 0 0).toNat, 0⟩, 1)
def few17 : Nat → List Int → Int → List Lt
  | 0, _, _ => []
  | F + 1, l, last => if l = [] then [] else (beg17 l last).1 :: few17 F (l.drop (beg17 l last).2) (l.getD 0 0)
theorem beg_ok (l : List Int) (last : Int) (h0 : l ≠ []) (hl : ∀ z ∈ l, 0 ≤ z ∧ z ≤ 15) : (beg17 l last).1.sym < 19 ∧ (beg17 l last).1.x < 2 ^ ltBits (beg17 l last).1.sym ∧ 1 ≤ (beg17 l last).2 ∧ (beg17 l last).2 ≤ l.length ∧ (beg17 l last).1.often = (beg17 l last).2 ∧
    l.take (beg17 l last).2 = List.replicate (beg17 l last).2 (l.getD 0 0) ∧ ((beg17 l last).1.sym = 16 → l.getD 0 0 = last) ∧ (∀ all : List Int, all.getLastD 0 = last ∨ (beg17 l last).1.sym ≠ 16 → what17 all ((beg17 l last).1.sym : Int) = l.getD 0 0) := by
  have hle := likeN_le (l.getD 0 0) l
  have htk := likeN_take (l.getD 0 0) l
  have hz : 0 ≤ l.getD 0 0 ∧ l.getD 0 0 ≤ 15 := by
    cases l with
    | nil => exact absurd rfl h0
    | cons y l => exact hl y (by simp)
  have h1 : 1 ≤ likeN (l.getD 0 0) l := by
    cases l with
    | nil => exact absurd rfl h0
    | cons y l => show 1 ≤ likeN y (y :: l); rw [likeN, if_pos rfl]; omega
  unfold beg17
  generalize l.getD 0 0 = x at *
  generalize likeN x l = k at *
  by_cases c1 : x = 0 ∧ 11 ≤ k
  · rw [if_pos c1]
    obtain ⟨rfl, c1⟩ := c1
    refine ⟨by dsimp only; omega, ?_, by dsimp only; omega, by dsimp only; omega, ?_, htk _ (by dsimp only; omega), fun h => by simp at h, fun all _ => rfl⟩
    · show min k 138 - 11 < 128; omega
    · show 11 + (min k 138 - 11) = min k 138; omega
  · rw [if_neg c1]
    by_cases c2 : x = 0 ∧ 3 ≤ k
    · rw [if_pos c2]
      obtain ⟨rfl, c2⟩ := c2
      refine ⟨by dsimp only; omega, ?_, by dsimp only; omega, by dsimp only; omega, ?_, htk _ (by dsimp only; omega), fun h => by simp at h, fun all _ => rfl⟩
      · show min k 10 - 3 < 8; omega
      · show 3 + (min k 10 - 3) = min k 10; omega
    · rw [if_neg c2]
      by_cases c3 : x = last ∧ 3 ≤ k
      · rw [if_pos c3]
        refine ⟨by dsimp only; omega, ?_, by dsimp only; omega, by dsimp only; omega, ?_, htk _ (by dsimp only; omega), fun _ => c3.1, fun all h => ?_⟩
        · show min k 6 - 3 < 4; omega
        · show 3 + (min k 6 - 3) = min k 6; omega
        · rcases h with h | h
          · show all.getLastD 0 = x; rw [h, c3.1]
          · exact absurd rfl h
      · rw [if_neg c3]
        refine ⟨by dsimp only; omega, by dsimp only; exact Nat.two_pow_pos _, Nat.le_refl _, by dsimp only; omega, ?_, htk 1 h1, fun h => ?_, fun all _ => ?_⟩
        · unfold Lt.often; dsimp only; rw [if_neg (by omega), if_neg (by omega), if_neg (by omega)]
        · dsimp only at h; omega
        · unfold what17; dsimp only; rw [if_neg (by omega), if_neg (by omega)]; omega
theorem getLastD_rep (all : List Int) (n : Nat) (x : Int) (h : 1 ≤ n) : (all ++ List.replicate n x).getLastD 0 = x := by
  obtain ⟨m, rfl⟩ : ∃ m, n = m + 1 := ⟨n - 1, by omega⟩
  rw [List.replicate_succ', ← List.append_assoc]
  simp
/-- what is told by the tokens is what they were made of -/
theorem few_exp (F : Nat) (l : List Int) (last : Int) (all : List Int) (hF : l.length ≤ F) (hl : ∀ z ∈ l, 0 ≤ z ∧ z ≤ 15) (h1 : all ≠ [] → all.getLastD 0 = last) (h0 : all = [] → last = -1) :
    exp17 all (few17 F l last) = all ++ l ∧ (∀ t ∈ few17 F l last, t.sym < 19 ∧ t.x < 2 ^ ltBits t.sym) ∧ (all = [] → ∀ t, (few17 F l last).head? = some t → t.sym ≠ 16) := by
  induction F generalizing l last all with
  | zero =>
    obtain rfl : l = [] := List.eq_nil_of_length_eq_zero (by omega)
    exact ⟨by simp [few17, exp17], by simp [few17], by simp [few17]⟩
  | succ F ih =>
    rw [few17]
    by_cases hn : l = []
    · subst hn
      rw [if_pos rfl]
      exact ⟨by simp [exp17], by simp, by simp⟩
    · rw [if_neg hn]
      obtain ⟨b1, b2, b3, b4, b5, b6, b7, b8⟩ := beg_ok l last hn hl
      have hx : 0 ≤ l.getD 0 0 := by
        cases l with
        | nil => exact absurd rfl hn
        | cons y l => exact (hl y (by simp)).1
      generalize (beg17 l last).1 = t at *
      generalize (beg17 l last).2 = n at *
      have hw : what17 all (t.sym : Int) = l.getD 0 0 := by
        refine b8 all ?_
        by_cases e : all = []
        · refine .inr (fun h => ?_)
          have e1 := b7 h
          have e2 := h0 e
          omega
        · exact .inl (h1 e)
      obtain ⟨i1, i2, i3⟩ := ih (l.drop n) (l.getD 0 0) (all ++ List.replicate n (l.getD 0 0)) (by rw [List.length_drop]; omega) (fun z hz => hl z (List.mem_of_mem_drop hz)) (fun _ => getLastD_rep _ _ _ b3)
        (fun e => by have := congrArg List.length e; simp at this; omega)
      refine ⟨?_, ?_, ?_⟩
      · rw [exp17, b5, hw, i1, List.append_assoc, ← b6, List.take_append_drop]
      · intro u hu
        rcases List.mem_cons.1 hu with rfl | hu
        · exact ⟨b1, b2⟩
        · exact i2 u hu
      · intro e u hu
        simp at hu
        subst hu
        intro h
        have e1 := b7 h
        have e2 := h0 e
        omega
/-- tokens that stand for no length alone tell noughts -/
theorem exp17_zero (all : List Int) (ts : List Lt) (h : ∀ t ∈ ts, 16 ≤ t.sym ∧ t.sym < 19) (ha : ∀ z ∈ all, z = 0) : ∀ z ∈ exp17 all ts, z = 0 := by
  induction ts generalizing all with
  | nil => exact ha
  | cons t ts ih =>
    rw [exp17]
    refine ih _ (fun u hu => h u (by simp [hu])) (fun z hz => ?_)
    rcases List.mem_append.1 hz with hz | hz
    · exact ha z hz
    · have hz := (List.mem_replicate.1 hz).2
      have ht := h t (by simp)
      rw [hz]
      unfold what17
      by_cases e : (t.sym : Int) = 16
      · rw [if_pos e]
        cases hl : all.getLast? with
        | none => rw [List.getLastD_eq_getLast?, hl]; rfl
        | some y => rw [List.getLastD_eq_getLast?, hl]; exact ha y (List.mem_of_getLast? hl)
      · rw [if_neg e, if_pos (by omega)]
/-- tokens of one symbol that is a length tell that alone -/
theorem exp17_same (all : List Int) (ts : List Lt) (s : Nat) (hs : s < 16) (h : ∀ t ∈ ts, t.sym = s) : exp17 all ts = all ++ List.replicate ts.length (s : Int) := by
  induction ts generalizing all with
  | nil => simp [exp17]
  | cons t ts ih =>
    have ht := h t (by simp)
    have ho : t.often = 1 := by unfold Lt.often; rw [if_neg (by omega), if_neg (by omega), if_neg (by omega)]
    have hw : what17 all (t.sym : Int) = s := by unfold what17; rw [if_neg (by omega), if_neg (by omega)]; omega
    rw [exp17, ho, hw, ih _ (fun u hu => h u (by simp [hu])), List.append_assoc, List.length_cons]
    congr 1
/-- how often a symbol comes -/
def cnt17 (ts : List Lt) : List Int := (List.range 19).map fun s => ((ts.countP fun t => t.sym == s : Nat) : Int)
theorem cnt17_len (ts : List Lt) : (cnt17 ts).length = 19 := by simp [cnt17]
theorem cnt17_at (ts : List Lt) (s : Nat) (h : s < 19) : (cnt17 ts).getD s 0 = ((ts.countP fun t => t.sym == s : Nat) : Int) := by
  rw [List.getD_eq_getElem?_getD, List.getElem?_eq_getElem (by rw [cnt17_len]; exact h)]; simp [cnt17]
theorem ct_two (p : Nat → Bool) (N i j : Nat) (hij : i < j) (hj : j < N) (pi : p i = true) (pj : p j = true) : 2 ≤ ct p N := by
  have h1 : ∀ a b, a ≤ b → ct p a ≤ ct p b := fun a b h => sm_mono _ a b h
  have h2 : ct p (i + 1) = ct p i + 1 := by rw [ct_succ, pi]; rfl
  have h3 : ct p (j + 1) = ct p j + 1 := by rw [ct_succ, pj]; rfl
  have := h1 (i + 1) j hij
  have := h1 (j + 1) N hj
  omega
/-- how many lengths of the third code stand there -/
def thN (T : List Int) : Nat → Nat
  | 0 => 0
  | n + 1 => if T.getD (ordD.getD n 0) 0 = 0 then thN T n else n + 1
theorem thN_le (T : List Int) (n : Nat) : thN T n ≤ n := by
  induction n with
  | zero => exact Nat.le_refl _
  | succ n ih => rw [thN]; split <;> omega
theorem thN_zero (T : List Int) (n i : Nat) (h1 : thN T n ≤ i) (h2 : i < n) : T.getD (ordD.getD i 0) 0 = 0 := by
  induction n with
  | zero => omega
  | succ n ih =>
    rw [thN] at h1
    by_cases h : T.getD (ordD.getD n 0) 0 = 0
    · rw [if_pos h] at h1
      by_cases e : i = n
      · rw [e]; exact h
      · exact ih h1 (by omega)
    · rw [if_neg h] at h1; omega
theorem thN_ge (T : List Int) (n i : Nat) (h : i < n) (h0 : T.getD (ordD.getD i 0) 0 ≠ 0) : i < thN T n := by
  rcases Nat.lt_or_ge i (thN T n) with g | g
  · exact g
  · exact absurd (thN_zero T n i g h) h0
theorem ordD_late : ∀ s : Fin 16, ∃ i : Fin 19, 3 ≤ i.val ∧ ordD.getD i.val 0 = s.val := by decide
/-- lists that are right have two symbols at least, one of which is a length above 0 -/
theorem few_two (l d : List Int) (ts : List Lt) (h : right17 l d true = true) (he : exp17 [] ts = l ++ d) (h19 : ∀ t ∈ ts, t.sym < 19) : (∃ t ∈ ts, t.sym < 16) ∧ ∃ t ∈ ts, ∃ u ∈ ts, t.sym < u.sym := by
  unfold right17 at h
  simp only [Bool.and_eq_true, decide_eq_true_eq] at h
  obtain ⟨⟨a1, a2, a3, a4⟩, a5, a6, a7⟩ := h
  have hm : l.getD 256 0 = l[256]'(by omega) := by rw [List.getD_eq_getElem?_getD, List.getElem?_eq_getElem (by omega)]; rfl
  rw [hm] at a5
  have hp : ∃ t ∈ ts, t.sym < 16 := by
    refine Classical.byContradiction fun hno => ?_
    have := exp17_zero [] ts (fun t ht => ⟨by
      refine Classical.byContradiction fun hlt => hno ⟨t, ht, by omega⟩, h19 t ht⟩) (by simp) (l[256]'(by omega)) (by rw [he]; exact List.mem_append_left _ (List.getElem_mem _))
    omega
  refine ⟨hp, Classical.byContradiction fun hno => ?_⟩
  obtain ⟨t, ht, hs⟩ := hp
  have hall : ∀ u ∈ ts, u.sym = t.sym := fun u hu => by
    refine Classical.byContradiction fun hne => ?_
    rcases Nat.lt_or_ge t.sym u.sym with g | g
    · exact hno ⟨t, ht, u, hu, g⟩
    · exact hno ⟨u, hu, t, ht, by omega⟩
  have hsame := exp17_same [] ts t.sym hs hall
  rw [he, List.nil_append] at hsame
  have hl : l = List.replicate l.length (t.sym : Int) := by
    rw [List.eq_replicate_iff]
    refine ⟨rfl, fun z hz => ?_⟩
    have : z ∈ l ++ d := List.mem_append_left _ hz
    rw [hsame] at this
    exact (List.mem_replicate.1 this).2
  have hs0 : 0 < t.sym := by
    have h1 : l[256]'(by omega) ∈ List.replicate l.length (t.sym : Int) := hl ▸ List.getElem_mem _
    have := (List.mem_replicate.1 h1).2
    omega
  clear a5 hm he hsame hall hno
  generalize t.sym = s at *
  generalize hn : l.length = n at *
  have hword : l.countP (fun z => decide (0 < z)) = n := by
    rw [hl, List.countP_replicate, if_pos (by simpa using hs0)]
  unfold whole17 at a6
  rw [Bool.and_eq_true] at a6
  obtain ⟨_, a6⟩ := a6
  rw [hword, if_neg (by omega), Bool.or_eq_true, Bool.and_eq_true, decide_eq_true_eq, decide_eq_true_eq] at a6
  rcases a6 with a6 | a6
  · omega
  · obtain ⟨_, hw⟩ := chk_one (by simpa using a6)
    have hLn : Ln l = List.replicate n s := by
      rw [hl]; unfold Ln; rw [List.map_replicate]; rfl
    have hwt : wt (Ln l) = n * 2 ^ (16 - s) := by
      rw [hLn]; unfold wt; rw [List.map_replicate, List.sum_replicate_nat]; unfold wt1; rw [if_neg (by omega)]
    rw [hwt] at hw
    have hs' : s ≤ 15 := by omega
    have : ∀ s : Fin 16, ∀ k : Fin 30, (257 + k.val) * 2 ^ (16 - s.val) ≠ 65536 := by decide +kernel
    exact this ⟨s, by omega⟩ ⟨n - 257, by omega⟩ (by rw [show 257 + (n - 257) = n by omega]; exact hw)
end Go.Proofs.YtibkepjbblfkoaaDoor
