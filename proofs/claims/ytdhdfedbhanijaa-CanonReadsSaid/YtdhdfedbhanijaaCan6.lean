/- Contracts of canon's begin: which symbol's word bits begin with. -/
import Derived.Test.YtdhdfedbhanijaaCan5
import Derived.Laws.BitsAllLaws
namespace Go.Proofs.Ytdhdfedbhanijaa
set_option linter.unusedVariables false
set_option linter.unusedSimpArgs false
open Go.ChangeShapes Go.WideShapes Go.ChangeAt Go.RowKit

/-- block q is a decoder made of lengths L, bs its blocks -/
def Dec (w : World) (q : Nat) (bs L : List Nat) : Prop := ∃ sb, bs = [q, sb] ∧ q ≠ sb ∧ Mk w q sb 0 L L.length ∧ (∀ x ∈ L, x ≤ 16) ∧ wt L ≤ 65536 ∧ L.length ≤ 4096
theorem Dec.keep {w w' : World} {q : Nat} {bs L S : List Nat} (h : Dec w q bs L) (k : Keep S w w') (hs : ∀ b ∈ bs, b ∉ S) : Dec w' q bs L := by
  obtain ⟨sb, rfl, a, b, c⟩ := h
  exact ⟨sb, rfl, a, b.keep k (hs q (by simp)) (hs sb (by simp)), c⟩
theorem Dec.lt {w : World} {q : Nat} {bs L : List Nat} (h : Dec w q bs L) : ∀ b ∈ bs, b < w.heap.size := by
  obtain ⟨sb, rfl, a, ⟨cs, ss, b1, _, _, _, b2, _⟩, c⟩ := h
  intro b hb
  simp at hb
  rcases hb with rfl | rfl
  · exact b1.lt
  · exact b2.lt
theorem Dec.ok {w : World} {q : Nat} {bs L : List Nat} (h : Dec w q bs L) : (∀ x ∈ L, x ≤ 16) ∧ wt L ≤ 65536 := by
  obtain ⟨sb, rfl, a, b, c, d, _⟩ := h
  exact ⟨c, d⟩
/-- what bits begin with: a symbol and its word's length -/
def bg (L : List Nat) (x : Nat) : Nat × Nat := match pick L (tr 16 x 0) 16 with | some i => (i, len L i) | none => (0, 0)
theorem bg_hit (L : List Nat) (x i : Nat) (hL : ∀ y ∈ L, y ≤ 16) (h : hit L (tr 16 x 0) i) : bg L x = (i, len L i) := by
  unfold bg; rw [(pick_some L _ 16 i hL).2 ⟨h, h.2.2.1⟩]
theorem bg_none (L : List Nat) (x : Nat) (hL : ∀ y ∈ L, y ≤ 16) (h : ∀ i, ¬ hit L (tr 16 x 0) i) : bg L x = (0, 0) := by
  unfold bg; rw [(pick_none L _ 16 hL).2 fun i hi => absurd hi (h i)]
theorem low9 (x n c : Nat) (hn : n ≤ 9) : x % 512 % 2 ^ n = x % 2 ^ n := by
  rw [show (512 : Nat) = 2 ^ 9 from rfl]
  exact Nat.mod_mod_of_dvd x (Nat.pow_dvd_pow 2 hn)
/-- a place among the words of n bits -/
theorem place (L : List Nat) (x n : Nat) (h0 : 0 < n) (hn : n ≤ 16) (hno : ∀ i, hit L (tr 16 x 0) i → n ≤ len L i) :
    fst L n ≤ tr n x 0 ∧ (tr n x 0 - fst L n < cnt L n → ∃ i, i < L.length ∧ 0 < len L i ∧ len L i = n ∧ stt L n + (tr n x 0 - fst L n) = syAt L i ∧ hit L (tr 16 x 0) i) ∧
    (cnt L n ≤ tr n x 0 - fst L n → ∀ i, hit L (tr 16 x 0) i → n + 1 ≤ len L i) := by
  have ht := tr_top x n hn
  obtain ⟨m, rfl⟩ : ∃ m, n = m + 1 := ⟨n - 1, by omega⟩
  have hf := fst_acc L m (by omega)
  have hq : 0 < 2 ^ (16 - (m + 1)) := Nat.two_pow_pos _
  have hlo : acc L m ≤ tr 16 x 0 := by
    rcases Nat.lt_or_ge (tr 16 x 0) (acc L m) with h | h
    · obtain ⟨k, a, b, c, d⟩ := acc_find L (tr 16 x 0) m h
      obtain ⟨e1, e2⟩ := hit_of L (tr 16 x 0) k a (by omega) c d
      obtain ⟨i, hi, f1, f2⟩ := sym_at k _ L e1
      have := hno i (e2 i hi f1 f2)
      omega
    · exact h
  have hle : fst L (m + 1) ≤ tr (m + 1) x 0 := by
    rw [← ht, Nat.le_div_iff_mul_le hq, hf]; exact hlo
  have hr : (tr 16 x 0 - acc L m) / 2 ^ (16 - (m + 1)) = tr (m + 1) x 0 - fst L (m + 1) := by
    rw [← hf, Nat.mul_comm, Nat.sub_mul_div, ht]
  refine ⟨hle, fun hc => ?_, fun hc i hi => ?_⟩
  · have hc' : tr (m + 1) x 0 - fst L (m + 1) < L.count (m + 1) := by unfold cnt at hc; simpa using hc
    have hhi : tr 16 x 0 < acc L (m + 1) := by
      rw [acc, ← hf, ← Nat.add_mul]
      refine (Nat.div_lt_iff_lt_mul hq).1 ?_
      rw [ht]; omega
    obtain ⟨e1, e2⟩ := hit_of L (tr 16 x 0) (m + 1) (by omega) hn (by simpa using hlo) hhi
    rw [Nat.add_sub_cancel, hr] at e1 e2
    obtain ⟨i, hi, f1, f2⟩ := sym_at (m + 1) _ L e1
    exact ⟨i, hi, by omega, f1, by unfold syAt; rw [f1, f2], e2 i hi f1 f2⟩
  · have h1 := hno i hi
    rcases Nat.lt_or_ge (m + 1) (len L i) with h | h
    · exact h
    · have e : len L i = m + 1 := by omega
      have h2 := hi.2.2.2
      have h3 := rk_lt_cnt L i hi.1 hi.2.1
      rw [e] at h2 h3
      rw [ht] at h2
      unfold wd at h2
      rw [e] at h2
      omega
theorem or_i64 (a b : Nat) (ha : a < 4611686018427387904) (hb : b < 4611686018427387904) : Go.bits .or .i64 (a : Int) (b : Int) = ((a ||| b : Nat) : Int) := by
  have hx : a ||| b < 2 ^ 62 := Nat.or_lt_two_pow (by omega) (by omega)
  show IntKind.i64.wrap ((BitVec.ofInt 64 (a : Int) ||| BitVec.ofInt 64 (b : Int)).toNat : Int) = _
  rw [BitVec.toNat_or, ofInt_u64 a (by omega), ofInt_u64 b (by omega), IntKind.wrap_i64]
  omega
theorem or1 (a b : Nat) (ha : a < 2305843009213693952) (hb : b < 2) : Go.bits .or .i64 ((a : Int) * 2) (b : Int) = ((a * 2 + b : Nat) : Int) := by
  have := or_i64 (a * 2) b (by omega) (by omega)
  rw [nat_join1 _ _ (by omega) hb] at this
  rw [← this]; simp
theorem sub_in (a b : Nat) (h : a < 65536) (h2 : b ≤ a) : IntKind.i64.wrap ((a : Int) - b) = (a : Int) - b := by rw [IntKind.wrap_i64]; omega
theorem add_in (a b : Nat) (h : a < 1000000) (h2 : b < 65536) : IntKind.i64.wrap ((a : Int) + (b : Nat)) = ((a + b : Nat) : Int) := by rw [IntKind.wrap_i64]; omega
theorem bit1 (x n : Nat) (hx : x < 4294967296) : Go.bits .and .u32 ((x : Int) / 2 ^ n) 1 = ((x / 2 ^ n % 2 : Nat) : Int) := by
  have h := u32_and_nat (x / 2 ^ n) 1 (Nat.lt_of_le_of_lt (Nat.div_le_self _ _) hx) (by omega)
  rw [Nat.and_one_is_mod] at h
  rw [← h]; simp
set_option maxRecDepth 100000 in
set_option maxHeartbeats 4000000 in
theorem begin_c (w : World) (q : Nat) (bs L : List Nat) (h : Dec w q bs L) (x : Nat) (hx : x < 65536) : Calls Try.prog 48 #[.pointer (some ⟨q, 0, none⟩), .int .u32 x] w fun e w' => e = .returned (.tuple #[.int .i64 (bg L x).1, .int .i64 (bg L x).2]) ∧ Keep [] w w' := by
  obtain ⟨sb, rfl, hqs, ⟨cs, ss, b1, b2, b3, b4, b5, b6⟩, hL, hwt, hlen⟩ := h
  have hxm := Nat.mod_lt x (show 0 < 512 by decide)
  have hxi : (x : Int) % 512 = ((x % 512 : Nat) : Int) := by simp
  have hd : ((x % 512 : Nat) : Int) < 512 := by omega
  rcases b4 (x % 512) hxm with ⟨i, h1, h2, h3, h4, h5, h6, h7⟩ | ⟨h1, h6, h7⟩
  · have hhit : hit L (tr 16 x 0) i := by
      rw [low9 x _ 0 h4] at h5
      exact (hit_bits L x i 0 h2 hL hwt h3).1 h5
    rw [bg_hit L x i hL hhit]
    have c6 := b1.cell _ _ h6
    have c7 := b1.cell _ _ h7
    have hi16 : (i : Int) ≤ 4096 := by omega
    have hp : (0 : Int) < len L i := by omega
    clear hhit h5 h6 h7 b4 b6 b2 b3
    generalize len L i = n at *
    generalize x % 512 = y at *
    go_enter Try.func48, Try.ntmps48
    have hN := Blk.new w #[.int .i16 i, .int .i16 n] 67
    have KA : Keep [] w (w.alloc (.cells #[.int .i16 i, .int .i16 n] 67)) := (Keep.refl [] w).alloc _
    go_wp2_with fail
    have e0 := hN.cell 0 _ rfl
    have e1 := hN.cell 1 _ rfl
    generalize w.alloc (.cells #[.int .i16 i, .int .i16 n] 67) = wA at e0 e1 KA ⊢
    clear hN
    go_quiet (fail)
    go_wp2_with fail
    go_ret2
    exact ⟨rfl, KA.drewN _⟩
  · have c6 := b1.cell _ _ h6
    have c7 := b1.cell _ _ h7
    have c1 := b1.cell 1 _ b2.2.2.1
    have c53 := b1.cell 53 _ b3
    have HC := Lib.hid (fun n (hn : n < 17) => And.intro (b1.cell _ _ (b2.2.2.2 n hn).1) (And.intro (b1.cell _ _ (b2.2.2.2 n hn).2.1) (b1.cell _ _ (b2.2.2.2 n hn).2.2)))
    have HS := Lib.hid (fun i hi hp => b5.cell _ _ (b6.2 i hi hi hp))
    have HT := Lib.hid (fun w => turn_c x 9 w (by omega))
    have ht9 : turn x 9 = tr 9 x 0 := turn_code x 9 (by omega)
    rw [ht9] at HT
    have HNO : Hid (∀ i, hit L (tr 16 x 0) i → 10 ≤ len L i) := by
      intro i hi
      rcases Nat.lt_or_ge 9 (len L i) with h | h
      · exact h
      · refine absurd ((hit_bits L x i 0 hi.1 hL hwt hi.2.1).2 hi) ?_
        rw [← low9 x _ 0 h]
        exact h1 i hi.1 hi.1 hi.2.1 h
    have HP := Lib.hid (place L x)
    have HB := Lib.hid (fun i => bg_hit L x i hL)
    have HBN := Lib.hid (bg_none L x hL)
    have HTR := Lib.hid (fun k => tr_succ k x 0)
    have HTL := Lib.hid (fun k => tr_lt k x)
    have HLG := Lib.hid (longest_ge L)
    have hlg := longest_le L 16 hL
    have HSL := Lib.hid (syAt_lt L)
    have hsyn := syN_le L hlen hlg
    clear h1 h6 h7 b4 b6 b2 b3 hL hwt ht9
    generalize x % 512 = y at *
    go_enter Try.func48, Try.ntmps48
    have hN := Blk.new w #[.int .i16 0, .int .i16 0] 67
    have KA : Keep [] w (w.alloc (.cells #[.int .i16 0, .int .i16 0] 67)) := (Keep.refl [] w).alloc _
    go_wp2_with fail
    refine (HT.out _).mono ?_; rintro e w1 ⟨rfl, rfl⟩
    go_wp2_with fail
    generalize w.alloc (.cells #[.int .i16 0, .int .i16 0] 67) = wA at KA ⊢
    clear hN c6 c7
    go_loopw [7, 8] (fun u i wr => ∃ n : Nat, 10 ≤ n ∧ n ≤ 17 ∧ i = .int .i64 n ∧ u = .int .i64 (tr (n - 1) x 0) ∧ Hid (∀ i, hit L (tr 16 x 0) i → n ≤ len L i) ∧ ∃ m, wr = wA.drewN m) (fun _ i _ => 17 - (intOf i).toNat)
    case atStart =>
      have h9 := HTL.out 9
      exact ⟨10, by omega, by omega, rfl, by rw [IntWalk.wrap64_in _ (by omega)], HNO.out, 0, rfl⟩
    case round =>
      obtain ⟨n, hn1, hn2, rfl, rfl, HR, m, rfl⟩ := hrel
      have c1' := KA.cellW c1
      have c53' := KA.cellW c53
      by_cases hlt : n ≤ longest L
      · obtain ⟨d2, d3, d4⟩ := HC.out n (by omega)
        have d2 := KA.cellW d2
        have d3 := KA.cellW d3
        have d4 := KA.cellW d4
        obtain ⟨P1, P2, P3⟩ := HP.out n (by omega) (by omega) HR.out
        have htr := HTR.out (n - 1)
        rw [show n - 1 + 1 = n by omega] at htr
        have ht1 := HTL.out (n - 1)
        have ht16 : 2 ^ (n - 1) ≤ 2 ^ 15 := Nat.pow_le_pow_right (by decide) (by omega)
        have hn0 : (0 : Int) ≤ n - 1 := by omega
        have hsub : ((n : Int) - 1).toNat = n - 1 := by omega
        have hb := bit1 x (n - 1) (by omega)
        have hb2 := Nat.mod_lt (x / 2 ^ (n - 1)) (show 0 < 2 by decide)
        have ho := or1 (tr (n - 1) x 0) (x / 2 ^ (n - 1) % 2) (by omega) hb2
        rw [← htr] at ho
        have hn16 : (n : Int) < 17 := by omega
        generalize x / 2 ^ (n - 1) % 2 = bb at *
        have hw : wrap64 (bb : Int) = bb := IntWalk.wrap64_in _ (by omega)
        have htl := HTL.out n
        have ht17 : 2 ^ n ≤ 2 ^ 16 := Nat.pow_le_pow_right (by decide) (by omega)
        have hsb := sub_in (tr n x 0) (fst L n) (Nat.lt_of_lt_of_le htl (Nat.le_trans ht17 (by decide))) P1
        have hA : IntKind.i64.wrap ((stt L n : Int) + (tr n x 0 - fst L n : Nat)) = (stt L n + (tr n x 0 - fst L n) : Nat) := by
          have := stt_le L n
          have := Nat.mul_le_mul (show n ≤ 17 by omega) hlen
          exact add_in _ _ (by omega) (Nat.lt_of_le_of_lt (Nat.sub_le _ _) (Nat.lt_of_lt_of_le htl (Nat.le_trans ht17 (by decide))))
        have hsc : ((tr n x 0 : Nat) : Int) - (fst L n : Nat) = ((tr n x 0 - fst L n : Nat) : Int) := (Int.ofNat_sub P1).symm
        rw [hsc] at hsb
        have HT2 : Hid (tr n x 0 = tr (n + 1 - 1) x 0) := by unfold Hid; rw [Nat.add_sub_cancel]
        have HP2 := Lib.hid P2
        have HP3 := Lib.hid P3
        have hplu : tr n x 0 - fst L n < 65536 := Nat.lt_of_le_of_lt (Nat.sub_le _ _) (Nat.lt_of_lt_of_le htl (Nat.le_trans ht17 (by decide)))
        have hT1 : tr (n - 1) x 0 < 65536 := by omega
        clear htr ht1 ht16 htl ht17 P1 P2 P3
        generalize hpl : tr n x 0 - fst L n = pl at *
        generalize hT : tr n x 0 = T at *
        generalize fst L n = f at *
        generalize hcn : cnt L n = c at *
        generalize hst : stt L n = st at *
        generalize tr (n - 1) x 0 = T1 at *
        have HST := Lib.hid hst
        have HPL := Lib.hid hpl
        clear hpl hT hcn hst
        clear hw
        by_cases hpc : pl < c
        · obtain ⟨i, i1, i2, i3, i4, i5⟩ := HP2.out hpc
          have HF := Lib.hid (HB.out i i5)
          rw [i3] at HF
          have hsl := HSL.out i i1 i2
          have hcell := KA.cellW (HS.out i i1 i2)
          rw [← i4] at hsl hcell
          have hsi : ((st + pl : Nat) : Int) < syN L := by omega
          have hpci : (pl : Int) < c := by omega
          generalize hsp : st + pl = sp at *
          have HSP := Lib.hid hsp
          clear hsp i1 i2 i3 i4 i5 HP2 HP3 HR hsl hpc
          go_wp2_with fail
          go_quiet (fail)
          go_wp2_with fail
          go_ret2
          rw [HF.out]
          exact ⟨rfl, (KA.drewN _).drewN _⟩
        · have HR2 := Lib.hid (HP3.out (by omega))
          have hpci : ¬ (pl : Int) < c := by omega
          clear HP2 HP3 HR hpc hA
          go_wp2_with fail
          go_roundw
          case rel => exact ⟨n + 1, by omega, by omega, by go_num, by rw [HT2.out], HR2, m, rfl⟩
          case measure => simp [intOf]; omega
      · have HF := Lib.hid (HBN.out (fun i hi => by have := HR.out i hi; have := HLG.out i; omega))
        have hlti : ¬ (n : Int) ≤ longest L := by omega
        clear HR hlt
        go_wp2_with fail
        go_ret2
        rw [HF.out]
        exact ⟨rfl, KA.drewN _⟩
end Go.Proofs.Ytdhdfedbhanijaa
