/- Contract of sfano's lay. -/
import Derived.Test.YtblogjpoijfpbaaSf2
import Derived.Test.YtblogjpoijfpbaaQuietTail
import Derived.Test.YtblogjpoijfpbaaBitMath
namespace Go.Proofs.Ytblogjpoijfpbaa
set_option linter.unusedVariables false
set_option linter.unusedSimpArgs false
open Go.ChangeShapes Go.WideShapes Go.ChangeAt Go.RowKit

/-- append of one fork -/
theorem wpList_appendF {w : World} {ops : Array Oper} {rest : List Oper} {o : Oper} {a : Act} {Q : Exit → Act → World → Prop} (s x : Operand) (hgd : o.guard = none)
    (ho : o.op = .call { callee := .builtin .append, args := #[s, x], argTypes := #[67, 67] })
    (v : Value) (F : Nat → Nat → Int) (n : Nat) (hs : a.eval s = v) (hown : OwnF w v F n) (hz : F n 0 = 0 ∧ F n 1 = 0) (g : Nat) (hx : a.eval x = .slice (some ⟨g, 0, none⟩) 1 1) (hsrc : Blk w g #[.int .i16 0, .int .i16 0] 84) (hlen : n ≤ 100000)
    (h : ∀ v' w', OwnF w' v' F (n + 1) → Keep v.ownBlock.toList w w' → (∀ b, v'.ownBlock = some b → v.ownBlock = some b ∨ b = w.heap.size) → wpList Try.prog ops Q rest (a.put o.dst v') w') : wpList Try.prog ops Q (o :: rest) a w := by
  obtain ⟨i0, hi, hzz⟩ := Option.map_eq_some_iff.1 infoF
  simp only [Prod.mk.injEq] at hzz
  obtain ⟨hz0, hz1, hz2⟩ := hzz
  obtain ⟨z, hz0, hzc⟩ := Option.map_eq_some_iff.1 hz0
  have hS : Src w 2 (.slice (some ⟨g, 0, none⟩) 1 1) 1 [.int .i16 (F n 0), .int .i16 (F n 1)] := by
    refine ⟨rfl, by simp [Value.oneCell'], .inr ⟨⟨g, 0, none⟩, 1, rfl, fun j u hu => ?_⟩⟩
    have e : ∀ m, ((⟨g, 0, none⟩ : Addr).add m) = ⟨g, m, none⟩ := fun m => by cases m <;> simp [Addr.add]
    rw [e]
    rw [hz.1, hz.2] at hu
    exact hsrc.cell j u (by simpa using hu)
  obtain ⟨v', w', hr, h2, h3, h4, h5⟩ := run_append_any (P := Try.prog) w 67 o.type 84 i0 z 2 4 Try.underlying67 hi hz0 hz1 hz2 (by rw [hzc]; rfl) (by decide) v n (cellsF F n) hown (.slice (some ⟨g, 0, none⟩) 1 1) 1 [.int .i16 (F n 0), .int .i16 (F n 1)] hS (by unfold maxLen; omega) (by omega)
  refine wpList_plain hgd fun K hK => ?_
  unfold Oper.wp execOp
  simp only [ho, resolve, invoke, builtin, Sem.run_bind, Sem.run_pure, Result.andThen_ok, List.map_toArray, List.map_cons, List.map_nil, hs, hx, hr]
  exact hK _ _ (h v' w' (by unfold OwnF; rw [cellsF_succ]; exact h2) ((Keep.refl _ _).grown h3 (fun k hk => .inl (by simp [hk]))) h4)
theorem Tr.bound {L : List Nat} {F : Nat → Nat → Int} {n k m : Nat} {nm dp : Nat → Nat} (h : Tr L F n k m nm dp) (hk : k ≤ 256) (j b : Nat) (hj : j < n) (hb : b < 2) : -256 ≤ F j b ∧ F j b < n := by
  rcases Int.lt_trichotomy (F j b) 0 with h1 | h1 | h1
  · obtain ⟨s, s1, s2, _⟩ := h.leaf j b hj hb h1
    omega
  · omega
  · have := (h.up j b hj hb h1).1
    omega
theorem bit1' (x n : Nat) (hx : x < 4294967296) : Go.bits .and .u32 ((x : Int) / 2 ^ n) 1 = ((x / 2 ^ n % 2 : Nat) : Int) := by
  have h := u32_and_nat (x / 2 ^ n) 1 (Nat.lt_of_le_of_lt (Nat.div_le_self _ _) hx) (by omega)
  rw [Nat.and_one_is_mod] at h
  rw [← h]; simp
/-- what lay's loop holds between its rounds: the first j bits have led to fork a -/
structure LyS (w1 : World) (q g0 n0 bw : Nat) (L : List Nat) (k c : Nat) (j a g n cap : Nat) (F : Nat → Nat → Int) (nm dp : Nat → Nat) (wr : World) : Prop where
  blk : Blk wr q #[.slice (some ⟨g, 0, none⟩) n cap] 69
  ne : q ≠ g
  own : OwnF wr (.slice (some ⟨g, 0, none⟩) n cap) F n
  tr : Tr L F n k (k + 1) nm dp
  ats : Ats L F n nm dp c j a
  nb : n ≤ n0 + j
  keep : Keep [q, g0] w1 wr
  fresh : g = g0 ∨ w1.heap.size ≤ g
  box : Blk wr bw #[.int .u32 c, .int .i64 (len L k : Nat)] 61
  bne : bw ≠ q ∧ bw ≠ g ∧ bw ≠ g0
theorem notI16F : ∀ k : Fin 256, Go.bits .xor .i16 (-1) ((k.val : Nat) : Int) = -(((k.val : Nat) : Int) + 1) := by decide +kernel
theorem notI16 (k : Nat) (h : k < 256) : Go.bits .xor .i16 (-1) (k : Int) = -((k : Int) + 1) := notI16F ⟨k, h⟩
set_option maxRecDepth 100000 in
set_option maxHeartbeats 4000000 in
theorem lay_c (w : World) (q g0 n0 cap0 : Nat) (L : List Nat) (F0 : Nat → Nat → Int) (nm0 dp0 : Nat → Nat) (k : Nat) (hB : Blk w q #[.slice (some ⟨g0, 0, none⟩) n0 cap0] 69) (hne : q ≠ g0) (hO : OwnF w (.slice (some ⟨g0, 0, none⟩) n0 cap0) F0 n0)
    (hT : Tr L F0 n0 k k nm0 dp0) (hk : k < L.length) (hL : L.length ≤ 256) (hl : ∀ t, t < L.length → 1 ≤ len L t ∧ len L t ≤ 16) (hf : tot16 L = 65536) (hn0 : n0 ≤ 10000) :
    Calls Try.prog 37 #[.pointer (some ⟨q, 0, none⟩), .int .i64 k, .agg #[.int .u32 (scode L k : Nat), .int .i64 (len L k : Nat)]] w fun e w' => e = .returned (.tuple #[]) ∧ ∃ g n cap F nm dp,
      Blk w' q #[.slice (some ⟨g, 0, none⟩) n cap] 69 ∧ q ≠ g ∧ OwnF w' (.slice (some ⟨g, 0, none⟩) n cap) F n ∧ Tr L F n (k + 1) (k + 1) nm dp ∧ Keep [q, g0] w w' ∧ (g = g0 ∨ w.heap.size ≤ g) ∧ n ≤ n0 + 15 := by
  obtain ⟨hl1, hl16⟩ := hl k hk
  have hc32 : scode L k < 4294967296 := Nat.lt_of_lt_of_le (scode_lt L k) (Nat.le_trans (Nat.pow_le_pow_right (by decide) hl16) (by decide))
  have hg0 := hO.lt g0 rfl
  have hS0 : Hid (LyS (w.alloc (.cells #[.int .u32 (scode L k : Nat), .int .i64 (len L k : Nat)] 61)) q g0 n0 w.heap.size L k (scode L k) 0 0 g0 n0 cap0 F0 nm0 dp0 (w.alloc (.cells #[.int .u32 (scode L k : Nat), .int .i64 (len L k : Nat)] 61))) := by
    have hq := hB.lt
    exact ⟨hB.alloc _, hne, hO.keep ((Keep.refl [] w).alloc _) (by simp), hT.more (by omega), Ats.start hT _, by omega, Keep.refl _ _, .inl rfl, Blk.new w _ _, by omega, by omega, by omega⟩
  have HK1 : Hid (Keep [] w (w.alloc (.cells #[.int .u32 (scode L k : Nat), .int .i64 (len L k : Nat)] 61)) ∧ w.heap.size ≤ (w.alloc (.cells #[.int .u32 (scode L k : Nat), .int .i64 (len L k : Nat)] 61)).heap.size) := ⟨(Keep.refl [] w).alloc _, by simp⟩
  have HL := Lib.hid hl
  have hb1 : (w.alloc (.cells #[.int .u32 (scode L k : Nat), .int .i64 (len L k : Nat)] 61)).cell? ⟨w.heap.size, 1, none⟩ = some (.int .i64 (len L k : Nat)) := (Blk.new w #[.int .u32 (scode L k : Nat), .int .i64 (len L k : Nat)] 61).cell 1 _ rfl
  clear hB hO hT hl
  generalize hC : scode L k = c at *
  generalize hZ : len L k = y at *
  obtain ⟨z, hyz⟩ : ∃ z, y = z + 1 := ⟨y - 1, by omega⟩
  have HC := Lib.hid hC
  have HZ : Hid (len L k = z + 1) := hZ.trans hyz
  have hz16 : z ≤ 15 := by omega
  have hwz : IntKind.i64.wrap ((y : Int) - 1) = z := by rw [IntKind.wrap_i64]; omega
  clear hC hZ hl1 hl16 hyz
  go_enter Try.func37, Try.ntmps37
  go_wp2_with fail
  obtain ⟨w1, hw1⟩ : ∃ x, (w.alloc (.cells #[.int .u32 (c : Nat), .int .i64 (y : Nat)] 61)) = x := ⟨_, rfl⟩
  rw [hw1] at hb1 hS0 HK1 ⊢
  clear hw1
  obtain ⟨bw, hbw⟩ : ∃ x, w.heap.size = x := ⟨_, rfl⟩
  rw [hbw] at hb1 hS0 HK1 ⊢
  go_quiet (fail)
  have HK2 : Hid (Keep [] w (w1.drewN nq) ∧ bw ≤ (w1.drewN nq).heap.size) := ⟨HK1.out.1.drewN nq, by simpa using HK1.out.2⟩
  have hS1 : Hid (LyS (w1.drewN nq) q g0 n0 bw L k c 0 0 g0 n0 cap0 F0 nm0 dp0 (w1.drewN nq)) := by
    have h := hS0.out
    have K := (Keep.refl [] w1).drewN nq
    exact ⟨h.blk.keep K (by simp), h.ne, h.own.keep K (by simp), h.tr, h.ats, h.nb, Keep.refl _ _, by simp, h.box.keep K (by simp), h.bne⟩
  obtain ⟨w2, hw2⟩ : ∃ x, w1.drewN nq = x := ⟨_, rfl⟩
  rw [hw2] at HK2 hS1 ⊢
  clear hb1 hS0 HK1 hw2
  go_wp2_with fail
  go_loopw [6, 14] (fun at' i wr => ∃ j a g n cap F nm dp, j ≤ z ∧ at' = .int .i16 (a : Nat) ∧ i = .int .i64 (j : Nat) ∧ Hid (LyS w2 q g0 n0 bw L k c j a g n cap F nm dp wr)) (fun _ i _ => z - (intOf i).toNat)
  case atStart => exact ⟨0, 0, g0, n0, cap0, F0, nm0, dp0, by omega, rfl, rfl, hS1⟩
  case round =>
    obtain ⟨j, a, g, n, cap, F, nm, dp, hj, rfl, rfl, HS⟩ := hrel
    have h := HS.out
    have hb2 : c / 2 ^ j % 2 < 2 := Nat.mod_lt _ (by decide)
    have ha := h.ats.lt
    have hn : n ≤ 10015 := by have := h.nb; omega
    have c0 : wr.cell? ⟨q, 0, none⟩ = some (.slice (some ⟨g, 0, none⟩) n cap) := h.blk.cell 0 _ rfl
    have b0 : wr.cell? ⟨bw, 0, none⟩ = some (.int .u32 c) := h.box.cell 0 _ rfl
    have ce := h.own.cell a (c / 2 ^ j % 2) ha hb2
    have fe := h.own.free (a * 2 + c / 2 ^ j % 2)
    have hbit := bit1' c j hc32
    have hbd := h.tr.bound (by omega) a (c / 2 ^ j % 2) ha hb2
    by_cases hlt : j < z
    · have h0 : 0 ≤ F a (c / 2 ^ j % 2) := by
        have := h.tr.noleaf hk (fun t ht => (HL.out t ht).2) hf (i := j) (a := a) (by rw [HC.out]; exact h.ats) (by rw [HZ.out]; omega)
        rw [HC.out] at this; exact this
      by_cases hz : F a (c / 2 ^ j % 2) = 0
      · have hN := h.tr.new (i := j) (a := a) (by rw [HC.out]; exact h.ats) (by rw [HZ.out]; omega) (by rw [HC.out]; exact hz)
        rw [HC.out] at hN
        have HN := Lib.hid hN
        have hw16 : IntKind.i16.wrap (n : Int) = n := by rw [IntKind.wrap]; simp [IntKind.bits, IntKind.signed]; omega
        rw [hz] at ce
        generalize hB : c / 2 ^ j % 2 = b at *
        have HB := Lib.hid hB
        obtain ⟨wA, hwA⟩ : ∃ x, ((wr.setCell ⟨g, a * 2 + b, none⟩ (.int .i16 n)).alloc (.cells #[.int .i16 0, .int .i16 0] 84)).drew = x := ⟨_, rfl⟩
        have KA : Keep [g] wr wA := by rw [← hwA]; exact (((Keep.refl [g] wr).setCell (.inl (by simp)) _).alloc _).drew
        have hOA : OwnF wA (.slice (some ⟨g, 0, none⟩) n cap) (upd F a b (n : Nat)) n := by rw [← hwA]; exact (h.own.store a b (n : Nat) ha hb2).keep ((Keep.refl [] _).alloc _).drew (by simp)
        have hSA : Blk wA wr.heap.size #[.int .i16 0, .int .i16 0] 84 := by
          rw [← hwA]
          have := Blk.new (wr.setCell ⟨g, a * 2 + b, none⟩ (.int .i16 n)) #[.int .i16 0, .int .i16 0] 84
          simp only [World.size_setCell] at this
          exact this.keep (Keep.refl [] _).drew (by simp)
        have hwf := h.own.lt g rfl
        have hQA := h.blk.keep KA (by simp; exact h.ne)
        have hXA := h.box.keep KA (by simp; exact h.bne.2.1)
        have hKA : Keep [q, g0] w2 wA := h.keep.trans KA (by have := h.fresh; simp; omega)
        have hfr := h.fresh
        have hqg := h.ne
        have hbne := h.bne
        have hout : upd F a b (n : Nat) n 0 = 0 ∧ upd F a b (n : Nat) n 1 = 0 := by
          rw [upd_other _ _ _ _ _ _ (by omega), upd_other _ _ _ _ _ _ (by omega)]
          exact ⟨h.tr.out n 0 (by omega), h.tr.out n 1 (by omega)⟩
        have hnb := h.nb
        have hbi : (b : Int) < 2 := by omega
        have hws : wr.heap.size < wA.heap.size := hSA.lt
        have hw2s := h.keep.size
        clear hB h hN h0 hbd hz
        go_wp2_with fail
        go_still_tail 14, (by kernel_rfl)
        change wpList _ _ _ _ _ wr.drew
        go_wp2_with (at_builtin; (refine wpList_appendF (.tmp 50) (.tmp 52) rfl rfl (.slice (some ⟨g, 0, none⟩) n cap) (upd F a b (n : Nat)) n rfl hOA hout wr.heap.size rfl hSA (by omega) ?_); (intro v5 w5 ho5 hk5 hb5); (obtain ⟨g5, cap5, rfl, m1, m2⟩ := ho5.shape (by omega)); (have hQ5 := hQA.keep hk5 (by simp [Value.ownBlock]; exact hqg)); (have q5 := hQ5.cell 0 _ rfl); (have f5 := hQ5.free 0); (have hq5 : q ≠ g5 := by (have hlt5 := hQA.lt); rcases hb5 g5 rfl with h | h; (have h' : g = g5 := by simpa [Value.ownBlock] using h); omega; omega); (have O6 := ho5.keep ((Keep.refl [q] w5).setCell (p := ⟨q, 0, none⟩) (.inl (by simp)) (.slice (some ⟨g5, 0, none⟩) (n + 1) cap5)) (by simp [Value.ownBlock]; omega)); (have e6 := O6.cell a b (by omega) hb2); (rw [upd_same] at e6))
        go_roundw
        case rel =>
          refine ⟨j + 1, n, g5, n + 1, cap5, upd F a b (n : Nat), fun i => if i = n then c % 2 ^ (j + 1) else nm i, fun i => if i = n then j + 1 else dp i, by omega, rfl, by go_num, ?_⟩
          have hg5 : g5 = g ∨ g5 = wA.heap.size := by
            rcases hb5 g5 rfl with h | h
            · left; have h' : g = g5 := by simpa [Value.ownBlock] using h
              omega
            · exact .inr h
          have hQ6 := hQ5.set 0 (.slice (some ⟨g5, 0, none⟩) (n + 1) cap5)
          have hk5' : Keep [g] wA w5 := hk5
          have hX6 := (hXA.keep hk5' (by simp; exact hbne.2.1)).other (p := ⟨q, 0, none⟩) (by simp; exact hbne.1) (.slice (some ⟨g5, 0, none⟩) (n + 1) cap5)
          have hK6 : Keep [q, g0] w2 (w5.setCell ⟨q, 0, none⟩ (.slice (some ⟨g5, 0, none⟩) (n + 1) cap5)) := (hKA.trans hk5' (by simp; omega)).setCell (.inl (by simp)) _
          exact ⟨hQ6, hq5, O6, HN.out.1, HN.out.2, by omega, hK6, by omega, hX6, by have := hXA.lt; omega⟩
        case measure => simp [intOf]; omega
      · have hf' := h.tr.follow c h.ats (by omega)
        have HF := Lib.hid hf'
        have hne0 : (F a (c / 2 ^ j % 2) == 0) = false := by rw [beq_eq_false_iff_ne]; omega
        clear hf'
        generalize hB : c / 2 ^ j % 2 = b at *
        obtain ⟨m, hm⟩ : ∃ m : Nat, F a b = m := ⟨(F a b).toNat, by omega⟩
        have HB := Lib.hid hB
        rw [hm] at ce hbd hne0 HF
        rw [Int.toNat_natCast] at HF
        have hm2 : m < 32768 := by omega
        clear hB h hm hz h0 hbd
        go_wp2_with fail
        go_roundw
        case rel => exact ⟨j + 1, m, g, n, cap, F, nm, dp, by omega, rfl, by go_num, { HS.out with ats := HF.out, nb := by have := HS.out.nb; omega }⟩
        case measure => simp [intOf]; omega
    · obtain rfl : j = z := by omega
      have hN := h.tr.close hk (fun t ht => (HL.out t ht).2) hf (i := j) (a := a) (by rw [HC.out]; exact h.ats) (by rw [HZ.out])
      rw [HC.out] at hN
      have HN := Lib.hid hN
      generalize hB : c / 2 ^ j % 2 = b at *
      have hbi : (b : Int) < 2 := by omega
      have hwk : IntKind.i16.wrap (k : Int) = k := by rw [IntKind.wrap]; simp [IntKind.bits, IntKind.signed]; omega
      clear hB h hN
      have hno := notI16 k (by omega)
      generalize hfo : F a b = fo at *
      have HFO := Lib.hid hfo
      clear hfo
      go_wp2_with fail
      go_still_tail 15, (by kernel_rfl)
      change wpList _ _ _ _ _ wr.drew
      go_wp2_with fail
      go_end0
      have h := HS.out
      have hO := (h.own.store a b (-((k : Int) + 1)) ha hb2).keep (Keep.refl [] _).drew (by simp)
      have K3 : Keep [g] wr (wr.setCell ⟨g, a * 2 + b, none⟩ (.int .i16 (-((k : Int) + 1)))).drew := ((Keep.refl [g] wr).setCell (.inl (by simp)) _).drew
      have hfr := h.fresh
      have hk2 := HK2.out
      have hs2 := hk2.1.size
      refine ⟨rfl, g, n, cap, h.blk.keep K3 (by simp; exact h.ne), h.ne, _, hO, ⟨_, _, HN.out⟩, ?_, ?_, by have := h.nb; omega⟩
      · have k23 : Keep [q, g0] w2 (wr.setCell ⟨g, a * 2 + b, none⟩ (.int .i16 (-((k : Int) + 1)))).drew := h.keep.trans K3 (by simp; omega)
        exact (hk2.1.mono (by simp)).trans k23 (fun x hx => .inl hx)
      · omega
end Go.Proofs.Ytblogjpoijfpbaa
