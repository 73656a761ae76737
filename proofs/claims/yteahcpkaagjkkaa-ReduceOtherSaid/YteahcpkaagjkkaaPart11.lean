/- Texts put together: Dle1 Dle2 Dle DleFd DleAdd DleTok -/
import Derived.Test.YteahcpkaagjkkaaPart4
import Derived.Test.YteahcpkaagjkkaaPart10
import Derived.Laws.BitsLemmas
import Derived.Test.YteahcpkaagjkkaaPart1
import Derived.Test.YteahcpkaagjkkaaPart6
import Derived.StillTailTactics
import Derived.Test.YteahcpkaagjkkaaPart12
import Derived.Test.YteahcpkaagjkkaaPart3
import Derived.Test.YteahcpkaagjkkaaPart8
import Derived.Lib.MinMax
namespace Go.Proofs.Yteahcpkaagjkkaa
set_option linter.unusedVariables false
set_option linter.unusedSimpArgs false
set_option maxRecDepth 100000
open Go.ChangeShapes Go.WideShapes Go.ChangeAt Go.RowKit

theorem four13 {P : Nat → Prop} (p1 : P 1) (p2 : P 2) (p3 : P 3) (p4 : P 4) (f : Nat) (h1 : 1 ≤ f) (h2 : f ≤ 4) : P f := by
  have h : f = 1 ∨ f = 2 ∨ f = 3 ∨ f = 4 := by omega
  rcases h with rfl | rfl | rfl | rfl <;> assumption
theorem wraps_i64_62 (n : Int) (h0 : 0 ≤ n) (h1 : n < 2 ^ 62) : IntKind.i64.wrap n = n := by rw [IntKind.wrap_i64]; omega
/-- a length's bits -/
theorem and13 (f k : Nat) (h1 : 1 ≤ f) (h2 : f ≤ 4) (hk : k < 256) : bits .and .i64 (k : Int) ((low13 f - 1 : Nat) : Int) = ((k % low13 f : Nat) : Int) := by
  have hp : 2 ^ (8 - f) ≤ 2 ^ 7 := Nat.pow_le_pow_right (by decide) (by omega)
  have hp2 : 0 < 2 ^ (8 - f) := Nat.two_pow_pos _
  have h := (bits_nat .i64 62 (by decide) wraps_i64_62 k (2 ^ (8 - f) - 1) (by omega) (by omega)).1
  unfold low13
  rw [h, Nat.and_two_pow_sub_one_eq_mod]
theorem dright_bad (w : World) (f : Int) (h : f < 1 ∨ 4 < f) : Calls Try.prog 39 #[.int .i64 f] w fun e w' => e = .returned (.bool false) ∧ w = w' := by
  by_cases h1 : f < 1
  · have t1 : decide (1 ≤ f) = false := by simp; omega
    clear h h1
    go_enter Try.func39, Try.ntmps39
    go_wp2
    go_ret
    exact ⟨rfl, rfl⟩
  · have t1 : decide (1 ≤ f) = true := by simp; omega
    have t2 : decide (f ≤ 4) = false := by simp; omega
    clear h h1
    go_enter Try.func39, Try.ntmps39
    go_wp2
    go_ret
    exact ⟨rfl, rfl⟩
theorem dright_c (w : World) (f : Nat) (h1 : 1 ≤ f) (h2 : f ≤ 4) : Calls Try.prog 39 #[.int .i64 (f : Int)] w fun e w' => e = .returned (.bool true) ∧ w = w' := by
  have t1 : decide ((1 : Int) ≤ (f : Int)) = true := by simp; omega
  have t2 : decide ((f : Int) ≤ 4) = true := by simp; omega
  have t3 : decide (1 ≤ f) = true := by simp; omega
  have t4 : decide (f ≤ 4) = true := by simp; omega
  go_enter Try.func39, Try.ntmps39
  go_wp2
  go_ret
  exact ⟨rfl, rfl⟩
theorem dshift_c (w : World) (f : Nat) (h1 : 1 ≤ f) (h2 : f ≤ 4) : Calls Try.prog 86 #[.int .i64 (f : Int)] w fun e w' => e = .returned (.int .i64 ((8 - f : Nat) : Int)) ∧ w = w' := by
  revert f
  apply four13 <;>
  · go_enter Try.func86, Try.ntmps86
    go_wp2
    go_ret
    exact ⟨rfl, rfl⟩
theorem dmask_c (w : World) (f : Nat) (h1 : 1 ≤ f) (h2 : f ≤ 4) : Calls Try.prog 84 #[.int .i64 (f : Int)] w fun e w' => e = .returned (.int .i64 ((low13 f - 1 : Nat) : Int)) ∧ w = w' := by
  revert f
  have H := Lib.hid (dshift_c w)
  apply four13
  all_goals
    first
    | have H1 := Lib.hid (H.out 1 (by decide) (by decide)); have HE : low13 1 - 1 = 127 := rfl; rw [HE]; clear HE
    | have H1 := Lib.hid (H.out 2 (by decide) (by decide)); have HE : low13 2 - 1 = 63 := rfl; rw [HE]; clear HE
    | have H1 := Lib.hid (H.out 3 (by decide) (by decide)); have HE : low13 3 - 1 = 31 := rfl; rw [HE]; clear HE
    | have H1 := Lib.hid (H.out 4 (by decide) (by decide)); have HE : low13 4 - 1 = 15 := rfl; rw [HE]; clear HE
    clear H
    go_enter Try.func84, Try.ntmps84
    go_wp2_with fail
    refine H1.out.mono ?_; rintro e w1 ⟨rfl, rfl⟩
    go_wp2
    go_ret
    exact ⟨rfl, rfl⟩
theorem dwindow_c (w : World) (f : Nat) (h1 : 1 ≤ f) (h2 : f ≤ 4) : Calls Try.prog 41 #[.int .i64 (f : Int)] w fun e w' => e = .returned (.int .i64 ((256 * 2 ^ f : Nat) : Int)) ∧ w = w' := by
  revert f
  apply four13 <;>
  · go_enter Try.func41, Try.ntmps41
    go_wp2
    go_ret
    exact ⟨rfl, rfl⟩
end Go.Proofs.Yteahcpkaagjkkaa
namespace Go.Proofs.Yteahcpkaagjkkaa
set_option linter.unusedVariables false
set_option linter.unusedSimpArgs false
set_option maxRecDepth 100000
open Go.ChangeShapes Go.WideShapes Go.ChangeAt Go.RowKit

/-- the output as the code holds it: its window is the factor's -/
def HS.wn (f : Nat) (o : HS) : HS := { o with win := 256 * 2 ^ f }
theorem wn_lit (f : Nat) (o : HS) (c : UInt8) : (o.wn f).lit c = ((o.lit c).1, (o.lit c).2.wn f) := by
  unfold HS.lit HS.wn; dsimp only; split <;> rfl
theorem wn_copy (f : Nat) (h2 : f ≤ 4) (o : HS) (hw : o.win = 65536) (d n : Int) (hd : d ≤ ((256 * 2 ^ f : Nat) : Int)) : (o.wn f).copy d n = ((o.copy d n).1, (o.copy d n).2.wn f) := by
  have hp : 2 ^ f ≤ 2 ^ 4 := Nat.pow_le_pow_right (by decide) h2
  have e1 : ((256 * 2 ^ f : Nat) : Int) < d ↔ ((65536 : Nat) : Int) < d := by omega
  unfold HS.copy HS.wn
  dsimp only
  rw [hw]
  simp only [e1]
  repeat' split
  all_goals rfl
theorem HS.lit_nou (s : HS) (c : UInt8) : (s.lit c).2.nou = s.nou ∧ (s.lit c).2.most = s.most := by unfold HS.lit; split <;> exact ⟨rfl, rfl⟩
theorem HS.copy_nou (s : HS) (d n : Int) : (s.copy d n).2.nou = s.nou ∧ (s.copy d n).2.most = s.most := by
  unfold HS.copy; repeat' split
  all_goals exact ⟨rfl, rfl⟩
theorem HS.copy_err (s : HS) (d n : Int) (h : ¬ (s.copy d n).1 = 0) : (s.copy d n).2 = s := by
  revert h; unfold HS.copy; repeat' split
  all_goals (intro h; first | rfl | exact absurd rfl h)
/-- block q is a machine in state m; bs: all its blocks, q among them -/
def Dm (w : World) (q : Nat) (bs : List Nat) (m : MS) : Prop :=
  ∃ qo bo, bs = q :: bo ∧ q ∉ bo ∧ Blk w q #[.pointer (some ⟨qo, 0, none⟩), .int .i64 m.f, .int .i64 m.st, .int .i64 ((m.V / low13 m.f : Nat) : Int), .int .i64 m.N] 85 ∧ Ho w qo bo (m.o.wn m.f) ∧ m.ok ∧ m.o.nou = true ∧ (m.st = 1 → m.o.b.length < m.o.most)
theorem Dm.keep {w w' : World} {q : Nat} {bs S : List Nat} {m : MS} (h : Dm w q bs m) (k : Keep S w w') (hs : ∀ b ∈ bs, b ∉ S) : Dm w' q bs m := by
  obtain ⟨qo, bo, rfl, hq, B, O, r⟩ := h
  exact ⟨qo, bo, rfl, hq, B.keep k (hs q (by simp)), O.keep k (fun b hb => hs b (by simp [hb])), r⟩
theorem Dm.lt {w : World} {q : Nat} {bs : List Nat} {m : MS} (h : Dm w q bs m) : ∀ b ∈ bs, b < w.heap.size := by
  obtain ⟨qo, bo, rfl, hq, B, O, r⟩ := h
  intro b hb
  rcases List.mem_cons.1 hb with rfl | hb
  · exact B.lt
  · exact O.lt b hb
/-- what Feed leaves behind -/
def DmStep (w w' : World) (q : Nat) (bs : List Nat) (m' : MS) : Prop := ∃ bs', Dm w' q bs' m' ∧ Keep bs w w' ∧ ∀ b ∈ bs', b ∈ bs ∨ w.heap.size ≤ b
theorem DmStep.mk {w w2 : World} {q qo : Nat} {bo bo2 : List Nat} {m2 : MS} (hq : q < w.heap.size) (qn : q ∉ bo)
    (B2 : Blk w2 q #[.pointer (some ⟨qo, 0, none⟩), .int .i64 m2.f, .int .i64 m2.st, .int .i64 ((m2.V / low13 m2.f : Nat) : Int), .int .i64 m2.N] 85) (O2 : Ho w2 qo bo2 (m2.o.wn m2.f)) (K : Keep (q :: bo) w w2)
    (hb : ∀ b ∈ bo2, b ∈ bo ∨ w.heap.size ≤ b) (ok : m2.ok) (nou : m2.o.nou = true) (inv : m2.st = 1 → m2.o.b.length < m2.o.most) : DmStep w w2 q (q :: bo) m2 := by
  refine ⟨q :: bo2, ⟨qo, bo2, rfl, fun hm => ?_, B2, O2, ok, nou, inv⟩, K, fun b h => ?_⟩
  · rcases hb q hm with h | h
    · exact qn h
    · omega
  · rcases List.mem_cons.1 h with rfl | h
    · exact .inl (by simp)
    · rcases hb b h with h | h
      · exact .inl (by simp [h])
      · exact .inr h
theorem div13 (f k : Nat) (h1 : 1 ≤ f) (h2 : f ≤ 4) : ((k : Int) / 2 ^ (8 - f)) = ((k / low13 f : Nat) : Int) := by
  unfold low13; simp
set_option maxHeartbeats 1000000 in
theorem feedv_c (w : World) (q : Nat) (bs : List Nat) (f : Nat) (o : HS) (V N : Nat) (c : UInt8) (h : Dm w q bs ⟨f, o, 1, V, N⟩) (hl : o.b.length ≤ 140737488340000) :
    Calls Try.prog 75 #[.pointer (some ⟨q, 0, none⟩), .int .i64 c.toNat] w fun e w' => e = .returned (.int .i64 ((⟨f, o, 1, V, N⟩ : MS).feed c).1) ∧ DmStep w w' q bs ((⟨f, o, 1, V, N⟩ : MS).feed c).2 := by
  obtain ⟨qo, bo, rfl, hq, B, O, ok, nou, inv⟩ := h
  have hlt : o.b.length < o.most := inv rfl
  obtain ⟨g1, g2, g3, g4, g5, g6, g7⟩ := ok
  dsimp only at g1 g2 g3 g4 g5 g6 g7 B O nou
  have c0 := B.cell 0 _ rfl
  have c1 := B.cell 1 _ rfl
  have c2 := B.cell 2 _ rfl
  have c3 := B.cell 3 _ rfl
  have c4 := B.cell 4 _ rfl
  have f2 := B.free 2
  have f3 := B.free 3
  have f4 := B.free 4
  have hqs := B.lt
  have hc := c.toNat_lt
  obtain ⟨l1, l2, l3⟩ := low13_of f g1 g2
  by_cases hz : c.toNat = 0
  · have he : (o.lit 144).1 = 0 := by unfold HS.lit; rw [if_neg (by omega)]
    rw [feed_1z f o V N c hz, he, if_pos rfl]
    rw [hz]
    have HL := Lib.hid (fun ww (k : Keep [q] w ww) => hs_lit ww qo bo (o.wn f) 144 (O.keep k (by intro b hb hm; simp at hm; exact hq (hm ▸ hb))) (by show o.b.length + 1 ≤ _; omega))
    simp only [wn_lit] at HL
    rw [he] at HL
    go_enter Try.func75, Try.ntmps75
    go_wp2_with fail
    refine (HL.out _ ((Keep.refl [q] w).setCell (by simp) _)).mono ?_; rintro e w1 ⟨rfl, bo2, O2, k2, b2⟩
    go_wp2_with fail
    go_ret
    refine ⟨rfl, DmStep.mk hqs hq ?_ O2 ?_ ?_ ⟨g1, g2, by show 0 ≤ 3; omega, g4, g5, (fun h => by cases h), by rw [HS.lit_win]; exact g7⟩ (by rw [(HS.lit_nou _ _).1]; exact nou) (fun h => by cases h)⟩
    · exact (by simpa using B.set 2 (.int .i64 0) : Blk (w.setCell ⟨q, 2, none⟩ (.int .i64 0)) q _ _).keep k2 hq
    · exact ((Keep.refl (q :: bo) w).setCell (by simp) _).trans (k2.mono (fun z hz => List.mem_cons_of_mem _ hz)) (fun z hz => .inl hz)
    · intro b hb; have := b2 b hb; simpa using this
  · rw [feed_1 f o V N c hz]
    obtain ⟨k, hk⟩ : ∃ k, c.toNat = k := ⟨_, rfl⟩
    rw [hk] at hz hc ⊢
    have hkz : ((k : Int) == 0) = false := by simp; omega
    have HM := Lib.hid (fun ww => dmask_c ww f g1 g2)
    have HS := Lib.hid (fun ww => dshift_c ww f g1 g2)
    have ha := and13 f k g1 g2 (by omega)
    have hd := div13 f k g1 g2
    have hmod : k % low13 f < low13 f := Nat.mod_lt _ (by omega)
    have hmi : ((k % low13 f : Nat) : Int) = ((low13 f - 1 : Nat) : Int) ↔ k % low13 f = low13 f - 1 := by omega
    obtain ⟨R, hR⟩ : ∃ R, k % low13 f = R := ⟨_, rfl⟩
    obtain ⟨D, hD⟩ : ∃ D, k / low13 f = D := ⟨_, rfl⟩
    obtain ⟨M, hM⟩ : ∃ M, low13 f - 1 = M := ⟨_, rfl⟩
    have hDk := Lib.hid hD
    rw [hR] at ha hmod hmi ⊢
    rw [hD] at hd
    rw [hM] at ha hmi HM ⊢
    have hRM : R ≤ M := by omega
    have hM2 : M ≤ 127 := by omega
    clear hk hz hD hR hM
    have B1 : Blk (((w.setCell ⟨q, 3, none⟩ (.int .i64 D)).setCell ⟨q, 4, none⟩ (.int .i64 R)).setCell ⟨q, 2, none⟩ (.int .i64 3)) q #[.pointer (some ⟨qo, 0, none⟩), .int .i64 f, .int .i64 3, .int .i64 D, .int .i64 R] 85 := by
      simpa using ((B.set 3 (.int .i64 D)).set 4 (.int .i64 R)).set 2 (.int .i64 3)
    have K1 : Keep [q] w (((w.setCell ⟨q, 3, none⟩ (.int .i64 D)).setCell ⟨q, 4, none⟩ (.int .i64 R)).setCell ⟨q, 2, none⟩ (.int .i64 3)) := (((Keep.refl [q] w).setCell (by simp) _).setCell (by simp) _).setCell (by simp) _
    obtain ⟨W3, hW3⟩ : ∃ W3, ((w.setCell ⟨q, 3, none⟩ (.int .i64 D)).setCell ⟨q, 4, none⟩ (.int .i64 R)).setCell ⟨q, 2, none⟩ (.int .i64 3) = W3 := ⟨_, rfl⟩
    rw [hW3] at B1 K1
    have HW3 := Lib.hid hW3; clear hW3
    have OK : MS.ok ⟨f, o, if R = M then 2 else 3, k, R⟩ := ⟨g1, g2, by dsimp only; split <;> omega, by show k ≤ 255; omega, by show R ≤ 382; omega, fun _ => by show R ≤ 127; omega, g7⟩
    have hinv : (⟨f, o, if R = M then 2 else 3, k, R⟩ : MS).st = 1 → o.b.length < o.most := by intro h; dsimp only at h; split at h <;> omega
    have HB1 := Lib.hid B1
    clear B1
    by_cases hrm : R = M
    · have e1 : ((R : Int) == (M : Int)) = true := by simp; omega
      have e2 : (R == M) = true := by simpa using hrm
      rw [if_pos hrm] at OK hinv ⊢
      clear hmi hrm
      go_enter Try.func75, Try.ntmps75
      go_wp2_with fail
      refine (HS.out _).mono ?_; rintro e w1 ⟨rfl, rfl⟩
      go_wp2_with fail
      refine (HM.out _).mono ?_; rintro e w1 ⟨rfl, rfl⟩
      go_wp2_with fail
      go_quiet ((go_at_call 84; exact Calls.quiet_of ((HM.out _).mono fun _ _ => sameQ)))
      rw [HW3.out]
      have B2 := HB1.out.keep ((Keep.refl [] _).drewN nq) (by simp)
      have K2 : Keep [q] w (W3.drewN nq) := K1.drewN nq
      generalize W3.drewN nq = w4 at B2 K2 ⊢
      have d2 := B2.cell 2 _ rfl
      have fd2 := B2.free 2
      go_wp2_with fail
      go_ret
      have K3 : Keep [q] w (w4.setCell ⟨q, 2, none⟩ (.int .i64 2)) := K2.setCell (by simp) _
      refine ⟨rfl, DmStep.mk hqs hq ?_ (O.keep K3 (by intro b hb hm; simp at hm; exact hq (hm ▸ hb))) (K3.mono (by simp)) (fun b hb => .inl hb) OK nou hinv⟩
      rw [hDk.out]
      simpa using B2.set 2 (.int .i64 2)
    · have e1 : ((R : Int) == (M : Int)) = false := by simp; omega
      have e2 : (R == M) = false := by simpa using hrm
      rw [if_neg hrm] at OK hinv ⊢
      clear hmi hrm
      go_enter Try.func75, Try.ntmps75
      go_wp2_with fail
      refine (HS.out _).mono ?_; rintro e w1 ⟨rfl, rfl⟩
      go_wp2_with fail
      refine (HM.out _).mono ?_; rintro e w1 ⟨rfl, rfl⟩
      go_wp2_with fail
      go_quiet ((go_at_call 84; exact Calls.quiet_of ((HM.out _).mono fun _ _ => sameQ)))
      rw [HW3.out]
      have B2 := HB1.out.keep ((Keep.refl [] _).drewN nq) (by simp)
      have K2 : Keep [q] w (W3.drewN nq) := K1.drewN nq
      generalize W3.drewN nq = w4 at B2 K2 ⊢
      go_wp2_with fail
      go_ret
      refine ⟨rfl, DmStep.mk hqs hq ?_ (O.keep K2 (by intro b hb hm; simp at hm; exact hq (hm ▸ hb))) (K2.mono (by simp)) (fun b hb => .inl hb) OK nou hinv⟩
      rw [hDk.out]
      exact B2
end Go.Proofs.Yteahcpkaagjkkaa
namespace Go.Proofs.Yteahcpkaagjkkaa
set_option linter.unusedVariables false
set_option linter.unusedSimpArgs false
set_option maxRecDepth 100000
open Go.ChangeShapes Go.WideShapes Go.ChangeAt Go.RowKit

/-- a machine that New did not make -/
def dlz : Array Value := #[.pointer none, .int .i64 0, .int .i64 0, .int .i64 0, .int .i64 0]
theorem dlInfo : (Try.prog.info? 85).map (fun i => (i.zero, i.size)) = some (some (.agg dlz), 5) := by kernel_rfl
def DmPlain (w : World) (q : Nat) : Prop := Blk w q dlz 85
theorem DmPlain.keep {w w' : World} {q : Nat} {S : List Nat} (h : DmPlain w q) (k : Keep S w w') (hq : q ∉ S) : DmPlain w' q := Blk.keep h k hq
theorem dlz_plain (w : World) (q : Nat) (h : Blk w q dlz 85) : DmPlain w q := h
theorem dmade_none (w : World) : Calls Try.prog 48 #[.pointer none] w fun e w' => e = .returned (.bool false) ∧ ∃ n, w' = w.drewN n := by
  go_enter Try.func48, Try.ntmps48
  go_wp2
  go_ret
  exact ⟨rfl, 0, rfl⟩
theorem dmade_plain (w : World) (q : Nat) (h : DmPlain w q) : Calls Try.prog 48 #[.pointer (some ⟨q, 0, none⟩)] w fun e w' => e = .returned (.bool false) ∧ ∃ n, w' = w.drewN n := by
  have c0 : w.cell? ⟨q, 0, none⟩ = some (.pointer none) := Blk.cell h 0 _ rfl
  go_enter Try.func48, Try.ntmps48
  go_wp2
  go_ret
  exact ⟨rfl, 0, rfl⟩
theorem dmade_c (w : World) (q : Nat) (bs : List Nat) (m : MS) (h : Dm w q bs m) : Calls Try.prog 48 #[.pointer (some ⟨q, 0, none⟩)] w fun e w' => e = .returned (.bool true) ∧ ∃ n, w' = w.drewN n := by
  obtain ⟨qo, bo, rfl, hq, B, O, ok, nou, inv⟩ := h
  have c0 := B.cell 0 _ rfl
  clear inv ok nou O B
  go_enter Try.func48, Try.ntmps48
  go_wp2
  go_ret
  exact ⟨rfl, 0, rfl⟩
theorem Dm.drewN {w : World} {q : Nat} {bs : List Nat} {m : MS} (h : Dm w q bs m) (n : Nat) : Dm (w.drewN n) q bs m := h.keep ((Keep.refl [] w).drewN n) (by simp)
theorem DmPlain.drewN {w : World} {q : Nat} (h : DmPlain w q) (n : Nat) : DmPlain (w.drewN n) q := h.keep ((Keep.refl [] w).drewN n) (by simp)
theorem dl_rest_none (w : World) : Calls Try.prog 72 #[.pointer none] w fun e w' => e = .returned (.bool false) ∧ ∃ n, w' = w.drewN n := by
  go_enter Try.func72, Try.ntmps72
  go_wp2_with fail
  refine (dmade_none _).mono ?_; rintro e w1 ⟨rfl, n, rfl⟩
  go_wp2_with fail
  go_ret
  exact ⟨rfl, n, rfl⟩
theorem dl_rest_plain (w : World) (q : Nat) (h : DmPlain w q) : Calls Try.prog 72 #[.pointer (some ⟨q, 0, none⟩)] w fun e w' => e = .returned (.bool false) ∧ ∃ n, w' = w.drewN n := by
  have HH := Lib.hid (dmade_plain _ _ h); clear h
  go_enter Try.func72, Try.ntmps72
  go_wp2_with fail
  refine HH.out.mono ?_; rintro e w1 ⟨rfl, n, rfl⟩
  go_wp2_with fail
  go_ret
  exact ⟨rfl, n, rfl⟩
theorem dl_rest (w : World) (q : Nat) (bs : List Nat) (m : MS) (h : Dm w q bs m) : Calls Try.prog 72 #[.pointer (some ⟨q, 0, none⟩)] w fun e w' => e = .returned (.bool (decide (m.st = 0))) ∧ ∃ n, w' = w.drewN n := by
  have HH := Lib.hid (dmade_c _ _ _ _ h)
  have HD := Lib.hid (fun n => h.drewN n)
  obtain ⟨b, hb⟩ : ∃ b, decide (m.st = 0) = b := ⟨_, rfl⟩
  have hb2 : ((m.st : Int) == 0) = b := by rw [← hb]; cases e : decide (m.st = 0) <;> simp at e ⊢ <;> omega
  rw [hb]
  clear hb h
  go_enter Try.func72, Try.ntmps72
  go_wp2_with fail
  refine HH.out.mono ?_; rintro e w1 ⟨rfl, n, rfl⟩
  obtain ⟨qo, bo, rfl, hq, B, O, ok, nou, inv⟩ := HD.out n
  have c2 := B.cell 2 _ rfl
  simp only [List.getElem_toArray, List.getElem_cons_zero, List.getElem_cons_succ] at c2
  clear inv ok nou O B
  obtain ⟨w2, hw2⟩ : ∃ w2, w.drewN n = w2 := ⟨_, rfl⟩
  have HW := Lib.hid hw2
  rw [hw2] at c2 ⊢
  clear hw2
  go_wp2_with fail
  go_ret
  exact ⟨rfl, n, HW.out.symm⟩
theorem dl_full_none (w : World) : Calls Try.prog 44 #[.pointer none] w fun e w' => e = .returned (.bool false) ∧ ∃ n, w' = w.drewN n := by
  go_enter Try.func44, Try.ntmps44
  go_wp2_with fail
  refine (dl_rest_none _).mono ?_; rintro e w1 ⟨rfl, n, rfl⟩
  go_wp2_with fail
  go_ret
  exact ⟨rfl, n, rfl⟩
theorem dl_full_plain (w : World) (q : Nat) (h : DmPlain w q) : Calls Try.prog 44 #[.pointer (some ⟨q, 0, none⟩)] w fun e w' => e = .returned (.bool false) ∧ ∃ n, w' = w.drewN n := by
  have HH := Lib.hid (dl_rest_plain _ _ h); clear h
  go_enter Try.func44, Try.ntmps44
  go_wp2_with fail
  refine HH.out.mono ?_; rintro e w1 ⟨rfl, n, rfl⟩
  go_wp2_with fail
  go_ret
  exact ⟨rfl, n, rfl⟩
theorem dl_full (w : World) (q : Nat) (bs : List Nat) (m : MS) (h : Dm w q bs m) : Calls Try.prog 44 #[.pointer (some ⟨q, 0, none⟩)] w fun e w' => e = .returned (.bool m.full) ∧ ∃ n, w' = w.drewN n := by
  have HH := Lib.hid (dl_rest _ _ _ _ h)
  obtain ⟨qo, bo, rfl, hq, B, O, ok, nou, inv⟩ := h
  have HF := Lib.hid (fun n => hs_full _ _ _ _ (O.keep ((Keep.refl [] w).drewN n) (by simp)))
  have HB := Lib.hid (fun n => (B.keep ((Keep.refl [] w).drewN n) (by simp)).cell 0 _ rfl)
  simp only [List.getElem_toArray, List.getElem_cons_zero, List.getElem_cons_succ] at HB
  have hd : m.full = (decide (m.st = 0) && decide ((HS.wn m.f m.o).b.length = (HS.wn m.f m.o).most)) := rfl
  obtain ⟨b, hb⟩ : ∃ b, decide (m.st = 0) = b := ⟨_, rfl⟩
  obtain ⟨b2, hb2⟩ : ∃ b2, decide ((HS.wn m.f m.o).b.length = (HS.wn m.f m.o).most) = b2 := ⟨_, rfl⟩
  rw [hd, hb, hb2]
  rw [hb] at HH
  rw [hb2] at HF
  clear hd hb hb2 inv ok nou O B
  cases b
  · go_enter Try.func44, Try.ntmps44
    go_wp2_with fail
    refine HH.out.mono ?_; rintro e w1 ⟨rfl, n, rfl⟩
    go_wp2_with fail
    go_ret
    exact ⟨by simp, n, rfl⟩
  · go_enter Try.func44, Try.ntmps44
    go_wp2_with fail
    refine HH.out.mono ?_; rintro e w1 ⟨rfl, n, rfl⟩
    have c0 := HB.out n
    have HFN := Lib.hid (HF.out n)
    obtain ⟨w2, hw2⟩ : ∃ w2, w.drewN n = w2 := ⟨_, rfl⟩
    have HW := Lib.hid hw2
    rw [hw2] at c0 HFN ⊢
    clear hw2
    go_wp2_with fail
    refine HFN.out.mono ?_; rintro e w3 ⟨rfl, n3, rfl⟩
    go_wp2_with fail
    go_ret
    exact ⟨by simp, n + n3, by rw [← HW.out, World.drewN_drewN]⟩
theorem dl_bytes_none (w : World) : Calls Try.prog 21 #[.pointer none] w fun e w' => ∃ v, e = .returned v ∧ Bs w' v [] ∧ Keep [] w w' := by
  go_enter Try.func21, Try.ntmps21
  go_wp2_with fail
  refine (dmade_none _).mono ?_; rintro e w1 ⟨rfl, n, rfl⟩
  go_wp2_with fail
  go_ret
  exact ⟨_, rfl, Bs.nil _, (Keep.refl _ _).drewN n⟩
theorem dl_bytes_plain (w : World) (q : Nat) (h : DmPlain w q) : Calls Try.prog 21 #[.pointer (some ⟨q, 0, none⟩)] w fun e w' => ∃ v, e = .returned v ∧ Bs w' v [] ∧ Keep [] w w' := by
  have HH := Lib.hid (dmade_plain _ _ h); clear h
  go_enter Try.func21, Try.ntmps21
  go_wp2_with fail
  refine HH.out.mono ?_; rintro e w1 ⟨rfl, n, rfl⟩
  go_wp2_with fail
  go_ret
  exact ⟨_, rfl, Bs.nil _, (Keep.refl _ _).drewN n⟩
theorem dl_bytes (w : World) (q : Nat) (bs : List Nat) (m : MS) (h : Dm w q bs m) (hl : m.o.b.length ≤ 140737488340000) : Calls Try.prog 21 #[.pointer (some ⟨q, 0, none⟩)] w fun e w' => ∃ v, e = .returned v ∧ Bs w' v m.o.b ∧ Keep [] w w' ∧ ∀ b, v.ownBlock = some b → w.heap.size ≤ b := by
  have HH := Lib.hid (dmade_c _ _ _ _ h)
  have HD := Lib.hid (fun n => h.drewN n)
  clear h
  go_enter Try.func21, Try.ntmps21
  go_wp2_with fail
  refine HH.out.mono ?_; rintro e w1 ⟨rfl, n, rfl⟩
  obtain ⟨qo, bo, rfl, hq, B, O, ok, nou, inv⟩ := HD.out n
  have K : Keep [] w (w.drewN n) := (Keep.refl _ _).drewN n
  have hsz : (w.drewN n).heap.size = w.heap.size := by simp
  have c0 := B.cell 0 _ rfl
  simp only [List.getElem_toArray, List.getElem_cons_zero, List.getElem_cons_succ] at c0
  clear inv ok nou B
  go_wp2_with fail
  refine (hs_bytes _ _ _ _ O (by show m.o.b.length ≤ _; omega)).mono ?_; rintro e w2 ⟨v, rfl, hv, k2, b2⟩
  go_wp2_with fail
  go_ret
  exact ⟨v, rfl, hv.bs, K.trans k2 (by simp), fun b hb => by have := b2 b hb; omega⟩
theorem dl_feed_none (w : World) (c : UInt8) : Calls Try.prog 46 #[.pointer none, .int .u8 c.toNat] w fun e w' => e = .returned (.int .i64 1) ∧ ∃ n, w' = w.drewN n := by
  go_enter Try.func46, Try.ntmps46
  go_wp2_with fail
  refine (dmade_none _).mono ?_; rintro e w1 ⟨rfl, n, rfl⟩
  go_wp2_with fail
  go_ret
  exact ⟨rfl, n, rfl⟩
theorem dl_feed_plain (w : World) (q : Nat) (c : UInt8) (h : DmPlain w q) : Calls Try.prog 46 #[.pointer (some ⟨q, 0, none⟩), .int .u8 c.toNat] w fun e w' => e = .returned (.int .i64 1) ∧ ∃ n, w' = w.drewN n := by
  have HH := Lib.hid (dmade_plain _ _ h); clear h
  go_enter Try.func46, Try.ntmps46
  go_wp2_with fail
  refine HH.out.mono ?_; rintro e w1 ⟨rfl, n, rfl⟩
  go_wp2_with fail
  go_ret
  exact ⟨rfl, n, rfl⟩
end Go.Proofs.Yteahcpkaagjkkaa
namespace Go.Proofs.Yteahcpkaagjkkaa
set_option linter.unusedVariables false
set_option linter.unusedSimpArgs false
set_option maxRecDepth 100000
open Go.ChangeShapes Go.WideShapes Go.ChangeAt Go.RowKit

set_option maxHeartbeats 1000000 in
theorem feedany_c (w : World) (q : Nat) (bs : List Nat) (f : Nat) (o : HS) (V N : Nat) (c : UInt8) (h : Dm w q bs ⟨f, o, 0, V, N⟩) (hl : o.b.length ≤ 140737488340000) :
    Calls Try.prog 77 #[.pointer (some ⟨q, 0, none⟩), .int .u8 c.toNat] w fun e w' => e = .returned (.int .i64 ((⟨f, o, 0, V, N⟩ : MS).feed c).1) ∧ DmStep w w' q bs ((⟨f, o, 0, V, N⟩ : MS).feed c).2 := by
  obtain ⟨qo, bo, rfl, hq, B, O, ok, nou, inv⟩ := h
  have hle : o.b.length ≤ o.most := O.ok.1
  have hqs := B.lt
  have HF := Lib.hid (hs_full _ _ _ _ O)
  have hfl : (HS.wn f o).b.length = o.b.length := rfl
  have hfm : (HS.wn f o).most = o.most := rfl
  dsimp only at HF
  rw [hfl, hfm] at HF
  have HFr := Lib.hid (fun n : Nat => (⟨qo, bo, rfl, hq, B.keep ((Keep.refl [] w).drewN n) (by simp), O.keep ((Keep.refl [] w).drewN n) (by simp), ok, nou, inv⟩ : Dm (w.drewN n) q (q :: bo) ⟨f, o, 0, V, N⟩))
  have c0 := B.cell 0 _ rfl
  simp only [List.getElem_toArray, List.getElem_cons_zero, List.getElem_cons_succ] at c0
  obtain ⟨g1, g2, g3, g4, g5, g6, g7⟩ := ok
  dsimp only at g1 g2 g4 g5 g7 nou B O
  have KN : ∀ n, Keep [] w (w.drewN n) := fun n => (Keep.refl [] w).drewN n
  by_cases hfu : o.b.length = o.most
  · have e1 : decide (o.b.length = o.most) = true := by simpa using hfu
    rw [e1] at HF
    have e2 : (⟨f, o, 0, V, N⟩ : MS).feed c = (9, ⟨f, o, 0, V, N⟩) := by simp [MS.feed, MS.full, hfu]
    rw [e2]
    clear hfl hfm e1 e2 hfu inv
    go_enter Try.func77, Try.ntmps77
    go_wp2_with fail
    refine HF.out.mono ?_; rintro e w1 ⟨rfl, n1, rfl⟩
    go_wp2_with fail
    go_ret
    exact ⟨rfl, _, HFr.out n1, (KN n1).nil, fun b hb => .inl hb⟩
  · have e1 : decide (o.b.length = o.most) = false := by simpa using hfu
    rw [e1] at HF
    have hlt : o.b.length < o.most := by omega
    by_cases hc : c.toNat = 144
    · rw [feed_0m f o V N c hfu hc]
      have q1 : ((c.toNat : Int) == 144) = true := by simp; omega
      have q2 : (c.toNat == 144) = true := by simpa using hc
      clear hfl hfm e1 hfu inv hc
      go_enter Try.func77, Try.ntmps77
      go_wp2_with fail
      refine HF.out.mono ?_; rintro e w1 ⟨rfl, n1, rfl⟩
      have B1 := B.keep (KN n1) (by simp)
      have O1 := O.keep (KN n1) (by simp)
      have K1 := KN n1
      generalize w.drewN n1 = w1 at B1 O1 K1 ⊢
      have d2 := B1.cell 2 _ rfl
      have fd2 := B1.free 2
      simp only [List.getElem_toArray, List.getElem_cons_zero, List.getElem_cons_succ] at d2
      go_wp2_with fail
      go_ret
      have K3 : Keep [q] w1 (w1.setCell ⟨q, 2, none⟩ (.int .i64 1)) := (Keep.refl [q] _).setCell (by simp) _
      refine ⟨rfl, DmStep.mk hqs hq ?_ (O1.keep K3 (by intro b hb hm; simp at hm; exact hq (hm ▸ hb))) ((K1.nil (S := q :: bo)).trans (K3.mono (by simp)) (fun z hz => .inl hz)) (fun b hb => .inl hb) ⟨g1, g2, by show 1 ≤ 3; omega, g4, g5, (fun h => by cases h), g7⟩ nou (fun _ => hlt)⟩
      simpa using B1.set 2 (.int .i64 1)
    · rw [feed_0 f o V N c hfu hc]
      have q1 : ((c.toNat : Int) == 144) = false := by simp; omega
      have q2 : (c.toNat == 144) = false := by simpa using hc
      clear hfl hfm e1 hfu inv hc
      have HL := Lib.hid (fun ww (k : Keep [] w ww) => hs_lit ww qo bo (o.wn f) c (O.keep k (by simp)) (by show o.b.length + 1 ≤ _; omega))
      simp only [wn_lit] at HL
      obtain ⟨R, hR⟩ : ∃ R, o.lit c = R := ⟨_, rfl⟩
      have hw7 : R.2.win = 65536 := by rw [← hR, HS.lit_win]; exact g7
      have hn7 : R.2.nou = true := by rw [← hR, (HS.lit_nou _ _).1]; exact nou
      rw [hR] at HL ⊢
      clear hR
      go_enter Try.func77, Try.ntmps77
      go_wp2_with fail
      refine HF.out.mono ?_; rintro e w1 ⟨rfl, n1, rfl⟩
      have B1 := B.keep (KN n1) (by simp)
      have H1 := Lib.hid (HL.out _ (KN n1))
      have K1 := KN n1
      have hsz : (w.drewN n1).heap.size = w.heap.size := by simp
      generalize w.drewN n1 = w1 at B1 H1 K1 hsz ⊢
      have d0 := B1.cell 0 _ rfl
      simp only [List.getElem_toArray, List.getElem_cons_zero, List.getElem_cons_succ] at d0
      go_wp2_with fail
      refine H1.out.mono ?_; rintro e w2 ⟨rfl, bo2, O2, k2, b2⟩
      go_wp2_with fail
      go_ret
      exact ⟨rfl, DmStep.mk hqs hq (B1.keep k2 hq) O2 ((K1.nil (S := q :: bo)).trans (k2.mono (fun z hz => List.mem_cons_of_mem _ hz)) (fun z hz => .inl hz)) (fun b hb => by rcases b2 b hb with h | h; exact .inl h; exact .inr (by omega)) ⟨g1, g2, g3, g4, g5, g6, hw7⟩ hn7 (fun h => by cases h)⟩
set_option maxHeartbeats 1000000 in
theorem dcopy_c (w : World) (q : Nat) (bs : List Nat) (f : Nat) (o : HS) (V N : Nat) (c : UInt8) (h : Dm w q bs ⟨f, o, 3, V, N⟩) (hl : o.b.length ≤ 140737488340000) :
    Calls Try.prog 76 #[.pointer (some ⟨q, 0, none⟩), .int .i64 ((256 * (V / low13 f) + c.toNat + 1 : Nat) : Int)] w fun e w' => e = .returned (.int .i64 ((⟨f, o, 3, V, N⟩ : MS).feed c).1) ∧ DmStep w w' q bs ((⟨f, o, 3, V, N⟩ : MS).feed c).2 := by
  obtain ⟨qo, bo, rfl, hq, B, O, ok, nou, inv⟩ := h
  have hqs := B.lt
  obtain ⟨g1, g2, g3, g4, g5, g6, g7⟩ := ok
  dsimp only at g1 g2 g4 g5 g7 nou B O
  obtain ⟨l1, l2, l3⟩ := low13_of f g1 g2
  have hp : 2 ^ f ≤ 2 ^ 4 := Nat.pow_le_pow_right (by decide) g2
  have hfar : V / low13 f < 2 ^ f := Nat.div_lt_of_lt_mul (by omega)
  have hc := c.toNat_lt
  have e2 : (⟨f, o, 3, V, N⟩ : MS).feed c = ((o.copy (256 * (V / low13 f) + c.toNat + 1 : Nat) (N + 3 : Nat)).1, { (⟨f, o, 3, V, N⟩ : MS) with o := (o.copy (256 * (V / low13 f) + c.toNat + 1 : Nat) (N + 3 : Nat)).2, st := if (o.copy (256 * (V / low13 f) + c.toNat + 1 : Nat) (N + 3 : Nat)).1 = 0 then 0 else 3 }) := by
    unfold MS.feed; rw [if_neg (by simp [MS.full]), if_neg (by simp), if_neg (by simp), if_neg (by simp)]
  rw [e2]
  clear e2
  have hd : 256 * (V / low13 f) + c.toNat + 1 ≤ 256 * 2 ^ f := by omega
  have hcp := wn_copy f g2 o g7 ((256 * (V / low13 f) + c.toNat + 1 : Nat) : Int) ((N + 3 : Nat) : Int) (by omega)
  obtain ⟨D, hD⟩ : ∃ D, 256 * (V / low13 f) + c.toNat + 1 = D := ⟨_, rfl⟩
  rw [hD] at hd hcp ⊢
  have HC := Lib.hid (fun ww (k : Keep [] w ww) => hs_copy ww qo bo (o.wn f) ((D : Nat) : Int) ((N + 3 : Nat) : Int) (O.keep k (by simp)) (by simp [Lit.wf, IntKind.min, IntKind.max, IntKind.bits, IntKind.signed]; omega) (by simp [Lit.wf, IntKind.min, IntKind.max, IntKind.bits, IntKind.signed]; omega) (by show (o.b.length : Int) + _ ≤ _; split <;> omega))
  rw [hcp] at HC
  have hw7 := HS.copy_win o (D : Int) ((N + 3 : Nat) : Int)
  have hn7 := (HS.copy_nou o (D : Int) ((N + 3 : Nat) : Int)).1
  rw [g7] at hw7
  rw [nou] at hn7
  obtain ⟨R, hR⟩ : ∃ R, o.copy (D : Int) ((N + 3 : Nat) : Int) = R := ⟨_, rfl⟩
  rw [hR] at HC hw7 hn7 ⊢
  obtain ⟨er, o2⟩ := R
  dsimp only at HC hw7 hn7 ⊢
  have hs3 : IntKind.i64.wrap ((N : Int) + 3) = ((N + 3 : Nat) : Int) := by rw [IntKind.wrap_i64]; omega
  have c0 := B.cell 0 _ rfl
  have c4 := B.cell 4 _ rfl
  simp only [List.getElem_toArray, List.getElem_cons_zero, List.getElem_cons_succ] at c0 c4
  clear hcp hR hD inv hp hfar
  by_cases he : er = 0
  · have q1 : ((er : Int) != 0) = false := by simp [he]
    have q2 : ((er : Int) == 0) = true := by simp [he]
    rw [if_pos he]
    have hq1 : (er != 0) = false := by simp [he]
    have hq2 : (er == 0) = true := by simp [he]
    have HE := Lib.hid he; clear he
    go_enter Try.func76, Try.ntmps76
    go_wp2_with fail
    go_still_tail 10, (by kernel_rfl)
    change wpList _ _ _ _ _ w.drew
    have KW : Keep [] w w.drew := (Keep.refl [] w).drew
    have H1 := Lib.hid (HC.out _ KW)
    have hsz : w.drew.heap.size = w.heap.size := by simp
    have B0 := B.keep KW (by simp)
    generalize w.drew = w0 at KW H1 B0 hsz ⊢
    go_wp2_with fail
    refine H1.out.mono ?_; rintro e w1 ⟨rfl, bo2, O2, k2', b2'⟩
    have b2 : ∀ b ∈ bo2, b ∈ bo ∨ w.heap.size ≤ b := fun b hb => by rcases b2' b hb with h | h; exact .inl h; exact .inr (by omega)
    have B1 := B0.keep k2' hq
    have k2 : Keep bo w w1 := (KW.nil (S := bo)).trans k2' (fun z hz => .inl hz)
    have d2 := B1.cell 2 _ rfl
    have fd2 := B1.free 2
    simp only [List.getElem_toArray, List.getElem_cons_zero, List.getElem_cons_succ] at d2
    go_wp2_with fail
    go_ret
    have K3 : Keep [q] w1 (w1.setCell ⟨q, 2, none⟩ (.int .i64 0)) := (Keep.refl [q] _).setCell (by simp) _
    refine ⟨by rw [HE.out]; rfl, DmStep.mk hqs hq ?_ (O2.keep K3 ?_) ((k2.mono (S' := q :: bo) (fun z hz => List.mem_cons_of_mem _ hz)).setCell (by simp) _) b2 ⟨g1, g2, by show 0 ≤ 3; omega, g4, g5, (fun h => by cases h), hw7⟩ hn7 (fun h => by cases h)⟩
    · simpa using B1.set 2 (.int .i64 0)
    · intro b hb hm
      have hm : b = q := by simpa using hm
      subst hm
      rcases b2 _ hb with h | h
      · exact hq h
      · omega
  · have q1 : ((er : Int) != 0) = true := by simp [he]
    have q2 : ((er : Int) == 0) = false := by simp [he]
    rw [if_neg he]
    have hq1 : (er != 0) = true := by simp [he]
    have hq2 : (er == 0) = false := by simp [he]
    clear he
    go_enter Try.func76, Try.ntmps76
    go_wp2_with fail
    go_still_tail 10, (by kernel_rfl)
    change wpList _ _ _ _ _ w.drew
    have KW : Keep [] w w.drew := (Keep.refl [] w).drew
    have H1 := Lib.hid (HC.out _ KW)
    have hsz : w.drew.heap.size = w.heap.size := by simp
    have B0 := B.keep KW (by simp)
    generalize w.drew = w0 at KW H1 B0 hsz ⊢
    go_wp2_with fail
    refine H1.out.mono ?_; rintro e w1 ⟨rfl, bo2, O2, k2', b2'⟩
    have b2 : ∀ b ∈ bo2, b ∈ bo ∨ w.heap.size ≤ b := fun b hb => by rcases b2' b hb with h | h; exact .inl h; exact .inr (by omega)
    have B1 := B0.keep k2' hq
    have k2 : Keep bo w w1 := (KW.nil (S := bo)).trans k2' (fun z hz => .inl hz)
    go_wp2_with fail
    go_ret
    exact ⟨rfl, DmStep.mk hqs hq B1 O2 (k2.mono (S' := q :: bo) (fun z hz => List.mem_cons_of_mem _ hz)) b2 ⟨g1, g2, g3, g4, g5, (fun h => by cases h), hw7⟩ hn7 (fun h => by cases h)⟩
set_option maxHeartbeats 1000000 in
theorem dl_feed (w : World) (q : Nat) (bs : List Nat) (m : MS) (c : UInt8) (h : Dm w q bs m) (hl : m.o.b.length ≤ 140737488340000) : Calls Try.prog 46 #[.pointer (some ⟨q, 0, none⟩), .int .u8 c.toNat] w fun e w' => e = .returned (.int .i64 (m.feed c).1) ∧ DmStep w w' q bs (m.feed c).2 := by
  have HM := Lib.hid (dmade_c _ _ _ _ h)
  have HD := Lib.hid (fun n => h.drewN n)
  have KN : ∀ n, Keep [] w (w.drewN n) := fun n => (Keep.refl [] w).drewN n
  have hsz : ∀ n, (w.drewN n).heap.size = w.heap.size := fun n => by simp
  obtain ⟨f, o, st, V, N⟩ := m
  obtain ⟨R, hR⟩ : ∃ R, (⟨f, o, st, V, N⟩ : MS).feed c = R := ⟨_, rfl⟩
  have hst : st = 0 ∨ st = 1 ∨ st = 2 ∨ st = 3 := by
    obtain ⟨qo, bo, _, _, _, _, ok, _⟩ := h
    have := ok.2.2.1; dsimp only at this; omega
  have DS : ∀ {w1 w2 : World} {m2 : MS}, Keep [] w w1 → w1.heap.size = w.heap.size → DmStep w1 w2 q bs m2 → DmStep w w2 q bs m2 := by
    intro w1 w2 m2 k hs ⟨bs', d, k2, b2⟩
    exact ⟨bs', d, (k.nil (S := bs)).trans k2 (fun z hz => .inl hz), fun b hb => by rcases b2 b hb with h | h; exact .inl h; exact .inr (by omega)⟩
  have hc := c.toNat_lt
  dsimp only at hl
  clear h
  rcases hst with rfl | rfl | rfl | rfl
  · rw [hR]
    have HF := Lib.hid (fun n => feedany_c (w.drewN n) q bs f o V N c (HD.out n) hl)
    rw [hR] at HF
    clear hR
    go_enter Try.func46, Try.ntmps46
    go_wp2_with fail
    refine HM.out.mono ?_; rintro e w1 ⟨rfl, n1, rfl⟩
    have H1 := Lib.hid (HF.out n1)
    have K1 := KN n1
    have hs1 := hsz n1
    obtain ⟨qo, bo, hbs, hq, B, O, ok, nou, inv⟩ := HD.out n1
    have c2 := B.cell 2 _ rfl
    simp only [List.getElem_toArray, List.getElem_cons_zero, List.getElem_cons_succ] at c2
    clear hbs hq B O ok nou inv HF HM HD KN hsz
    generalize w.drewN n1 = w1 at c2 H1 K1 hs1 ⊢
    go_wp2_with fail
    refine H1.out.mono ?_; rintro e w2 ⟨rfl, s2⟩
    go_wp2_with fail
    go_ret
    exact ⟨rfl, DS K1 hs1 s2⟩
  · rw [hR]
    have HF := Lib.hid (fun n => feedv_c (w.drewN n) q bs f o V N c (HD.out n) hl)
    rw [hR] at HF
    clear hR
    go_enter Try.func46, Try.ntmps46
    go_wp2_with fail
    refine HM.out.mono ?_; rintro e w1 ⟨rfl, n1, rfl⟩
    have H1 := Lib.hid (HF.out n1)
    have K1 := KN n1
    have hs1 := hsz n1
    obtain ⟨qo, bo, hbs, hq, B, O, ok, nou, inv⟩ := HD.out n1
    have c2 := B.cell 2 _ rfl
    simp only [List.getElem_toArray, List.getElem_cons_zero, List.getElem_cons_succ] at c2
    clear hbs hq B O ok nou inv HF HM HD KN hsz
    generalize w.drewN n1 = w1 at c2 H1 K1 hs1 ⊢
    have hwc : IntKind.i64.wrap (c.toNat : Int) = c.toNat := by rw [IntKind.wrap_i64]; omega
    go_wp2_with fail
    refine H1.out.mono ?_; rintro e w2 ⟨rfl, s2⟩
    go_wp2_with fail
    go_ret
    exact ⟨rfl, DS K1 hs1 s2⟩
  · rw [feed_2]
    clear hR R
    have hN : N ≤ 127 := by
      obtain ⟨qo, bo, _, _, _, _, ok, _⟩ := HD.out 0
      exact ok.2.2.2.2.2.1 rfl
    obtain ⟨c9, hc9⟩ : ∃ c9, c.toNat = c9 := ⟨_, rfl⟩
    rw [hc9] at hc ⊢
    have hM : N + c9 ≤ 382 := by omega
    clear hc9
    have hwc : IntKind.i64.wrap (c9 : Int) = c9 := by rw [IntKind.wrap_i64]; omega
    have hsum : IntKind.i64.wrap ((N : Int) + (c9 : Int)) = ((N + c9 : Nat) : Int) := by rw [IntKind.wrap_i64]; omega
    have hsum2 : IntKind.i64.wrap (((N + c9 : Nat) : Int)) = ((N + c9 : Nat) : Int) := by rw [IntKind.wrap_i64]; omega
    obtain ⟨M, hMM⟩ : ∃ M, N + c9 = M := ⟨_, rfl⟩
    rw [hMM] at hsum hsum2 hM ⊢
    clear hMM
    go_enter Try.func46, Try.ntmps46
    go_wp2_with fail
    refine HM.out.mono ?_; rintro e w1 ⟨rfl, n1, rfl⟩
    have K1 := KN n1
    have hs1 := hsz n1
    obtain ⟨qo, bo, rfl, hq, B, O, ok, nou, inv⟩ := HD.out n1
    have c2 := B.cell 2 _ rfl
    have c4 := B.cell 4 _ rfl
    have f2 := B.free 2
    have f4 := B.free 4
    have hqs := B.lt
    simp only [List.getElem_toArray, List.getElem_cons_zero, List.getElem_cons_succ] at c2 c4
    have HOK := Lib.hid ok
    clear ok inv HM HD KN hsz
    generalize w.drewN n1 = w1 at c2 c4 f2 f4 B O K1 hs1 hqs ⊢
    go_wp2_with fail
    go_ret
    obtain ⟨g1, g2, g3, g4, g5, g6, g7⟩ := HOK.out
    have K3 : Keep [q] w1 ((w1.setCell ⟨q, 4, none⟩ (.int .i64 M)).setCell ⟨q, 2, none⟩ (.int .i64 3)) := ((Keep.refl [q] _).setCell (by simp) _).setCell (by simp) _
    refine ⟨rfl, DS K1 hs1 (DmStep.mk hqs hq ?_ (O.keep K3 (by intro b hb hm; simp at hm; exact hq (hm ▸ hb))) (K3.mono (by simp)) (fun b hb => .inl hb) ⟨g1, g2, by show 3 ≤ 3; omega, g4, hM, (fun h => by cases h), g7⟩ nou (fun h => by cases h))⟩
    simpa using (B.set 4 (.int .i64 M)).set 2 (.int .i64 3)
  · rw [hR]
    have HF := Lib.hid (fun n => dcopy_c (w.drewN n) q bs f o V N c (HD.out n) hl)
    rw [hR] at HF
    clear hR
    have hfar : V / low13 f ≤ 255 := by
      obtain ⟨qo, bo, _, _, _, _, ok, _⟩ := HD.out 0
      have h4 := ok.2.2.2.1; dsimp only at h4
      exact Nat.le_trans (Nat.div_le_self _ _) h4
    go_enter Try.func46, Try.ntmps46
    go_wp2_with fail
    refine HM.out.mono ?_; rintro e w1 ⟨rfl, n1, rfl⟩
    have H1 := Lib.hid (HF.out n1)
    have K1 := KN n1
    have hs1 := hsz n1
    obtain ⟨qo, bo, hbs, hq, B, O, ok, nou, inv⟩ := HD.out n1
    have c2 := B.cell 2 _ rfl
    have c3 := B.cell 3 _ rfl
    dsimp only at c3
    simp only [List.getElem_toArray, List.getElem_cons_zero, List.getElem_cons_succ] at c2 c3
    clear hbs hq B O ok nou inv HF HM HD KN hsz
    generalize w.drewN n1 = w1 at c2 c3 H1 K1 hs1 ⊢
    obtain ⟨F, hF⟩ : ∃ F, V / low13 f = F := ⟨_, rfl⟩
    rw [hF] at c3 H1 hfar
    have hwc : IntKind.i64.wrap (c.toNat : Int) = c.toNat := by rw [IntKind.wrap_i64]; omega
    have hm1 : IntKind.i64.wrap (256 * (F : Int)) = ((256 * F : Nat) : Int) := by rw [IntKind.wrap_i64]; omega
    have hm2 : IntKind.i64.wrap (((256 * F : Nat) : Int) + (c.toNat : Int)) = ((256 * F + c.toNat : Nat) : Int) := by rw [IntKind.wrap_i64]; omega
    have hm3 : IntKind.i64.wrap (((256 * F + c.toNat : Nat) : Int) + 1) = ((256 * F + c.toNat + 1 : Nat) : Int) := by rw [IntKind.wrap_i64]; omega
    clear hF
    go_wp2_with fail
    refine H1.out.mono ?_; rintro e w2 ⟨rfl, s2⟩
    go_wp2_with fail
    go_ret
    exact ⟨rfl, DS K1 hs1 s2⟩
def DBad (f size : Int) : Prop := f < 1 ∨ 4 < f ∨ size < 0
theorem dl_bad (w : World) (f size : Int) (h : DBad f size) (hsz : -9223372036854775808 ≤ size) : Calls Try.prog 17 #[.int .i64 f, .int .i64 size] w fun e w' => e = .returned (.tuple #[.pointer none, .int .i64 2]) ∧ Keep [] w w' := by
  by_cases hb : f < 1 ∨ 4 < f
  · have HR := Lib.hid (fun ww => dright_bad ww f hb)
    clear hb h
    go_enter Try.func17, Try.ntmps17
    go_wp2_with fail
    refine (HR.out _).mono ?_; rintro e w1 ⟨rfl, rfl⟩
    go_wp2_with fail
    go_ret2
    exact ⟨rfl, Keep.refl _ _⟩
  · obtain ⟨g, rfl⟩ : ∃ g : Nat, f = g := ⟨f.toNat, by omega⟩
    have hs : size < 0 := by unfold DBad at h; omega
    have HR := Lib.hid (fun ww => dright_c ww g (by omega) (by omega))
    have HW := Lib.hid (fun ww => dwindow_c ww g (by omega) (by omega))
    have HNB := Lib.hid (fun x => (by unfold hsBad; omega : hsBad x size))
    have HN := Lib.hid (fun ww x => hs_new ww x size true (by omega) hsz)
    clear hb h hs
    obtain ⟨X, hX⟩ : ∃ X, 256 * 2 ^ g = X := ⟨_, rfl⟩
    rw [hX] at HW
    clear hX
    go_enter Try.func17, Try.ntmps17
    go_wp2_with fail
    refine (HR.out _).mono ?_; rintro e w1 ⟨rfl, rfl⟩
    go_wp2_with fail
    refine (HW.out _).mono ?_; rintro e w1 ⟨rfl, rfl⟩
    go_wp2_with fail
    refine (HN.out _ _).mono ?_; rintro e w2 ⟨p, er, rfl, k2, hno, -⟩
    obtain ⟨rfl, rfl⟩ := hno (HNB.out _)
    go_wp2_with fail
    go_ret2
    exact ⟨rfl, k2⟩
theorem dl_new (w : World) (f size : Nat) (h1 : 1 ≤ f) (h4 : f ≤ 4) (hs : (size : Int) ≤ 9223372036854775807) : Calls Try.prog 17 #[.int .i64 f, .int .i64 size] w fun e w' => ∃ q bs, e = .returned (.tuple #[.pointer (some ⟨q, 0, none⟩), .int .i64 0]) ∧ Dm w' q bs ⟨f, ⟨65536, size, true, []⟩, 0, 0, 0⟩ ∧ Keep [] w w' ∧ ∀ b ∈ bs, w.heap.size ≤ b := by
  have hpf : (256 : Int) * 2 ^ f ≤ 65536 := by
    have : 2 ^ f ≤ 2 ^ 4 := Nat.pow_le_pow_right (by decide) h4
    have e : ((2 : Int) ^ f) = ((2 ^ f : Nat) : Int) := by simp
    rw [e]; omega
  have HN := Lib.hid (fun ww => hs_new ww ((256 * 2 ^ f : Nat) : Int) (size : Int) true hs (by omega))
  have hnb : ¬ hsBad ((256 * 2 ^ f : Nat) : Int) (size : Int) := by
    have : 0 < 2 ^ f := Nat.two_pow_pos f
    have e : 2 ^ f ≤ 2 ^ 4 := Nat.pow_le_pow_right (by decide) h4
    unfold hsBad; omega
  have HW := Lib.hid (fun ww => dwindow_c ww f h1 h4)
  have HR := Lib.hid (fun ww => dright_c ww f h1 h4)
  have HNB := Lib.hid hnb
  clear hnb hpf
  obtain ⟨X, hX⟩ : ∃ X, 256 * 2 ^ f = X := ⟨_, rfl⟩
  have HX := Lib.hid hX
  rw [hX] at HN HW HNB
  clear hX
  go_enter Try.func17, Try.ntmps17
  go_wp2_with fail
  refine (HR.out _).mono ?_; rintro e w1 ⟨rfl, rfl⟩
  go_wp2_with fail
  refine (HW.out _).mono ?_; rintro e w1 ⟨rfl, rfl⟩
  go_wp2_with fail
  refine (HN.out _).mono ?_; rintro e w2 ⟨p, er, rfl, k2, -, hok⟩
  obtain ⟨rfl, qo, bo, rfl, O2, hbo⟩ := hok HNB.out
  go_wp2_with fail
  go_ret2
  refine ⟨w2.heap.size, w2.heap.size :: bo, rfl, ⟨qo, bo, rfl, (fun hm => by have := O2.lt _ hm; omega), ?_, ?_, ⟨h1, h4, by show 0 ≤ 3; omega, by show 0 ≤ 255; omega, by show 0 ≤ 382; omega, (fun h => by cases h), rfl⟩, rfl, (fun h => by cases h)⟩, k2.alloc _, fun b hb => ?_⟩
  · simpa using Blk.new w2 _ _
  · have e : (⟨(X : Int).toNat, (size : Int).toNat, true, []⟩ : HS) = HS.wn f ⟨65536, size, true, []⟩ := by
      unfold HS.wn; simp [HX.out]
    rw [← e]
    exact O2.keep ((Keep.refl [] w2).alloc _) (by simp)
  · rcases List.mem_cons.1 hb with rfl | hb
    · exact k2.size
    · exact hbo b hb
end Go.Proofs.Yteahcpkaagjkkaa
namespace Go.Proofs.Yteahcpkaagjkkaa
set_option linter.unusedVariables false
set_option linter.unusedSimpArgs false
set_option maxRecDepth 100000
open Go.ChangeShapes Go.WideShapes Go.ChangeAt Go.RowKit

set_option maxHeartbeats 1000000 in
theorem addbytes_c (w : World) (v p : Value) (l d : List UInt8) (h : OwnB w v l) (hd : Bs w p d) (hp : ∀ b, p.ownBlock = some b → v.ownBlock ≠ some b) (hl : l.length ≤ 1000000) (hdl : d.length ≤ 1000000) :
    Calls Try.prog 85 #[v, p] w fun e w' => ∃ v', e = .returned v' ∧ OwnB w' v' (l ++ lits d) ∧ Keep v.ownBlock.toList w w' ∧ (∀ b, v'.ownBlock = some b → v.ownBlock = some b ∨ w.heap.size ≤ b) := by
  obtain ⟨a, cp, rfl, _, _⟩ := hd.shape
  have HD := Lib.hid (fun k (hk : k < d.length) => hd.spot k hk)
  have HP := Lib.hid hp
  clear hd hp
  go_enter Try.func85, Try.ntmps85
  go_wp2_with fail
  go_loopw [0, 9] (fun ov iv wr => ∃ (k : Nat) (L : List UInt8), k ≤ d.length ∧ iv = .int .i64 (k : Nat) ∧ OwnB wr ov (l ++ L) ∧ L.length ≤ 2 * k ∧ Hid (L = lits (d.take k)) ∧ Keep v.ownBlock.toList w wr ∧ (∀ x, ov.ownBlock = some x → v.ownBlock = some x ∨ w.heap.size ≤ x)) (fun _ iv _ => d.length - (intOf iv).toNat)
  case atStart => exact ⟨0, [], Nat.zero_le _, rfl, by rw [List.append_nil]; exact h, Nat.zero_le _, rfl, Keep.refl _ _, fun b hb => .inl hb⟩
  case round =>
    obtain ⟨k, L, hk, rfl, hO, hL, HL, KK, hov⟩ := hrel
    by_cases hx : k < d.length
    · have q0 : decide (k < d.length) = true := by simpa using hx
      have hs1 : IntKind.i64.wrap ((k : Int) + 1) = ((k + 1 : Nat) : Int) := by rw [IntKind.wrap_i64]; omega
      obtain ⟨b9, o9, c9, e9, cellW⟩ := HD.out k hx
      obtain ⟨rfl, -⟩ : a = some ⟨b9, o9, none⟩ ∧ cp = c9 := by simpa using e9
      clear e9
      have hb9 : b9 ∉ v.ownBlock.toList := by
        intro hm
        exact HP.out b9 rfl (by simpa using hm)
      have hsnoc : d.take (k + 1) = d.take k ++ [d[k]] := List.take_succ_eq_append_getElem hx
      obtain ⟨y, hy⟩ : ∃ y, d[k] = y := ⟨_, rfl⟩
      rw [hy] at cellW hsnoc
      have hlit : lits (d.take (k + 1)) = L ++ (if y.toNat = 144 then [y, 0] else [y]) := by
        rw [hsnoc, HL.out]
        unfold lits
        rw [List.flatMap_append]; simp
      have cell := KK.cell cellW hb9
      have HLT := Lib.hid hlit
      have HN := Lib.hid (Bs.new1 wr y)
      have KA := (Keep.refl [] wr).alloc (.cells #[.int .u8 (y.toNat)] 5)
      have hO3 := hO.keep KA (by simp)
      have hll : (l ++ L).length + [y].length ≤ 140737488355328 := by rw [List.length_append]; simp; omega
      have HLL := Lib.hid hll
      clear cellW hsnoc hy hlit hll
      by_cases hy144 : y.toNat = 144
      · have q5 : ((y.toNat : Int) == 144) = true := by simp; omega
        rw [if_pos hy144] at HLT
        clear hy144
        go_upto_region 6 with (at_builtin; (refine wpList_appendB (.tmp 13) (.tmp 15) rfl rfl u0 (l ++ L) rfl hO3 _ [y] rfl HN.out HLL.out ?_); (intro v3 w3 ho3 hk3 hb3 hz3); (have K3 : Keep v.ownBlock.toList w w3 := (KK.trans KA (by simp)).trans hk3 (fun z hz => by rcases hov z (by simpa using hz) with h | h; exact .inl (by simpa using h); exact .inr h)))
        have HN3 := Lib.hid (Bs.new1 w3 0)
        have KA3 := (Keep.refl [] w3).alloc (.cells #[.int .u8 ((0 : UInt8).toNat)] 5)
        have hO5 := ho3.keep KA3 (by simp)
        have hll5 : (l ++ L ++ [y]).length + [(0 : UInt8)].length ≤ 140737488355328 := by rw [List.length_append, List.length_append]; simp; omega
        have HLL5 := Lib.hid hll5
        have hov3 : ∀ x, v3.ownBlock = some x → v.ownBlock = some x ∨ w.heap.size ≤ x := by
          intro x hx
          rcases hb3 x hx with h' | h'
          · exact hov x h'
          · have := KK.size; rw [h']; simp; omega
        clear hll5
        go_wp2_with (at_builtin; (refine wpList_appendB (.tmp 19) (.tmp 20) rfl rfl v3 (l ++ L ++ [y]) rfl hO5 _ [0] rfl HN3.out HLL5.out ?_); (intro v5 w5 ho5 hk5 hb5 hz5); (have K5 : Keep v.ownBlock.toList w w5 := (K3.trans KA3 (by simp)).trans hk5 (fun z hz => by rcases hov3 z (by simpa using hz) with h | h; exact .inl (by simpa using h); exact .inr h)))
        go_roundw
        case rel =>
          refine ⟨k + 1, L ++ [y, 0], by omega, by first | rfl | (congr 1; omega), by simpa using ho5, by rw [List.length_append]; simp; omega, HLT.out.symm, K5, fun x hx => ?_⟩
          rcases hb5 x hx with h' | h'
          · exact hov3 x h'
          · have := K3.size; rw [h']; simp; omega
        case measure => simp [intOf]; omega
      · have q5 : ((y.toNat : Int) == 144) = false := by simp; omega
        rw [if_neg hy144] at HLT
        clear hy144
        go_wp2_with (at_builtin; (refine wpList_appendB (.tmp 13) (.tmp 15) rfl rfl u0 (l ++ L) rfl hO3 _ [y] rfl HN.out HLL.out ?_); (intro v3 w3 ho3 hk3 hb3 hz3); (have K3 : Keep v.ownBlock.toList w w3 := (KK.trans KA (by simp)).trans hk3 (fun z hz => by rcases hov z (by simpa using hz) with h | h; exact .inl (by simpa using h); exact .inr h)))
        go_roundw
        case rel =>
          refine ⟨k + 1, L ++ [y], by omega, by first | rfl | (congr 1; omega), by rw [← List.append_assoc]; exact ho3, by rw [List.length_append]; simp; omega, HLT.out.symm, K3, fun x hx => ?_⟩
          rcases hb3 x hx with h' | h'
          · exact hov x h'
          · have := KK.size; rw [h']; simp; omega
        case measure => simp [intOf]; omega
    · have q0 : decide (k < d.length) = false := by simpa using hx
      have hk2 : k = d.length := by omega
      have HK := Lib.hid hk2
      clear hx hk2
      go_wp2_with fail
      go_ret
      have e : l ++ L = l ++ lits d := by rw [HL.out, HK.out, List.take_length]
      rw [e] at hO
      exact ⟨_, rfl, hO, KK, hov⟩
end Go.Proofs.Yteahcpkaagjkkaa
namespace Go.Proofs.Yteahcpkaagjkkaa
set_option linter.unusedVariables false
set_option linter.unusedSimpArgs false
set_option maxRecDepth 100000
open Go.ChangeShapes Go.WideShapes Go.ChangeAt Go.RowKit

set_option maxHeartbeats 1000000 in
theorem addtoken_c (w : World) (v p : Value) (l d : List UInt8) (lt : UInt8) (f n0 d0 VV : Nat) (h : OwnB w v l) (hd : Bs w p d) (hp : ∀ b, p.ownBlock = some b → v.ownBlock ≠ some b) (hl : l.length ≤ 900000) (hdl : d.length ≤ 900000)
    (h1 : 1 ≤ f) (h2 : f ≤ 4) (hn : n0 = 0 ∨ (3 ≤ n0 ∧ n0 ≤ low13 f + 257 ∧ 1 ≤ d0 ∧ v13 f d0 n0 < 256)) (hd0 : d0 ≤ 65536) (hV : (if n0 = 0 then 0 else v13 f d0 n0) = VV) :
    Calls Try.prog 58 #[v, .agg #[.int .u8 lt.toNat, .int .i64 d0, .int .i64 n0], p, .int .i64 f] w fun e w' => ∃ v', e = .returned v' ∧ OwnB w' v' (l ++ (if VV = 0 then lits d else em13 f d0 n0)) ∧ Keep v.ownBlock.toList w w' ∧ (∀ b, v'.ownBlock = some b → v.ownBlock = some b ∨ w.heap.size ≤ b) := by
  obtain ⟨a, cp, rfl, _, _⟩ := hd.shape
  obtain ⟨l1, l2, l3⟩ := low13_of f h1 h2
  have KA : Keep [] w (w.alloc (.cells #[.int .u8 lt.toNat, .int .i64 d0, .int .i64 n0] 105)) := (Keep.refl [] w).alloc _
  have BT := Blk.new w #[.int .u8 lt.toNat, .int .i64 d0, .int .i64 n0] 105
  have HAB := Lib.hid (fun ww (k : Keep [] w ww) => addbytes_c ww v (.slice a d.length cp) l d (h.keep k (by simp)) (hd.keep k (by simp)) hp (by omega) (by omega))
  have hsz : w.heap.size < (w.alloc (.cells #[.int .u8 lt.toNat, .int .i64 d0, .int .i64 n0] 105)).heap.size := by simp
  rcases hn with rfl | ⟨hn3, hnM, hd1, hv2⟩
  · rw [if_pos rfl] at hV
    subst hV
    rw [if_pos rfl]
    have H1 := Lib.hid (HAB.out _ KA)
    go_enter Try.func58, Try.ntmps58
    go_wp2_with fail
    refine H1.out.mono ?_; rintro e w2 ⟨v2, rfl, o2, k2, b2⟩
    go_wp2_with fail
    go_ret
    exact ⟨_, rfl, o2, (KA.nil (S := v.ownBlock.toList)).trans k2 (fun z hz => .inl hz), fun b hb => by rcases b2 b hb with h | h; exact .inl h; exact .inr (by omega)⟩
  · rw [if_neg (by omega)] at hV
    have z1 : ((n0 : Int) == 0) = false := by simp; omega
    have z2 : (n0 == 0) = false := by simp; omega
    have HM := Lib.hid (fun ww => dmask_c ww f h1 h2)
    have HS := Lib.hid (fun ww => dshift_c ww f h1 h2)
    have hvd : v13 f d0 n0 = min (n0 - 3) (low13 f - 1) + low13 f * ((d0 - 1) / 256) := rfl
    obtain ⟨A, hA⟩ : ∃ A, n0 - 3 = A := ⟨_, rfl⟩
    obtain ⟨D, hD⟩ : ∃ D, d0 - 1 = D := ⟨_, rfl⟩
    obtain ⟨Q, hQ⟩ : ∃ Q, D / 256 = Q := ⟨_, rfl⟩
    obtain ⟨M, hM⟩ : ∃ M, low13 f - 1 = M := ⟨_, rfl⟩
    obtain ⟨m, hm⟩ : ∃ m, min A M = m := ⟨_, rfl⟩
    rw [hA, hD, hQ, hM, hm] at hvd
    rw [hM] at HM
    have u1 : IntKind.i64.wrap ((n0 : Int) - 3) = (A : Int) := by rw [IntKind.wrap_i64]; omega
    have u2 : IntKind.i64.wrap ((d0 : Int) - 1) = (D : Int) := by rw [IntKind.wrap_i64]; omega
    have u3 : (D : Int).tdiv 256 = (Q : Int) := by rw [Int.tdiv_eq_ediv_of_nonneg (by omega)]; omega
    have u4 : IntKind.i64.wrap (Q : Int) = Q := by rw [IntKind.wrap_i64]; omega
    have u5 : min (A : Int) (M : Int) = (m : Int) := by omega
    have hP0 : low13 f * Q < 256 := by omega
    obtain ⟨P, hP⟩ : ∃ P, low13 f * Q = P := ⟨_, rfl⟩
    have us0 : (Q : Int) * 2 ^ (8 - f) = (P : Int) := by
      rw [← hP]; unfold low13; rw [Nat.mul_comm]; simp
    have us : IntKind.i64.wrap ((Q : Int) * 2 ^ (8 - f)) = (P : Int) := by rw [us0, IntKind.wrap_i64]; omega
    have us3 : IntKind.i64.wrap (P : Int) = (P : Int) := by rw [IntKind.wrap_i64]; omega
    rw [hP] at hvd hP0
    have us2 : IntKind.i64.wrap ((m : Int) + (P : Int)) = (VV : Int) := by rw [IntKind.wrap_i64]; omega
    have hVV : VV < 256 := by omega
    have TT := Lib.hid (fun ww (k : Keep [] (w.alloc (.cells #[.int .u8 lt.toNat, .int .i64 d0, .int .i64 n0] 105)) ww) => (BT.keep k (by simp) : Blk ww w.heap.size #[.int .u8 lt.toNat, .int .i64 d0, .int .i64 n0] 105))
    have HM0 := Lib.hid hM; have HA0 := Lib.hid hA; have HD0 := Lib.hid hD; have HVD := Lib.hid hvd; have HV := Lib.hid hV
    obtain ⟨R, hR⟩ : ∃ R, (if VV = 0 then lits d else em13 f d0 n0) = R := ⟨_, rfl⟩
    rw [hR]
    have HR := Lib.hid hR
    clear hM hm hA hD hQ hd hP hvd hv2 hV BT hR
    go_enter Try.func58, Try.ntmps58
    go_wp2_with fail
    go_quiet ((go_at_call 84; exact Calls.quiet_of ((HM.out _).mono fun _ _ => sameQ)))
    obtain ⟨g, hg⟩ : ∃ g, w.heap.size = g := ⟨_, rfl⟩
    have B2 := TT.out _ ((Keep.refl [] _).drewN nq)
    have K2 := KA.drewN nq
    have HG := Lib.hid hg
    rw [hg] at B2 TT ⊢
    clear hg
    generalize hW : (w.alloc (.cells #[.int .u8 lt.toNat, .int .i64 d0, .int .i64 n0] 105)).drewN nq = w2 at B2 K2 ⊢
    clear hW TT KA
    have c1 := B2.cell 1 _ rfl
    simp only [List.getElem_toArray, List.getElem_cons_zero, List.getElem_cons_succ] at c1
    go_wp2_with fail
    go_quiet ((go_at_call 86; exact Calls.quiet_of ((HS.out _).mono fun _ _ => sameQ)))
    have B3 := B2.keep ((Keep.refl [] _).drewN nq) (by simp)
    have K3 := K2.drewN nq
    clear c1 B2 K2
    generalize w2.drewN nq = w3 at B3 K3 ⊢
    by_cases hv0 : VV = 0
    · have q1 : ((VV : Int) == 0) = true := by simp; omega
      have hR := HR.out
      rw [if_pos hv0] at hR
      rw [hR] at HAB
      clear hR
      have H1 := Lib.hid (HAB.out _ K3)
      subst hv0
      go_wp2_with fail
      refine H1.out.mono ?_; rintro e w4 ⟨v2, rfl, o2, k2, b2⟩
      go_wp2_with fail
      go_ret
      have hs3 := K3.size
      exact ⟨_, rfl, o2, (K3.nil (S := v.ownBlock.toList)).trans k2 (fun z hz => .inl hz), fun b hb => by rcases b2 b hb with h | h; exact .inl h; exact .inr (by omega)⟩
    · have q1 : ((VV : Int) == 0) = false := by simp; omega
      have hR := HR.out
      rw [if_neg hv0] at hR
      clear HR HAB
      have HR := Lib.hid hR
      clear hv0 hR
      have hov := h.keep K3 (by simp)
      have ub : IntKind.u8.wrap (VV : Int) = VV := by rw [IntKind.wrap_u8]; omega
      obtain ⟨Rm, hRm⟩ : ∃ Rm, D % 256 = Rm := ⟨_, rfl⟩
      have hR2 : Rm < 256 := by omega
      have u7 : (D : Int).tmod 256 = (Rm : Int) := by rw [Int.tmod_eq_emod_of_nonneg (by omega)]; omega
      have u8 : IntKind.i64.wrap (Rm : Int) = Rm := by rw [IntKind.wrap_i64]; omega
      have u9 : IntKind.u8.wrap (Rm : Int) = Rm := by rw [IntKind.wrap_u8]; omega
      have y1 : (UInt8.ofNat VV).toNat = VV := by rw [UInt8.toNat_ofNat']; omega
      have y2 : (UInt8.ofNat Rm).toNat = Rm := by rw [UInt8.toNat_ofNat']; omega
      have hem : em13 f d0 n0 = [144, UInt8.ofNat VV] ++ (if M ≤ A then [UInt8.ofNat (A - M)] else []) ++ [UInt8.ofNat Rm] := by
        unfold em13; rw [HV.out, HM0.out, HA0.out, HD0.out, hRm]
      have HE : Hid (R = [144, UInt8.ofNat VV] ++ (if M ≤ A then [UInt8.ofNat (A - M)] else []) ++ [UInt8.ofNat Rm]) := by
        unfold Hid; rw [← HR.out, hem]
      have hvlt : ∀ x, v.ownBlock = some x → x < g := fun x hx => by have := h.lt x hx; have := HG.out; omega
      have hg3 : g < w3.heap.size := B3.lt
      have HN := Lib.hid (Bs.lit w3 [144, UInt8.ofNat VV] #[.int .u8 144, .int .u8 VV] 2 (by simp [ints8, y1]) rfl (by decide))
      have KA3 := (Keep.refl [] w3).alloc (.cells #[.int .u8 144, .int .u8 VV] 5)
      have hO3 := hov.keep KA3 (by simp)
      have HLL : Hid (l.length + [144, UInt8.ofNat VV].length ≤ 140737488355328) := by unfold Hid; simp; omega
      have hAM : A ≤ M + 255 := by have := HM0.out; have := HA0.out; omega
      clear hem hRm HR
      have HAM := Lib.hid u5
      go_upto_region 8 with (at_builtin; (refine wpList_appendB (.tmp 37) (.tmp 40) rfl rfl v l rfl hO3 _ [144, UInt8.ofNat VV] rfl HN.out HLL.out ?_); (intro v4 w4 ho4 hk4 hb4 hz4))
      have K34 : Keep v.ownBlock.toList w3 w4 := ((KA3.nil (S := v.ownBlock.toList)).trans hk4 (fun z hz => .inl hz))
      have B4 := B3.keep K34 (by intro hm; have := hvlt g (by simpa using hm); omega)
      have K4 : Keep v.ownBlock.toList w w4 := (K3.nil (S := v.ownBlock.toList)).trans K34 (fun z hz => .inl hz)
      have hv4 : ∀ x, v4.ownBlock = some x → v.ownBlock = some x ∨ g < x := fun x hx => by
        rcases hb4 x hx with h | h
        · exact .inl h
        · right; rw [h]; simp; omega
      have hg4 : ∀ x, v4.ownBlock = some x → x ≠ g := fun x hx e => by
        rcases hv4 x hx with h | h
        · have := hvlt x h; omega
        · omega
      clear K34 hk4 hb4 HN KA3 hO3 HLL hov
      have c1 := B4.cell 1 _ rfl
      have c2 := B4.cell 2 _ rfl
      simp only [List.getElem_toArray, List.getElem_cons_zero, List.getElem_cons_succ] at c1 c2
      obtain ⟨E1, hE1⟩ : ∃ E1, (if M ≤ A then [UInt8.ofNat (A - M)] else []) = E1 := ⟨_, rfl⟩
      rw [hE1] at HE
      by_cases hbig : M ≤ A
      · have hmM : m = M := by omega
        have r1 : ((m : Int) == (M : Int)) = true := by simp; omega
        have r2 : (m == M) = true := by simpa using hmM
        obtain ⟨G, hG⟩ : ∃ G, A - M = G := ⟨_, rfl⟩
        rw [if_pos hbig, hG] at hE1
        subst hE1
        have hG2 : G < 256 := by omega
        have r3 : IntKind.i64.wrap ((A : Int) - (m : Int)) = (G : Int) := by rw [IntKind.wrap_i64]; omega
        have r4 : IntKind.u8.wrap (G : Int) = G := by rw [IntKind.wrap_u8]; omega
        have y3 : (UInt8.ofNat G).toNat = G := by rw [UInt8.toNat_ofNat']; omega
        have hl3 := Bs.new1 w4 (UInt8.ofNat G)
        rw [y3] at hl3
        have HL3 := Lib.hid hl3
        have KA5 := (Keep.refl [] w4).alloc (.cells #[.int .u8 (G : Int)] 5)
        have hO5 := ho4.keep KA5 (by simp)
        have HLL3 : Hid ((l ++ [144, UInt8.ofNat VV]).length + [UInt8.ofNat G].length ≤ 140737488355328) := by unfold Hid; simp; omega
        clear hmM hG hl3 hbig
        go_wp2_with fail
        refine (HM.out _).mono ?_; rintro e w5 ⟨rfl, rfl⟩
        go_upto_region 10 with (at_builtin; (refine wpList_appendB (.tmp 46) (.tmp 53) rfl rfl v4 (l ++ [144, UInt8.ofNat VV]) rfl hO5 _ [UInt8.ofNat G] rfl HL3.out HLL3.out ?_); (intro v6 w6 ho6 hk6 hb6 hz6))
        have K46 : Keep v4.ownBlock.toList w4 w6 := ((KA5.nil (S := v4.ownBlock.toList)).trans hk6 (fun z hz => .inl hz))
        have B6 := B4.keep K46 (by intro hm; exact hg4 g (by simpa using hm) rfl)
        have hszg : w.heap.size = g := HG.out
        have K6 : Keep v.ownBlock.toList w w6 := K4.trans K46 (fun z hz => by
          rcases hv4 z (by simpa using hz) with h | h
          · exact .inl (by simpa using h)
          · exact .inr (by omega))
        have hg5 : g < w4.heap.size := B4.lt
        have hv6 : ∀ x, v6.ownBlock = some x → v.ownBlock = some x ∨ g < x := fun x hx => by
          rcases hb6 x hx with h | h
          · exact hv4 x h
          · right; rw [h]; simp; omega
        clear K46 hk6 hb6 HL3 KA5 hO5 HLL3 c1 c2 hszg
        have c1 := B6.cell 1 _ rfl
        simp only [List.getElem_toArray, List.getElem_cons_zero, List.getElem_cons_succ] at c1
        have hl5 := Bs.new1 w6 (UInt8.ofNat Rm)
        rw [y2] at hl5
        have HL5 := Lib.hid hl5
        have KA7 := (Keep.refl [] w6).alloc (.cells #[.int .u8 (Rm : Int)] 5)
        have hO7 := ho6.keep KA7 (by simp)
        have HLL5 : Hid ((l ++ [144, UInt8.ofNat VV] ++ [UInt8.ofNat G]).length + [UInt8.ofNat Rm].length ≤ 140737488355328) := by unfold Hid; simp; omega
        clear hl5
        go_wp2_with (at_builtin; (refine wpList_appendB (.tmp 55) (.tmp 61) rfl rfl v6 (l ++ [144, UInt8.ofNat VV] ++ [UInt8.ofNat G]) rfl hO7 _ [UInt8.ofNat Rm] rfl HL5.out HLL5.out ?_); (intro v8 w8 ho8 hk8 hb8 hz8))
        go_ret
        have hszg : w.heap.size = g := HG.out
        refine ⟨v8, rfl, by rw [HE.out]; simpa [List.append_assoc] using ho8, (K6.trans KA7 (by simp)).trans hk8 (fun z hz => ?_), fun b hb => ?_⟩
        · rcases hv6 z (by simpa using hz) with h | h
          · exact .inl (by simpa using h)
          · exact .inr (by omega)
        · rcases hb8 b hb with h | h
          · rcases hv6 b h with h | h
            · exact .inl h
            · exact .inr (by omega)
          · right; have := K6.size; rw [h]; simp; omega
      · have hmM : ¬ m = M := by omega
        have r1 : ((m : Int) == (M : Int)) = false := by simp; omega
        have r2 : (m == M) = false := by simpa using hmM
        rw [if_neg hbig] at hE1
        subst hE1
        have hl5 := Bs.new1 w4 (UInt8.ofNat Rm)
        rw [y2] at hl5
        have HL5 := Lib.hid hl5
        have KA7 := (Keep.refl [] w4).alloc (.cells #[.int .u8 (Rm : Int)] 5)
        have hO7 := ho4.keep KA7 (by simp)
        have HLL5 : Hid ((l ++ [144, UInt8.ofNat VV]).length + [UInt8.ofNat Rm].length ≤ 140737488355328) := by unfold Hid; simp; omega
        clear hl5 hmM hbig
        go_wp2_with fail
        refine (HM.out _).mono ?_; rintro e w5 ⟨rfl, rfl⟩
        go_wp2_with (at_builtin; (refine wpList_appendB (.tmp 55) (.tmp 61) rfl rfl v4 (l ++ [144, UInt8.ofNat VV]) rfl hO7 _ [UInt8.ofNat Rm] rfl HL5.out HLL5.out ?_); (intro v8 w8 ho8 hk8 hb8 hz8))
        go_ret
        have hszg : w.heap.size = g := HG.out
        refine ⟨v8, rfl, by rw [HE.out]; simpa [List.append_assoc] using ho8, (K4.trans KA7 (by simp)).trans hk8 (fun z hz => ?_), fun b hb => ?_⟩
        · rcases hv4 z (by simpa using hz) with h | h
          · exact .inl (by simpa using h)
          · exact .inr (by omega)
        · rcases hb8 b hb with h | h
          · rcases hv4 b h with h | h
            · exact .inl h
            · exact .inr (by omega)
          · right; have := K4.size; rw [h]; simp; omega
end Go.Proofs.Yteahcpkaagjkkaa
