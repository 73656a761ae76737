/- The machine of dle's code: what it holds, and what its calls leave behind. -/
import Derived.Test.YtmafgamacijdaaaDle1
namespace Go.Proofs.Ytmafgamacijdaaa
set_option linter.unusedVariables false
set_option linter.unusedSimpArgs false
set_option maxRecDepth 100000
open Go.ChangeShapes Go.WideShapes Go.ChangeAt Go.RowKit

/-- the output as the code holds it: its window is the factor's -/
def HS.wn (f : Nat) (o : HS) : HS := { o with win := 256 * 2 ^ f }
theorem wn_lit (f : Nat) (o : HS) (c : UInt8) : (o.wn f).lit c = ((o.lit c).1, (o.lit c).2.wn f) := by
  unfold HS.lit HS.wn; dsimp only; split <;> rfl
theorem wn_copy (f : Nat) (h2 : f ≤ 4) (o : HS) (hw : o.win = 65536) (d n : Int) (hd : d ≤ ((256 * 2 ^ f : Nat) : Int)) : (o.wn f).copy d n = ((o.copy d n).1, (o.copy d n).2.wn f) := by
  have hp : 2 ^ f ≤ 2 ^ 4 := Nat.pow_le_pow_right (by decide) h2
  have e1 : ((256 * 2 ^ f : Nat) : Int) < d ↔ ((65536 : Nat) : Int) < d := by omega
  unfold HS.copy HS.wn
  dsimp only
  rw [hw]
  simp only [e1]
  repeat' split
  all_goals rfl
theorem HS.lit_nou (s : HS) (c : UInt8) : (s.lit c).2.nou = s.nou ∧ (s.lit c).2.most = s.most := by unfold HS.lit; split <;> exact ⟨rfl, rfl⟩
theorem HS.copy_nou (s : HS) (d n : Int) : (s.copy d n).2.nou = s.nou ∧ (s.copy d n).2.most = s.most := by
  unfold HS.copy; repeat' split
  all_goals exact ⟨rfl, rfl⟩
theorem HS.copy_err (s : HS) (d n : Int) (h : ¬ (s.copy d n).1 = 0) : (s.copy d n).2 = s := by
  revert h; unfold HS.copy; repeat' split
  all_goals (intro h; first | rfl | exact absurd rfl h)
/-- block q is a machine in state m; bs: all its blocks, q among them -/
def Dm (w : World) (q : Nat) (bs : List Nat) (m : MS) : Prop :=
  ∃ qo bo, bs = q :: bo ∧ q ∉ bo ∧ Blk w q #[.pointer (some ⟨qo, 0, none⟩), .int .i64 m.f, .int .i64 m.st, .int .i64 ((m.V / low13 m.f : Nat) : Int), .int .i64 m.N] 54 ∧ Ho w qo bo (m.o.wn m.f) ∧ m.ok ∧ m.o.nou = true ∧ (m.st = 1 → m.o.b.length < m.o.most)
theorem Dm.keep {w w' : World} {q : Nat} {bs S : List Nat} {m : MS} (h : Dm w q bs m) (k : Keep S w w') (hs : ∀ b ∈ bs, b ∉ S) : Dm w' q bs m := by
  obtain ⟨qo, bo, rfl, hq, B, O, r⟩ := h
  exact ⟨qo, bo, rfl, hq, B.keep k (hs q (by simp)), O.keep k (fun b hb => hs b (by simp [hb])), r⟩
theorem Dm.lt {w : World} {q : Nat} {bs : List Nat} {m : MS} (h : Dm w q bs m) : ∀ b ∈ bs, b < w.heap.size := by
  obtain ⟨qo, bo, rfl, hq, B, O, r⟩ := h
  intro b hb
  rcases List.mem_cons.1 hb with rfl | hb
  · exact B.lt
  · exact O.lt b hb
/-- what Feed leaves behind -/
def DmStep (w w' : World) (q : Nat) (bs : List Nat) (m' : MS) : Prop := ∃ bs', Dm w' q bs' m' ∧ Keep bs w w' ∧ ∀ b ∈ bs', b ∈ bs ∨ w.heap.size ≤ b
theorem DmStep.mk {w w2 : World} {q qo : Nat} {bo bo2 : List Nat} {m2 : MS} (hq : q < w.heap.size) (qn : q ∉ bo)
    (B2 : Blk w2 q #[.pointer (some ⟨qo, 0, none⟩), .int .i64 m2.f, .int .i64 m2.st, .int .i64 ((m2.V / low13 m2.f : Nat) : Int), .int .i64 m2.N] 54) (O2 : Ho w2 qo bo2 (m2.o.wn m2.f)) (K : Keep (q :: bo) w w2)
    (hb : ∀ b ∈ bo2, b ∈ bo ∨ w.heap.size ≤ b) (ok : m2.ok) (nou : m2.o.nou = true) (inv : m2.st = 1 → m2.o.b.length < m2.o.most) : DmStep w w2 q (q :: bo) m2 := by
  refine ⟨q :: bo2, ⟨qo, bo2, rfl, fun hm => ?_, B2, O2, ok, nou, inv⟩, K, fun b h => ?_⟩
  · rcases hb q hm with h | h
    · exact qn h
    · omega
  · rcases List.mem_cons.1 h with rfl | h
    · exact .inl (by simp)
    · rcases hb b h with h | h
      · exact .inl (by simp [h])
      · exact .inr h
theorem div13 (f k : Nat) (h1 : 1 ≤ f) (h2 : f ≤ 4) : ((k : Int) / 2 ^ (8 - f)) = ((k / low13 f : Nat) : Int) := by
  unfold low13; simp
set_option maxHeartbeats 1000000 in
theorem feedv_c (w : World) (q : Nat) (bs : List Nat) (f : Nat) (o : HS) (V N : Nat) (c : UInt8) (h : Dm w q bs ⟨f, o, 1, V, N⟩) (hl : o.b.length ≤ 140737488340000) :
    Calls Try.prog 27 #[.pointer (some ⟨q, 0, none⟩), .int .i64 c.toNat] w fun e w' => e = .returned (.int .i64 ((⟨f, o, 1, V, N⟩ : MS).feed c).1) ∧ DmStep w w' q bs ((⟨f, o, 1, V, N⟩ : MS).feed c).2 := by
  obtain ⟨qo, bo, rfl, hq, B, O, ok, nou, inv⟩ := h
  have hlt : o.b.length < o.most := inv rfl
  obtain ⟨g1, g2, g3, g4, g5, g6, g7⟩ := ok
  dsimp only at g1 g2 g3 g4 g5 g6 g7 B O nou
  have c0 := B.cell 0 _ rfl
  have c1 := B.cell 1 _ rfl
  have c2 := B.cell 2 _ rfl
  have c3 := B.cell 3 _ rfl
  have c4 := B.cell 4 _ rfl
  have f2 := B.free 2
  have f3 := B.free 3
  have f4 := B.free 4
  have hqs := B.lt
  have hc := c.toNat_lt
  obtain ⟨l1, l2, l3⟩ := low13_of f g1 g2
  by_cases hz : c.toNat = 0
  · have he : (o.lit 144).1 = 0 := by unfold HS.lit; rw [if_neg (by omega)]
    rw [feed_1z f o V N c hz, he, if_pos rfl]
    rw [hz]
    have HL := Lib.hid (fun ww (k : Keep [q] w ww) => hs_lit ww qo bo (o.wn f) 144 (O.keep k (by intro b hb hm; simp at hm; exact hq (hm ▸ hb))) (by show o.b.length + 1 ≤ _; omega))
    simp only [wn_lit] at HL
    rw [he] at HL
    go_enter Try.func27, Try.ntmps27
    go_wp2_with fail
    refine (HL.out _ ((Keep.refl [q] w).setCell (by simp) _)).mono ?_; rintro e w1 ⟨rfl, bo2, O2, k2, b2⟩
    go_wp2_with fail
    go_ret
    refine ⟨rfl, DmStep.mk hqs hq ?_ O2 ?_ ?_ ⟨g1, g2, by show 0 ≤ 3; omega, g4, g5, (fun h => by cases h), by rw [HS.lit_win]; exact g7⟩ (by rw [(HS.lit_nou _ _).1]; exact nou) (fun h => by cases h)⟩
    · exact (by simpa using B.set 2 (.int .i64 0) : Blk (w.setCell ⟨q, 2, none⟩ (.int .i64 0)) q _ _).keep k2 hq
    · exact ((Keep.refl (q :: bo) w).setCell (by simp) _).trans (k2.mono (fun z hz => List.mem_cons_of_mem _ hz)) (fun z hz => .inl hz)
    · intro b hb; have := b2 b hb; simpa using this
  · rw [feed_1 f o V N c hz]
    obtain ⟨k, hk⟩ : ∃ k, c.toNat = k := ⟨_, rfl⟩
    rw [hk] at hz hc ⊢
    have hkz : ((k : Int) == 0) = false := by simp; omega
    have HM := Lib.hid (fun ww => mask_c ww f g1 g2)
    have HS := Lib.hid (fun ww => shift_c ww f g1 g2)
    have ha := and13 f k g1 g2 (by omega)
    have hd := div13 f k g1 g2
    have hmod : k % low13 f < low13 f := Nat.mod_lt _ (by omega)
    have hmi : ((k % low13 f : Nat) : Int) = ((low13 f - 1 : Nat) : Int) ↔ k % low13 f = low13 f - 1 := by omega
    obtain ⟨R, hR⟩ : ∃ R, k % low13 f = R := ⟨_, rfl⟩
    obtain ⟨D, hD⟩ : ∃ D, k / low13 f = D := ⟨_, rfl⟩
    obtain ⟨M, hM⟩ : ∃ M, low13 f - 1 = M := ⟨_, rfl⟩
    have hDk := Lib.hid hD
    rw [hR] at ha hmod hmi ⊢
    rw [hD] at hd
    rw [hM] at ha hmi HM ⊢
    have hRM : R ≤ M := by omega
    have hM2 : M ≤ 127 := by omega
    clear hk hz hD hR hM
    have B1 : Blk (((w.setCell ⟨q, 3, none⟩ (.int .i64 D)).setCell ⟨q, 4, none⟩ (.int .i64 R)).setCell ⟨q, 2, none⟩ (.int .i64 3)) q #[.pointer (some ⟨qo, 0, none⟩), .int .i64 f, .int .i64 3, .int .i64 D, .int .i64 R] 54 := by
      simpa using ((B.set 3 (.int .i64 D)).set 4 (.int .i64 R)).set 2 (.int .i64 3)
    have K1 : Keep [q] w (((w.setCell ⟨q, 3, none⟩ (.int .i64 D)).setCell ⟨q, 4, none⟩ (.int .i64 R)).setCell ⟨q, 2, none⟩ (.int .i64 3)) := (((Keep.refl [q] w).setCell (by simp) _).setCell (by simp) _).setCell (by simp) _
    obtain ⟨W3, hW3⟩ : ∃ W3, ((w.setCell ⟨q, 3, none⟩ (.int .i64 D)).setCell ⟨q, 4, none⟩ (.int .i64 R)).setCell ⟨q, 2, none⟩ (.int .i64 3) = W3 := ⟨_, rfl⟩
    rw [hW3] at B1 K1
    have HW3 := Lib.hid hW3; clear hW3
    have OK : MS.ok ⟨f, o, if R = M then 2 else 3, k, R⟩ := ⟨g1, g2, by dsimp only; split <;> omega, by show k ≤ 255; omega, by show R ≤ 382; omega, fun _ => by show R ≤ 127; omega, g7⟩
    have hinv : (⟨f, o, if R = M then 2 else 3, k, R⟩ : MS).st = 1 → o.b.length < o.most := by intro h; dsimp only at h; split at h <;> omega
    have HB1 := Lib.hid B1
    clear B1
    by_cases hrm : R = M
    · have e1 : ((R : Int) == (M : Int)) = true := by simp; omega
      have e2 : (R == M) = true := by simpa using hrm
      rw [if_pos hrm] at OK hinv ⊢
      clear hmi hrm
      go_enter Try.func27, Try.ntmps27
      go_wp2_with fail
      refine (HS.out _).mono ?_; rintro e w1 ⟨rfl, rfl⟩
      go_wp2_with fail
      refine (HM.out _).mono ?_; rintro e w1 ⟨rfl, rfl⟩
      go_wp2_with fail
      go_quiet ((go_at_call 41; exact Calls.quiet_of ((HM.out _).mono fun _ _ => sameQ)))
      rw [HW3.out]
      have B2 := HB1.out.keep ((Keep.refl [] _).drewN nq) (by simp)
      have K2 : Keep [q] w (W3.drewN nq) := K1.drewN nq
      generalize W3.drewN nq = w4 at B2 K2 ⊢
      have d2 := B2.cell 2 _ rfl
      have fd2 := B2.free 2
      go_wp2_with fail
      go_ret
      have K3 : Keep [q] w (w4.setCell ⟨q, 2, none⟩ (.int .i64 2)) := K2.setCell (by simp) _
      refine ⟨rfl, DmStep.mk hqs hq ?_ (O.keep K3 (by intro b hb hm; simp at hm; exact hq (hm ▸ hb))) (K3.mono (by simp)) (fun b hb => .inl hb) OK nou hinv⟩
      rw [hDk.out]
      simpa using B2.set 2 (.int .i64 2)
    · have e1 : ((R : Int) == (M : Int)) = false := by simp; omega
      have e2 : (R == M) = false := by simpa using hrm
      rw [if_neg hrm] at OK hinv ⊢
      clear hmi hrm
      go_enter Try.func27, Try.ntmps27
      go_wp2_with fail
      refine (HS.out _).mono ?_; rintro e w1 ⟨rfl, rfl⟩
      go_wp2_with fail
      refine (HM.out _).mono ?_; rintro e w1 ⟨rfl, rfl⟩
      go_wp2_with fail
      go_quiet ((go_at_call 41; exact Calls.quiet_of ((HM.out _).mono fun _ _ => sameQ)))
      rw [HW3.out]
      have B2 := HB1.out.keep ((Keep.refl [] _).drewN nq) (by simp)
      have K2 : Keep [q] w (W3.drewN nq) := K1.drewN nq
      generalize W3.drewN nq = w4 at B2 K2 ⊢
      go_wp2_with fail
      go_ret
      refine ⟨rfl, DmStep.mk hqs hq ?_ (O.keep K2 (by intro b hb hm; simp at hm; exact hq (hm ▸ hb))) (K2.mono (by simp)) (fun b hb => .inl hb) OK nou hinv⟩
      rw [hDk.out]
      exact B2
end Go.Proofs.Ytmafgamacijdaaa
