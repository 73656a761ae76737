/- Feed and New over the landed code. -/
import Derived.Test.YtmafgamacijdaaaDle
import Derived.StillTailTactics
namespace Go.Proofs.Ytmafgamacijdaaa
set_option linter.unusedVariables false
set_option linter.unusedSimpArgs false
set_option maxRecDepth 100000
open Go.ChangeShapes Go.WideShapes Go.ChangeAt Go.RowKit

set_option maxHeartbeats 1000000 in
theorem feedany_c (w : World) (q : Nat) (bs : List Nat) (f : Nat) (o : HS) (V N : Nat) (c : UInt8) (h : Dm w q bs ⟨f, o, 0, V, N⟩) (hl : o.b.length ≤ 140737488340000) :
    Calls Try.prog 29 #[.pointer (some ⟨q, 0, none⟩), .int .u8 c.toNat] w fun e w' => e = .returned (.int .i64 ((⟨f, o, 0, V, N⟩ : MS).feed c).1) ∧ DmStep w w' q bs ((⟨f, o, 0, V, N⟩ : MS).feed c).2 := by
  obtain ⟨qo, bo, rfl, hq, B, O, ok, nou, inv⟩ := h
  have hle : o.b.length ≤ o.most := O.ok.1
  have hqs := B.lt
  have HF := Lib.hid (hs_full _ _ _ _ O)
  have hfl : (HS.wn f o).b.length = o.b.length := rfl
  have hfm : (HS.wn f o).most = o.most := rfl
  dsimp only at HF
  rw [hfl, hfm] at HF
  have HFr := Lib.hid (fun n : Nat => (⟨qo, bo, rfl, hq, B.keep ((Keep.refl [] w).drewN n) (by simp), O.keep ((Keep.refl [] w).drewN n) (by simp), ok, nou, inv⟩ : Dm (w.drewN n) q (q :: bo) ⟨f, o, 0, V, N⟩))
  have c0 := B.cell 0 _ rfl
  simp only [List.getElem_toArray, List.getElem_cons_zero, List.getElem_cons_succ] at c0
  obtain ⟨g1, g2, g3, g4, g5, g6, g7⟩ := ok
  dsimp only at g1 g2 g4 g5 g7 nou B O
  have KN : ∀ n, Keep [] w (w.drewN n) := fun n => (Keep.refl [] w).drewN n
  by_cases hfu : o.b.length = o.most
  · have e1 : decide (o.b.length = o.most) = true := by simpa using hfu
    rw [e1] at HF
    have e2 : (⟨f, o, 0, V, N⟩ : MS).feed c = (9, ⟨f, o, 0, V, N⟩) := by simp [MS.feed, MS.full, hfu]
    rw [e2]
    clear hfl hfm e1 e2 hfu inv
    go_enter Try.func29, Try.ntmps29
    go_wp2_with fail
    refine HF.out.mono ?_; rintro e w1 ⟨rfl, n1, rfl⟩
    go_wp2_with fail
    go_ret
    exact ⟨rfl, _, HFr.out n1, (KN n1).nil, fun b hb => .inl hb⟩
  · have e1 : decide (o.b.length = o.most) = false := by simpa using hfu
    rw [e1] at HF
    have hlt : o.b.length < o.most := by omega
    by_cases hc : c.toNat = 144
    · rw [feed_0m f o V N c hfu hc]
      have q1 : ((c.toNat : Int) == 144) = true := by simp; omega
      have q2 : (c.toNat == 144) = true := by simpa using hc
      clear hfl hfm e1 hfu inv hc
      go_enter Try.func29, Try.ntmps29
      go_wp2_with fail
      refine HF.out.mono ?_; rintro e w1 ⟨rfl, n1, rfl⟩
      have B1 := B.keep (KN n1) (by simp)
      have O1 := O.keep (KN n1) (by simp)
      have K1 := KN n1
      generalize w.drewN n1 = w1 at B1 O1 K1 ⊢
      have d2 := B1.cell 2 _ rfl
      have fd2 := B1.free 2
      simp only [List.getElem_toArray, List.getElem_cons_zero, List.getElem_cons_succ] at d2
      go_wp2_with fail
      go_ret
      have K3 : Keep [q] w1 (w1.setCell ⟨q, 2, none⟩ (.int .i64 1)) := (Keep.refl [q] _).setCell (by simp) _
      refine ⟨rfl, DmStep.mk hqs hq ?_ (O1.keep K3 (by intro b hb hm; simp at hm; exact hq (hm ▸ hb))) ((K1.nil (S := q :: bo)).trans (K3.mono (by simp)) (fun z hz => .inl hz)) (fun b hb => .inl hb) ⟨g1, g2, by show 1 ≤ 3; omega, g4, g5, (fun h => by cases h), g7⟩ nou (fun _ => hlt)⟩
      simpa using B1.set 2 (.int .i64 1)
    · rw [feed_0 f o V N c hfu hc]
      have q1 : ((c.toNat : Int) == 144) = false := by simp; omega
      have q2 : (c.toNat == 144) = false := by simpa using hc
      clear hfl hfm e1 hfu inv hc
      have HL := Lib.hid (fun ww (k : Keep [] w ww) => hs_lit ww qo bo (o.wn f) c (O.keep k (by simp)) (by show o.b.length + 1 ≤ _; omega))
      simp only [wn_lit] at HL
      obtain ⟨R, hR⟩ : ∃ R, o.lit c = R := ⟨_, rfl⟩
      have hw7 : R.2.win = 65536 := by rw [← hR, HS.lit_win]; exact g7
      have hn7 : R.2.nou = true := by rw [← hR, (HS.lit_nou _ _).1]; exact nou
      rw [hR] at HL ⊢
      clear hR
      go_enter Try.func29, Try.ntmps29
      go_wp2_with fail
      refine HF.out.mono ?_; rintro e w1 ⟨rfl, n1, rfl⟩
      have B1 := B.keep (KN n1) (by simp)
      have H1 := Lib.hid (HL.out _ (KN n1))
      have K1 := KN n1
      have hsz : (w.drewN n1).heap.size = w.heap.size := by simp
      generalize w.drewN n1 = w1 at B1 H1 K1 hsz ⊢
      have d0 := B1.cell 0 _ rfl
      simp only [List.getElem_toArray, List.getElem_cons_zero, List.getElem_cons_succ] at d0
      go_wp2_with fail
      refine H1.out.mono ?_; rintro e w2 ⟨rfl, bo2, O2, k2, b2⟩
      go_wp2_with fail
      go_ret
      exact ⟨rfl, DmStep.mk hqs hq (B1.keep k2 hq) O2 ((K1.nil (S := q :: bo)).trans (k2.mono (fun z hz => List.mem_cons_of_mem _ hz)) (fun z hz => .inl hz)) (fun b hb => by rcases b2 b hb with h | h; exact .inl h; exact .inr (by omega)) ⟨g1, g2, g3, g4, g5, g6, hw7⟩ hn7 (fun h => by cases h)⟩
set_option maxHeartbeats 1000000 in
theorem dcopy_c (w : World) (q : Nat) (bs : List Nat) (f : Nat) (o : HS) (V N : Nat) (c : UInt8) (h : Dm w q bs ⟨f, o, 3, V, N⟩) (hl : o.b.length ≤ 140737488340000) :
    Calls Try.prog 28 #[.pointer (some ⟨q, 0, none⟩), .int .i64 ((256 * (V / low13 f) + c.toNat + 1 : Nat) : Int)] w fun e w' => e = .returned (.int .i64 ((⟨f, o, 3, V, N⟩ : MS).feed c).1) ∧ DmStep w w' q bs ((⟨f, o, 3, V, N⟩ : MS).feed c).2 := by
  obtain ⟨qo, bo, rfl, hq, B, O, ok, nou, inv⟩ := h
  have hqs := B.lt
  obtain ⟨g1, g2, g3, g4, g5, g6, g7⟩ := ok
  dsimp only at g1 g2 g4 g5 g7 nou B O
  obtain ⟨l1, l2, l3⟩ := low13_of f g1 g2
  have hp : 2 ^ f ≤ 2 ^ 4 := Nat.pow_le_pow_right (by decide) g2
  have hfar : V / low13 f < 2 ^ f := Nat.div_lt_of_lt_mul (by omega)
  have hc := c.toNat_lt
  have e2 : (⟨f, o, 3, V, N⟩ : MS).feed c = ((o.copy (256 * (V / low13 f) + c.toNat + 1 : Nat) (N + 3 : Nat)).1, { (⟨f, o, 3, V, N⟩ : MS) with o := (o.copy (256 * (V / low13 f) + c.toNat + 1 : Nat) (N + 3 : Nat)).2, st := if (o.copy (256 * (V / low13 f) + c.toNat + 1 : Nat) (N + 3 : Nat)).1 = 0 then 0 else 3 }) := by
    unfold MS.feed; rw [if_neg (by simp [MS.full]), if_neg (by simp), if_neg (by simp), if_neg (by simp)]
  rw [e2]
  clear e2
  have hd : 256 * (V / low13 f) + c.toNat + 1 ≤ 256 * 2 ^ f := by omega
  have hcp := wn_copy f g2 o g7 ((256 * (V / low13 f) + c.toNat + 1 : Nat) : Int) ((N + 3 : Nat) : Int) (by omega)
  obtain ⟨D, hD⟩ : ∃ D, 256 * (V / low13 f) + c.toNat + 1 = D := ⟨_, rfl⟩
  rw [hD] at hd hcp ⊢
  have HC := Lib.hid (fun ww (k : Keep [] w ww) => hs_copy ww qo bo (o.wn f) ((D : Nat) : Int) ((N + 3 : Nat) : Int) (O.keep k (by simp)) (by simp [Lit.wf, IntKind.min, IntKind.max, IntKind.bits, IntKind.signed]; omega) (by simp [Lit.wf, IntKind.min, IntKind.max, IntKind.bits, IntKind.signed]; omega) (by show (o.b.length : Int) + _ ≤ _; split <;> omega))
  rw [hcp] at HC
  have hw7 := HS.copy_win o (D : Int) ((N + 3 : Nat) : Int)
  have hn7 := (HS.copy_nou o (D : Int) ((N + 3 : Nat) : Int)).1
  rw [g7] at hw7
  rw [nou] at hn7
  obtain ⟨R, hR⟩ : ∃ R, o.copy (D : Int) ((N + 3 : Nat) : Int) = R := ⟨_, rfl⟩
  rw [hR] at HC hw7 hn7 ⊢
  obtain ⟨er, o2⟩ := R
  dsimp only at HC hw7 hn7 ⊢
  have hs3 : IntKind.i64.wrap ((N : Int) + 3) = ((N + 3 : Nat) : Int) := by rw [IntKind.wrap_i64]; omega
  have c0 := B.cell 0 _ rfl
  have c4 := B.cell 4 _ rfl
  simp only [List.getElem_toArray, List.getElem_cons_zero, List.getElem_cons_succ] at c0 c4
  clear hcp hR hD inv hp hfar
  by_cases he : er = 0
  · have q1 : ((er : Int) != 0) = false := by simp [he]
    have q2 : ((er : Int) == 0) = true := by simp [he]
    rw [if_pos he]
    have hq1 : (er != 0) = false := by simp [he]
    have hq2 : (er == 0) = true := by simp [he]
    have HE := Lib.hid he; clear he
    go_enter Try.func28, Try.ntmps28
    go_wp2_with fail
    go_still_tail 10, (by kernel_rfl)
    change wpList _ _ _ _ _ w.drew
    have KW : Keep [] w w.drew := (Keep.refl [] w).drew
    have H1 := Lib.hid (HC.out _ KW)
    have hsz : w.drew.heap.size = w.heap.size := by simp
    have B0 := B.keep KW (by simp)
    generalize w.drew = w0 at KW H1 B0 hsz ⊢
    go_wp2_with fail
    refine H1.out.mono ?_; rintro e w1 ⟨rfl, bo2, O2, k2', b2'⟩
    have b2 : ∀ b ∈ bo2, b ∈ bo ∨ w.heap.size ≤ b := fun b hb => by rcases b2' b hb with h | h; exact .inl h; exact .inr (by omega)
    have B1 := B0.keep k2' hq
    have k2 : Keep bo w w1 := (KW.nil (S := bo)).trans k2' (fun z hz => .inl hz)
    have d2 := B1.cell 2 _ rfl
    have fd2 := B1.free 2
    simp only [List.getElem_toArray, List.getElem_cons_zero, List.getElem_cons_succ] at d2
    go_wp2_with fail
    go_ret
    have K3 : Keep [q] w1 (w1.setCell ⟨q, 2, none⟩ (.int .i64 0)) := (Keep.refl [q] _).setCell (by simp) _
    refine ⟨by rw [HE.out]; rfl, DmStep.mk hqs hq ?_ (O2.keep K3 ?_) ((k2.mono (S' := q :: bo) (fun z hz => List.mem_cons_of_mem _ hz)).setCell (by simp) _) b2 ⟨g1, g2, by show 0 ≤ 3; omega, g4, g5, (fun h => by cases h), hw7⟩ hn7 (fun h => by cases h)⟩
    · simpa using B1.set 2 (.int .i64 0)
    · intro b hb hm
      have hm : b = q := by simpa using hm
      subst hm
      rcases b2 _ hb with h | h
      · exact hq h
      · omega
  · have q1 : ((er : Int) != 0) = true := by simp [he]
    have q2 : ((er : Int) == 0) = false := by simp [he]
    rw [if_neg he]
    have hq1 : (er != 0) = true := by simp [he]
    have hq2 : (er == 0) = false := by simp [he]
    clear he
    go_enter Try.func28, Try.ntmps28
    go_wp2_with fail
    go_still_tail 10, (by kernel_rfl)
    change wpList _ _ _ _ _ w.drew
    have KW : Keep [] w w.drew := (Keep.refl [] w).drew
    have H1 := Lib.hid (HC.out _ KW)
    have hsz : w.drew.heap.size = w.heap.size := by simp
    have B0 := B.keep KW (by simp)
    generalize w.drew = w0 at KW H1 B0 hsz ⊢
    go_wp2_with fail
    refine H1.out.mono ?_; rintro e w1 ⟨rfl, bo2, O2, k2', b2'⟩
    have b2 : ∀ b ∈ bo2, b ∈ bo ∨ w.heap.size ≤ b := fun b hb => by rcases b2' b hb with h | h; exact .inl h; exact .inr (by omega)
    have B1 := B0.keep k2' hq
    have k2 : Keep bo w w1 := (KW.nil (S := bo)).trans k2' (fun z hz => .inl hz)
    go_wp2_with fail
    go_ret
    exact ⟨rfl, DmStep.mk hqs hq B1 O2 (k2.mono (S' := q :: bo) (fun z hz => List.mem_cons_of_mem _ hz)) b2 ⟨g1, g2, g3, g4, g5, (fun h => by cases h), hw7⟩ hn7 (fun h => by cases h)⟩
set_option maxHeartbeats 1000000 in
theorem dl_feed (w : World) (q : Nat) (bs : List Nat) (m : MS) (c : UInt8) (h : Dm w q bs m) (hl : m.o.b.length ≤ 140737488340000) : Calls Try.prog 11 #[.pointer (some ⟨q, 0, none⟩), .int .u8 c.toNat] w fun e w' => e = .returned (.int .i64 (m.feed c).1) ∧ DmStep w w' q bs (m.feed c).2 := by
  have HM := Lib.hid (dmade_c _ _ _ _ h)
  have HD := Lib.hid (fun n => h.drewN n)
  have KN : ∀ n, Keep [] w (w.drewN n) := fun n => (Keep.refl [] w).drewN n
  have hsz : ∀ n, (w.drewN n).heap.size = w.heap.size := fun n => by simp
  obtain ⟨f, o, st, V, N⟩ := m
  obtain ⟨R, hR⟩ : ∃ R, (⟨f, o, st, V, N⟩ : MS).feed c = R := ⟨_, rfl⟩
  have hst : st = 0 ∨ st = 1 ∨ st = 2 ∨ st = 3 := by
    obtain ⟨qo, bo, _, _, _, _, ok, _⟩ := h
    have := ok.2.2.1; dsimp only at this; omega
  have DS : ∀ {w1 w2 : World} {m2 : MS}, Keep [] w w1 → w1.heap.size = w.heap.size → DmStep w1 w2 q bs m2 → DmStep w w2 q bs m2 := by
    intro w1 w2 m2 k hs ⟨bs', d, k2, b2⟩
    exact ⟨bs', d, (k.nil (S := bs)).trans k2 (fun z hz => .inl hz), fun b hb => by rcases b2 b hb with h | h; exact .inl h; exact .inr (by omega)⟩
  have hc := c.toNat_lt
  dsimp only at hl
  clear h
  rcases hst with rfl | rfl | rfl | rfl
  · rw [hR]
    have HF := Lib.hid (fun n => feedany_c (w.drewN n) q bs f o V N c (HD.out n) hl)
    rw [hR] at HF
    clear hR
    go_enter Try.func11, Try.ntmps11
    go_wp2_with fail
    refine HM.out.mono ?_; rintro e w1 ⟨rfl, n1, rfl⟩
    have H1 := Lib.hid (HF.out n1)
    have K1 := KN n1
    have hs1 := hsz n1
    obtain ⟨qo, bo, hbs, hq, B, O, ok, nou, inv⟩ := HD.out n1
    have c2 := B.cell 2 _ rfl
    simp only [List.getElem_toArray, List.getElem_cons_zero, List.getElem_cons_succ] at c2
    clear hbs hq B O ok nou inv HF HM HD KN hsz
    generalize w.drewN n1 = w1 at c2 H1 K1 hs1 ⊢
    go_wp2_with fail
    refine H1.out.mono ?_; rintro e w2 ⟨rfl, s2⟩
    go_wp2_with fail
    go_ret
    exact ⟨rfl, DS K1 hs1 s2⟩
  · rw [hR]
    have HF := Lib.hid (fun n => feedv_c (w.drewN n) q bs f o V N c (HD.out n) hl)
    rw [hR] at HF
    clear hR
    go_enter Try.func11, Try.ntmps11
    go_wp2_with fail
    refine HM.out.mono ?_; rintro e w1 ⟨rfl, n1, rfl⟩
    have H1 := Lib.hid (HF.out n1)
    have K1 := KN n1
    have hs1 := hsz n1
    obtain ⟨qo, bo, hbs, hq, B, O, ok, nou, inv⟩ := HD.out n1
    have c2 := B.cell 2 _ rfl
    simp only [List.getElem_toArray, List.getElem_cons_zero, List.getElem_cons_succ] at c2
    clear hbs hq B O ok nou inv HF HM HD KN hsz
    generalize w.drewN n1 = w1 at c2 H1 K1 hs1 ⊢
    have hwc : IntKind.i64.wrap (c.toNat : Int) = c.toNat := by rw [IntKind.wrap_i64]; omega
    go_wp2_with fail
    refine H1.out.mono ?_; rintro e w2 ⟨rfl, s2⟩
    go_wp2_with fail
    go_ret
    exact ⟨rfl, DS K1 hs1 s2⟩
  · rw [feed_2]
    clear hR R
    have hN : N ≤ 127 := by
      obtain ⟨qo, bo, _, _, _, _, ok, _⟩ := HD.out 0
      exact ok.2.2.2.2.2.1 rfl
    obtain ⟨c9, hc9⟩ : ∃ c9, c.toNat = c9 := ⟨_, rfl⟩
    rw [hc9] at hc ⊢
    have hM : N + c9 ≤ 382 := by omega
    clear hc9
    have hwc : IntKind.i64.wrap (c9 : Int) = c9 := by rw [IntKind.wrap_i64]; omega
    have hsum : IntKind.i64.wrap ((N : Int) + (c9 : Int)) = ((N + c9 : Nat) : Int) := by rw [IntKind.wrap_i64]; omega
    have hsum2 : IntKind.i64.wrap (((N + c9 : Nat) : Int)) = ((N + c9 : Nat) : Int) := by rw [IntKind.wrap_i64]; omega
    obtain ⟨M, hMM⟩ : ∃ M, N + c9 = M := ⟨_, rfl⟩
    rw [hMM] at hsum hsum2 hM ⊢
    clear hMM
    go_enter Try.func11, Try.ntmps11
    go_wp2_with fail
    refine HM.out.mono ?_; rintro e w1 ⟨rfl, n1, rfl⟩
    have K1 := KN n1
    have hs1 := hsz n1
    obtain ⟨qo, bo, rfl, hq, B, O, ok, nou, inv⟩ := HD.out n1
    have c2 := B.cell 2 _ rfl
    have c4 := B.cell 4 _ rfl
    have f2 := B.free 2
    have f4 := B.free 4
    have hqs := B.lt
    simp only [List.getElem_toArray, List.getElem_cons_zero, List.getElem_cons_succ] at c2 c4
    have HOK := Lib.hid ok
    clear ok inv HM HD KN hsz
    generalize w.drewN n1 = w1 at c2 c4 f2 f4 B O K1 hs1 hqs ⊢
    go_wp2_with fail
    go_ret
    obtain ⟨g1, g2, g3, g4, g5, g6, g7⟩ := HOK.out
    have K3 : Keep [q] w1 ((w1.setCell ⟨q, 4, none⟩ (.int .i64 M)).setCell ⟨q, 2, none⟩ (.int .i64 3)) := ((Keep.refl [q] _).setCell (by simp) _).setCell (by simp) _
    refine ⟨rfl, DS K1 hs1 (DmStep.mk hqs hq ?_ (O.keep K3 (by intro b hb hm; simp at hm; exact hq (hm ▸ hb))) (K3.mono (by simp)) (fun b hb => .inl hb) ⟨g1, g2, by show 3 ≤ 3; omega, g4, hM, (fun h => by cases h), g7⟩ nou (fun h => by cases h))⟩
    simpa using (B.set 4 (.int .i64 M)).set 2 (.int .i64 3)
  · rw [hR]
    have HF := Lib.hid (fun n => dcopy_c (w.drewN n) q bs f o V N c (HD.out n) hl)
    rw [hR] at HF
    clear hR
    have hfar : V / low13 f ≤ 255 := by
      obtain ⟨qo, bo, _, _, _, _, ok, _⟩ := HD.out 0
      have h4 := ok.2.2.2.1; dsimp only at h4
      exact Nat.le_trans (Nat.div_le_self _ _) h4
    go_enter Try.func11, Try.ntmps11
    go_wp2_with fail
    refine HM.out.mono ?_; rintro e w1 ⟨rfl, n1, rfl⟩
    have H1 := Lib.hid (HF.out n1)
    have K1 := KN n1
    have hs1 := hsz n1
    obtain ⟨qo, bo, hbs, hq, B, O, ok, nou, inv⟩ := HD.out n1
    have c2 := B.cell 2 _ rfl
    have c3 := B.cell 3 _ rfl
    dsimp only at c3
    simp only [List.getElem_toArray, List.getElem_cons_zero, List.getElem_cons_succ] at c2 c3
    clear hbs hq B O ok nou inv HF HM HD KN hsz
    generalize w.drewN n1 = w1 at c2 c3 H1 K1 hs1 ⊢
    obtain ⟨F, hF⟩ : ∃ F, V / low13 f = F := ⟨_, rfl⟩
    rw [hF] at c3 H1 hfar
    have hwc : IntKind.i64.wrap (c.toNat : Int) = c.toNat := by rw [IntKind.wrap_i64]; omega
    have hm1 : IntKind.i64.wrap (256 * (F : Int)) = ((256 * F : Nat) : Int) := by rw [IntKind.wrap_i64]; omega
    have hm2 : IntKind.i64.wrap (((256 * F : Nat) : Int) + (c.toNat : Int)) = ((256 * F + c.toNat : Nat) : Int) := by rw [IntKind.wrap_i64]; omega
    have hm3 : IntKind.i64.wrap (((256 * F + c.toNat : Nat) : Int) + 1) = ((256 * F + c.toNat + 1 : Nat) : Int) := by rw [IntKind.wrap_i64]; omega
    clear hF
    go_wp2_with fail
    refine H1.out.mono ?_; rintro e w2 ⟨rfl, s2⟩
    go_wp2_with fail
    go_ret
    exact ⟨rfl, DS K1 hs1 s2⟩
def DBad (f size : Int) : Prop := f < 1 ∨ 4 < f ∨ size < 0
theorem dl_bad (w : World) (f size : Int) (h : DBad f size) (hsz : -9223372036854775808 ≤ size) : Calls Try.prog 9 #[.int .i64 f, .int .i64 size] w fun e w' => e = .returned (.tuple #[.pointer none, .int .i64 2]) ∧ Keep [] w w' := by
  by_cases hb : f < 1 ∨ 4 < f
  · have HR := Lib.hid (fun ww => right_bad ww f hb)
    clear hb h
    go_enter Try.func9, Try.ntmps9
    go_wp2_with fail
    refine (HR.out _).mono ?_; rintro e w1 ⟨rfl, rfl⟩
    go_wp2_with fail
    go_ret2
    exact ⟨rfl, Keep.refl _ _⟩
  · obtain ⟨g, rfl⟩ : ∃ g : Nat, f = g := ⟨f.toNat, by omega⟩
    have hs : size < 0 := by unfold DBad at h; omega
    have HR := Lib.hid (fun ww => right_c ww g (by omega) (by omega))
    have HW := Lib.hid (fun ww => window_c ww g (by omega) (by omega))
    have HNB := Lib.hid (fun x => (by unfold hsBad; omega : hsBad x size))
    have HN := Lib.hid (fun ww x => hs_new ww x size true (by omega) hsz)
    clear hb h hs
    obtain ⟨X, hX⟩ : ∃ X, 256 * 2 ^ g = X := ⟨_, rfl⟩
    rw [hX] at HW
    clear hX
    go_enter Try.func9, Try.ntmps9
    go_wp2_with fail
    refine (HR.out _).mono ?_; rintro e w1 ⟨rfl, rfl⟩
    go_wp2_with fail
    refine (HW.out _).mono ?_; rintro e w1 ⟨rfl, rfl⟩
    go_wp2_with fail
    refine (HN.out _ _).mono ?_; rintro e w2 ⟨p, er, rfl, k2, hno, -⟩
    obtain ⟨rfl, rfl⟩ := hno (HNB.out _)
    go_wp2_with fail
    go_ret2
    exact ⟨rfl, k2⟩
theorem dl_new (w : World) (f size : Nat) (h1 : 1 ≤ f) (h4 : f ≤ 4) (hs : (size : Int) ≤ 9223372036854775807) : Calls Try.prog 9 #[.int .i64 f, .int .i64 size] w fun e w' => ∃ q bs, e = .returned (.tuple #[.pointer (some ⟨q, 0, none⟩), .int .i64 0]) ∧ Dm w' q bs ⟨f, ⟨65536, size, true, []⟩, 0, 0, 0⟩ ∧ Keep [] w w' ∧ ∀ b ∈ bs, w.heap.size ≤ b := by
  have hpf : (256 : Int) * 2 ^ f ≤ 65536 := by
    have : 2 ^ f ≤ 2 ^ 4 := Nat.pow_le_pow_right (by decide) h4
    have e : ((2 : Int) ^ f) = ((2 ^ f : Nat) : Int) := by simp
    rw [e]; omega
  have HN := Lib.hid (fun ww => hs_new ww ((256 * 2 ^ f : Nat) : Int) (size : Int) true hs (by omega))
  have hnb : ¬ hsBad ((256 * 2 ^ f : Nat) : Int) (size : Int) := by
    have : 0 < 2 ^ f := Nat.two_pow_pos f
    have e : 2 ^ f ≤ 2 ^ 4 := Nat.pow_le_pow_right (by decide) h4
    unfold hsBad; omega
  have HW := Lib.hid (fun ww => window_c ww f h1 h4)
  have HR := Lib.hid (fun ww => right_c ww f h1 h4)
  have HNB := Lib.hid hnb
  clear hnb hpf
  obtain ⟨X, hX⟩ : ∃ X, 256 * 2 ^ f = X := ⟨_, rfl⟩
  have HX := Lib.hid hX
  rw [hX] at HN HW HNB
  clear hX
  go_enter Try.func9, Try.ntmps9
  go_wp2_with fail
  refine (HR.out _).mono ?_; rintro e w1 ⟨rfl, rfl⟩
  go_wp2_with fail
  refine (HW.out _).mono ?_; rintro e w1 ⟨rfl, rfl⟩
  go_wp2_with fail
  refine (HN.out _).mono ?_; rintro e w2 ⟨p, er, rfl, k2, -, hok⟩
  obtain ⟨rfl, qo, bo, rfl, O2, hbo⟩ := hok HNB.out
  go_wp2_with fail
  go_ret2
  refine ⟨w2.heap.size, w2.heap.size :: bo, rfl, ⟨qo, bo, rfl, (fun hm => by have := O2.lt _ hm; omega), ?_, ?_, ⟨h1, h4, by show 0 ≤ 3; omega, by show 0 ≤ 255; omega, by show 0 ≤ 382; omega, (fun h => by cases h), rfl⟩, rfl, (fun h => by cases h)⟩, k2.alloc _, fun b hb => ?_⟩
  · simpa using Blk.new w2 _ _
  · have e : (⟨(X : Int).toNat, (size : Int).toNat, true, []⟩ : HS) = HS.wn f ⟨65536, size, true, []⟩ := by
      unfold HS.wn; simp [HX.out]
    rw [← e]
    exact O2.keep ((Keep.refl [] w2).alloc _) (by simp)
  · rcases List.mem_cons.1 hb with rfl | hb
    · exact k2.size
    · exact hbo b hb
end Go.Proofs.Ytmafgamacijdaaa
