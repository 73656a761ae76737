/- Contract of the document's Feed of layer 13. No condition beyond each theorem's own premises. -/
import Derived.Test.YtmafgamacijdaaaRefDle
namespace Go.Proofs.Ytmafgamacijdaaa
set_option linter.unusedVariables false
set_option linter.unusedSimpArgs false
set_option maxRecDepth 100000
open Go.ChangeShapes Go.WideShapes Go.ChangeAt Go.RowKit

/-- what Feed leaves behind -/
def MxTo (w w' : World) (x q : Nat) (v : Value) (m : MS) : Prop := ∃ v', Mx w' x q v' m ∧ Keep (x :: q :: v.ownBlock.toList) w w' ∧ ∀ b, v'.ownBlock = some b → v.ownBlock = some b ∨ w.heap.size ≤ b
theorem HS.lit_win (s : HS) (c : UInt8) : (s.lit c).2.win = s.win := by unfold HS.lit; split <;> rfl
theorem HS.copy_win (s : HS) (d n : Int) : (s.copy d n).2.win = s.win := by unfold HS.copy; repeat' split
                                                                            all_goals rfl
/-- the machine's box with other numbers, its output told on -/
theorem Mx.to {w w1 : World} {x q : Nat} {v v1 : Value} {m : MS} {o1 : HS} (h : Mx w x q v m) (k : Keep (q :: v.ownBlock.toList) w w1) (r : Rx w1 q v1 o1) (hb : ∀ b, v1.ownBlock = some b → v.ownBlock = some b ∨ w.heap.size ≤ b) :
    Blk w1 x #[.int .i64 m.f, .pointer (some ⟨q, 0, none⟩), .int .i64 m.st, .int .i64 m.V, .int .i64 m.N] 39 ∧ (∀ b, v1.ownBlock = some b → b ≠ x) := by
  refine ⟨h.1.keep k (fun hm => ?_), fun b hb' e => ?_⟩
  · rcases List.mem_cons.1 hm with e | e
    · exact h.2.2.1 e
    · exact h.2.2.2.1 x (by simpa using e) rfl
  · rcases hb b hb' with h' | h'
    · exact h.2.2.2.1 b h' e
    · have := h.1.lt; omega
theorem Mx.boxed {w w1 w2 : World} {x q : Nat} {v : Value} {m : MS} (h : Mx w1 x q v m) (K1 : Keep [] w w1) (k : Keep [x] w1 w2) (st V N : Nat) (B : Blk w2 x #[.int .i64 m.f, .pointer (some ⟨q, 0, none⟩), .int .i64 st, .int .i64 V, .int .i64 N] 39)
    (ok : MS.ok { m with st := st, V := V, N := N }) : MxTo w w2 x q v { m with st := st, V := V, N := N } :=
  ⟨v, ⟨B, h.2.1.keep k (by have := h.2.2.1; simpa using Ne.symm this) (fun b hb => by have := h.2.2.2.1 b hb; simpa using this), h.2.2.1, h.2.2.2.1, ok⟩, (K1.nil (S := x :: q :: v.ownBlock.toList)).trans (k.mono (S' := x :: q :: v.ownBlock.toList) (by simp)) (fun z hz => .inl hz), fun b hb => .inl hb⟩
theorem Mx.told {w w1 w2 w3 : World} {x q : Nat} {v v2 : Value} {m : MS} {o2 : HS} (h : Mx w1 x q v m) (K1 : Keep [] w w1) (k : Keep (q :: v.ownBlock.toList) w1 w2) (r : Rx w2 q v2 o2) (hb : ∀ b, v2.ownBlock = some b → v.ownBlock = some b ∨ w1.heap.size ≤ b) (k3 : Keep [x] w2 w3) (st : Nat)
    (B : Blk w3 x #[.int .i64 m.f, .pointer (some ⟨q, 0, none⟩), .int .i64 st, .int .i64 m.V, .int .i64 m.N] 39) (ok : MS.ok { m with o := o2, st := st }) : MxTo w w3 x q v { m with o := o2, st := st } := by
  obtain ⟨_, hx⟩ := h.to k r hb
  refine ⟨v2, ⟨B, r.keep k3 (by have := h.2.2.1; simpa using Ne.symm this) (fun b hb' => by have := hx b hb'; simpa using this), h.2.2.1, hx, ok⟩, ((K1.nil (S := x :: q :: v.ownBlock.toList)).trans (k.mono (S' := x :: q :: v.ownBlock.toList) (fun z hz => List.mem_cons_of_mem _ hz)) (fun z hz => .inl hz)).trans k3 (by simp), fun b hb' => ?_⟩
  rcases hb b hb' with e | e
  · exact .inl e
  · have := K1.size; exact .inr (by omega)
set_option maxHeartbeats 4000000 in
theorem refm_feed (w : World) (x q : Nat) (v : Value) (m : MS) (c : UInt8) (h : Mx w x q v m) (hl : m.o.b.length ≤ 140737488350000) :
    Calls Try.prog 12 #[.pointer (some ⟨x, 0, none⟩), .int .u8 c.toNat] w fun e w' => e = .returned (.int .i64 (m.feed c).1) ∧ MxTo w w' x q v (m.feed c).2 := by
  have HF := Lib.hid (refm_full w x q v m h)
  obtain ⟨R, hR⟩ : ∃ R, m.feed c = R := ⟨_, rfl⟩
  rw [hR]
  unfold MS.feed at hR
  cases hfull : m.full with
  | true =>
    rw [hfull] at HF hR
    rw [if_pos rfl] at hR
    have HR := Lib.hid hR; clear hR hfull
    go_enter Try.func12, Try.ntmps12
    go_wp2_with fail
    refine HF.out.mono ?_; rintro e w1 ⟨rfl, n1, rfl⟩
    go_wp2_with fail
    go_ret
    rw [← HR.out]
    exact ⟨rfl, v, h.drewN _, (Keep.refl _ _).drewN _, fun b hb => .inl hb⟩
  | false =>
  rw [hfull] at HF hR
  rw [if_neg (by simp)] at hR
  clear hfull
  obtain ⟨g1, g2, g3, g4, g5, g6, g7⟩ := h.2.2.2.2
  obtain ⟨l1, l2, l3⟩ := low13_of m.f g1 g2
  have hw8 : IntKind.i64.wrap (8 - (m.f : Int)) = ((8 - m.f : Nat) : Int) := by rw [IntKind.wrap_i64]; omega
  have HTW := Lib.hid (fun w' => two13_c w' (8 - m.f) (by omega))
  have hlow : 2 ^ (8 - m.f) = low13 m.f := rfl
  rw [hlow] at HTW
  clear hlow
  by_cases s0 : m.st = 0
  · rw [if_pos s0] at hR
    have t0 : ((m.st : Int) == 0) = true := by simp; omega
    by_cases hc : c.toNat = 144
    · rw [if_pos hc] at hR
      have q1 : ((c.toNat : Int) == 144) = true := by simp; omega
      have HR := Lib.hid hR; have HS0 := Lib.hid s0
      clear hR hc s0
      go_enter Try.func12, Try.ntmps12
      go_wp2_with fail
      refine HF.out.mono ?_; rintro e w1 ⟨rfl, n1, rfl⟩
      have h1 := h.drewN n1
      have K1 : Keep [] w (w.drewN n1) := (Keep.refl [] w).drewN n1
      generalize w.drewN n1 = w1 at h1 K1 ⊢
      have c0 := h1.1.cell 0 _ rfl
      have c1 := h1.1.cell 1 _ rfl
      have c2 := h1.1.cell 2 _ rfl
      have c3 := h1.1.cell 3 _ rfl
      have c4 := h1.1.cell 4 _ rfl
      have f2 := h1.1.free 2
      have f3 := h1.1.free 3
      have f4 := h1.1.free 4
      go_wp2_with fail
      refine (HTW.out _).mono ?_; rintro e w2 ⟨rfl, rfl⟩
      go_wp2_with fail
      go_ret
      rw [← HR.out]
      exact ⟨rfl, h1.boxed K1 ((Keep.refl [x] w1).setCell (by simp) _) 1 m.V m.N (by simpa using h1.1.set 2 (.int .i64 1)) ⟨g1, g2, by show 1 ≤ 3; omega, g4, g5, (fun h => by cases h), g7⟩⟩
    · rw [if_neg hc] at hR
      have q1 : ((c.toNat : Int) == 144) = false := by simp; omega
      have HR := Lib.hid hR; have HS0 := Lib.hid s0
      clear hR hc s0
      go_enter Try.func12, Try.ntmps12
      go_wp2_with fail
      refine HF.out.mono ?_; rintro e w1 ⟨rfl, n1, rfl⟩
      have h1 := h.drewN n1
      have K1 : Keep [] w (w.drewN n1) := (Keep.refl [] w).drewN n1
      generalize w.drewN n1 = w1 at h1 K1 ⊢
      have c0 := h1.1.cell 0 _ rfl
      have c1 := h1.1.cell 1 _ rfl
      have c2 := h1.1.cell 2 _ rfl
      have c3 := h1.1.cell 3 _ rfl
      have c4 := h1.1.cell 4 _ rfl
      have f2 := h1.1.free 2
      have f3 := h1.1.free 3
      have f4 := h1.1.free 4
      go_wp2_with fail
      refine (HTW.out _).mono ?_; rintro e w2 ⟨rfl, rfl⟩
      go_wp2_with fail
      refine (refhs_lit w1 q v m.o c h1.2.1 (by omega)).mono ?_; rintro e w3 ⟨v3, rfl, r3, k3, b3⟩
      have hB := (h1.to k3 r3 b3).1
      go_wp2_with fail
      go_ret
      rw [← HR.out]
      exact ⟨rfl, h1.told K1 k3 r3 b3 (Keep.refl _ _) m.st hB ⟨g1, g2, g3, g4, g5, g6, by rw [HS.lit_win]; exact g7⟩⟩
  rw [if_neg s0] at hR
  have t0 : ((m.st : Int) == 0) = false := by simp; omega
  by_cases s1 : m.st = 1
  · rw [if_pos s1] at hR
    have t1 : ((m.st : Int) == 1) = true := by simp; omega
    by_cases hc : c.toNat = 0
    · rw [if_pos hc] at hR
      have q1 : ((c.toNat : Int) == 0) = true := by simp; omega
      have HR := Lib.hid hR; have HS1 := Lib.hid s1
      clear hR hc s1
      go_enter Try.func12, Try.ntmps12
      go_wp2_with fail
      refine HF.out.mono ?_; rintro e w1 ⟨rfl, n1, rfl⟩
      have h1 := h.drewN n1
      have K1 : Keep [] w (w.drewN n1) := (Keep.refl [] w).drewN n1
      generalize w.drewN n1 = w1 at h1 K1 ⊢
      have c0 := h1.1.cell 0 _ rfl
      have c1 := h1.1.cell 1 _ rfl
      have c2 := h1.1.cell 2 _ rfl
      have c3 := h1.1.cell 3 _ rfl
      have c4 := h1.1.cell 4 _ rfl
      have f2 := h1.1.free 2
      have f3 := h1.1.free 3
      have f4 := h1.1.free 4
      go_wp2_with fail
      refine (HTW.out _).mono ?_; rintro e w2 ⟨rfl, rfl⟩
      go_wp2_with fail
      refine (refhs_lit w1 q v m.o 144 h1.2.1 (by omega)).mono ?_; rintro e w3 ⟨v3, rfl, r3, k3, b3⟩
      have hB := (h1.to k3 r3 b3).1
      have d2 := hB.cell 2 _ rfl
      have e2 := hB.free 2
      by_cases hz : (m.o.lit 144).1 = 0
      · have q2 : (((m.o.lit 144).1 : Int) == 0) = true := by simp; omega
        have HZ := Lib.hid hz; clear hz
        go_wp2_with fail
        go_ret
        rw [← HR.out, if_pos HZ.out]
        exact ⟨rfl, h1.told K1 k3 r3 b3 ((Keep.refl [x] w3).setCell (by simp) _) 0 (by simpa using hB.set 2 (.int .i64 0)) ⟨g1, g2, by show 0 ≤ 3; omega, g4, g5, (fun h => by cases h), by rw [HS.lit_win]; exact g7⟩⟩
      · have q2 : (((m.o.lit 144).1 : Int) == 0) = false := by simp; omega
        have HZ := Lib.hid hz; clear hz
        go_wp2_with fail
        go_ret
        rw [← HR.out, if_neg HZ.out]
        exact ⟨rfl, h1.told K1 k3 r3 b3 (Keep.refl _ _) 1 (by have e := HS1.out; rw [e] at hB; exact hB) ⟨g1, g2, by show 1 ≤ 3; omega, g4, g5, (fun h => by cases h), by rw [HS.lit_win]; exact g7⟩⟩
    · rw [if_neg hc] at hR
      have q1 : ((c.toNat : Int) == 0) = false := by simp; omega
      have HR := Lib.hid hR; have HS1 := Lib.hid s1
      have hc8 : c.toNat < 256 := c.toNat_lt
      clear hR hc s1
      obtain ⟨lw, hlw⟩ : ∃ lw, low13 m.f = lw := ⟨_, rfl⟩
      have hmod : c.toNat % low13 m.f < low13 m.f := Nat.mod_lt _ (by omega)
      obtain ⟨rm, hrm⟩ : ∃ rm, c.toNat % low13 m.f = rm := ⟨_, rfl⟩
      rw [hrm] at hmod
      rw [hlw] at hmod l1 l2 HTW
      have hrem : (c.toNat : Int).tmod (lw : Int) = (rm : Int) := by
        rw [← hrm, ← hlw, Int.tmod_eq_emod_of_nonneg (by omega)]; exact (Int.natCast_emod _ _).symm
      have hcw : IntKind.i64.wrap (c.toNat : Int) = c.toNat := by rw [IntKind.wrap_i64]; omega
      have hremw : IntKind.i64.wrap (rm : Int) = rm := by rw [IntKind.wrap_i64]; omega
      have hsub : IntKind.i64.wrap ((lw : Int) - 1) = (lw : Int) - 1 := by rw [IntKind.wrap_i64]; omega
      have hlw0 : lw ≠ 0 := by omega
      have hlw0' : ¬ (lw : Int) = 0 := by omega
      have HRM := Lib.hid hrm; have HLW := Lib.hid hlw
      clear hrm hlw
      go_enter Try.func12, Try.ntmps12
      go_wp2_with fail
      refine HF.out.mono ?_; rintro e w1 ⟨rfl, n1, rfl⟩
      have h1 := h.drewN n1
      have K1 : Keep [] w (w.drewN n1) := (Keep.refl [] w).drewN n1
      generalize w.drewN n1 = w1 at h1 K1 ⊢
      have c0 := h1.1.cell 0 _ rfl
      have c1 := h1.1.cell 1 _ rfl
      have c2 := h1.1.cell 2 _ rfl
      have c3 := h1.1.cell 3 _ rfl
      have c4 := h1.1.cell 4 _ rfl
      have f2 := h1.1.free 2
      have f3 := h1.1.free 3
      have f4 := h1.1.free 4
      go_wp2_with fail
      refine (HTW.out _).mono ?_; rintro e w2 ⟨rfl, rfl⟩
      go_upto_region 20 with fail
      go_cut [] (fun wx => Blk wx x #[.int .i64 m.f, .pointer (some ⟨q, 0, none⟩), .int .i64 m.st, .int .i64 c.toNat, .int .i64 rm] 39 ∧ Keep [x] w1 wx)
      case first =>
        have hS : Blk ((w1.setCell ⟨x, 3, none⟩ (.int .i64 c.toNat)).setCell ⟨x, 4, none⟩ (.int .i64 rm)).drew x #[.int .i64 m.f, .pointer (some ⟨q, 0, none⟩), .int .i64 m.st, .int .i64 c.toNat, .int .i64 rm] 39 := Blk.keep (by simpa using (h1.1.set 3 (.int .i64 c.toNat)).set 4 (.int .i64 rm)) (Keep.refl [] _).drew (by simp)
        have hS' : Blk ((w1.setCell ⟨x, 4, none⟩ (.int .i64 rm)).setCell ⟨x, 3, none⟩ (.int .i64 c.toNat)).drew x #[.int .i64 m.f, .pointer (some ⟨q, 0, none⟩), .int .i64 m.st, .int .i64 c.toNat, .int .i64 rm] 39 := Blk.keep (by simpa using (h1.1.set 4 (.int .i64 rm)).set 3 (.int .i64 c.toNat)) (Keep.refl [] _).drew (by simp)
        have kS : Keep [x] w1 ((w1.setCell ⟨x, 3, none⟩ (.int .i64 c.toNat)).setCell ⟨x, 4, none⟩ (.int .i64 rm)).drew := (((Keep.refl [x] w1).setCell (by simp) _).setCell (by simp) _).drew
        have kS' : Keep [x] w1 ((w1.setCell ⟨x, 4, none⟩ (.int .i64 rm)).setCell ⟨x, 3, none⟩ (.int .i64 c.toNat)).drew := (((Keep.refl [x] w1).setCell (by simp) _).setCell (by simp) _).drew
        go_region_with fail
        all_goals
          go_wp2_with fail
          go_meet
          first | exact ⟨hS, kS⟩ | exact ⟨hS', kS'⟩
      case rest =>
        obtain ⟨hB, kB⟩ := hcut
        generalize wc = w3 at *
        have hB2 := hB.set 2 (.int .i64 3)
        have d2 := hB.cell 2 _ rfl
        have d4 := hB2.cell 4 _ rfl
        have e2 := hB.free 2
        have e22 := hB2.free 2
        by_cases hz : rm = lw - 1
        · have q2 : ((rm : Int) == (lw : Int) - 1) = true := by simp; omega
          have hR2 := HR.out
          rw [HRM.out, HLW.out, if_pos hz] at hR2
          have HR2 := Lib.hid hR2
          clear hR2 hz c0 c1 c2 c3 c4 f2 f3 f4
          go_wp2_with fail
          go_ret
          rw [← HR2.out]
          exact ⟨rfl, h1.boxed K1 ((kB.setCell (by simp) _).setCell (by simp) _) 2 c.toNat rm (by simpa using hB2.set 2 (.int .i64 2)) ⟨g1, g2, by show 2 ≤ 3; omega, by show c.toNat ≤ 255; omega, by show rm ≤ 382; omega, (fun _ => by show rm ≤ 127; omega), g7⟩⟩
        · have q2 : ((rm : Int) == (lw : Int) - 1) = false := by simp; omega
          have hR2 := HR.out
          rw [HRM.out, HLW.out, if_neg hz] at hR2
          have HR2 := Lib.hid hR2
          clear hR2 hz c0 c1 c2 c3 c4 f2 f3 f4
          go_wp2_with fail
          go_ret
          rw [← HR2.out]
          exact ⟨rfl, h1.boxed K1 (kB.setCell (by simp) _) 3 c.toNat rm (by simpa using hB2) ⟨g1, g2, by show 3 ≤ 3; omega, by show c.toNat ≤ 255; omega, by show rm ≤ 382; omega, (fun h => by cases h), g7⟩⟩
  rw [if_neg s1] at hR
  have t1 : ((m.st : Int) == 1) = false := by simp; omega
  by_cases s2 : m.st = 2
  · rw [if_pos s2] at hR
    have t2 : ((m.st : Int) == 2) = true := by simp; omega
    have hsum : IntKind.i64.wrap ((m.N : Int) + (c.toNat : Int)) = (m.N : Int) + (c.toNat : Int) := by have := c.toNat_lt; rw [IntKind.wrap_i64]; omega
    have HR := Lib.hid hR
    have hN := g6 s2
    have hc8 := c.toNat_lt
    clear hR
    go_enter Try.func12, Try.ntmps12
    go_wp2_with fail
    refine HF.out.mono ?_; rintro e w1 ⟨rfl, n1, rfl⟩
    have h1 := h.drewN n1
    have K1 : Keep [] w (w.drewN n1) := (Keep.refl [] w).drewN n1
    generalize w.drewN n1 = w1 at h1 K1 ⊢
    have c0 := h1.1.cell 0 _ rfl
    have c2 := h1.1.cell 2 _ rfl
    have c4 := h1.1.cell 4 _ rfl
    have f4 := h1.1.free 4
    have b4 := h1.1.set 4 (.int .i64 ((m.N : Int) + (c.toNat : Int)))
    have f2 := b4.free 2
    have d2 := b4.cell 2 _ rfl
    have HS2 := Lib.hid s2
    go_wp2_with fail
    refine (HTW.out _).mono ?_; rintro e w2 ⟨rfl, rfl⟩
    go_wp2_with fail
    go_ret
    rw [← HR.out]
    exact ⟨rfl, h1.boxed K1 (((Keep.refl [x] w1).setCell (by simp) _).setCell (by simp) _) 3 m.V (m.N + c.toNat) (by simpa using (h1.1.set 4 (.int .i64 ((m.N : Int) + (c.toNat : Int)))).set 2 (.int .i64 3)) ⟨g1, g2, by show 3 ≤ 3; omega, g4, by show m.N + c.toNat ≤ 382; have : c.toNat < 256 := c.toNat_lt; omega, (fun h => by cases h), g7⟩⟩
  rw [if_neg s2] at hR
  have t2 : ((m.st : Int) == 2) = false := by simp; omega
  have hs3 : m.st = 3 := by omega
  have hc8 : c.toNat < 256 := c.toNat_lt
  obtain ⟨lw, hlw⟩ : ∃ lw, low13 m.f = lw := ⟨_, rfl⟩
  obtain ⟨dv, hdv⟩ : ∃ dv, m.V / low13 m.f = dv := ⟨_, rfl⟩
  have hdv2 : dv ≤ 255 := by rw [← hdv]; exact Nat.le_trans (Nat.div_le_self _ _) g4
  have hdvI : (m.V : Int).tdiv (lw : Int) = (dv : Int) := by
    rw [← hdv, ← hlw, Int.tdiv_eq_ediv_of_nonneg (by omega)]; exact (Int.natCast_ediv _ _).symm
  rw [hdv] at hR
  rw [hlw] at l1 l2 HTW
  obtain ⟨D, hD⟩ : ∃ D, 256 * dv + c.toNat + 1 = D := ⟨_, rfl⟩
  obtain ⟨L, hL⟩ : ∃ L, m.N + 3 = L := ⟨_, rfl⟩
  rw [hD, hL] at hR
  have hcw : IntKind.i64.wrap (c.toNat : Int) = c.toNat := by rw [IntKind.wrap_i64]; omega
  have w1' : IntKind.i64.wrap (dv : Int) = dv := by rw [IntKind.wrap_i64]; omega
  have w2' : IntKind.i64.wrap (256 * (dv : Int)) = 256 * dv := by rw [IntKind.wrap_i64]; omega
  have w3' : IntKind.i64.wrap (256 * (dv : Int) + (c.toNat : Int)) = 256 * dv + c.toNat := by rw [IntKind.wrap_i64]; omega
  have w4' : IntKind.i64.wrap (256 * (dv : Int) + (c.toNat : Int) + 1) = (D : Int) := by rw [IntKind.wrap_i64]; omega
  have w5' : IntKind.i64.wrap ((m.N : Int) + 3) = (L : Int) := by rw [IntKind.wrap_i64]; omega
  have hlw0 : lw ≠ 0 := by omega
  have hlw0' : ¬ (lw : Int) = 0 := by omega
  have hL2 : (L : Int) ≤ 400 := by omega
  have HR := Lib.hid hR; have HS3 := Lib.hid hs3
  clear hR hlw hdv hD hL hs3 s0 s1 s2
  go_enter Try.func12, Try.ntmps12
  go_wp2_with fail
  refine HF.out.mono ?_; rintro e w1 ⟨rfl, n1, rfl⟩
  have h1 := h.drewN n1
  have K1 : Keep [] w (w.drewN n1) := (Keep.refl [] w).drewN n1
  generalize w.drewN n1 = w1 at h1 K1 ⊢
  have c0 := h1.1.cell 0 _ rfl
  have c1 := h1.1.cell 1 _ rfl
  have c2 := h1.1.cell 2 _ rfl
  have c3 := h1.1.cell 3 _ rfl
  have c4 := h1.1.cell 4 _ rfl
  have f2 := h1.1.free 2
  have f3 := h1.1.free 3
  have f4 := h1.1.free 4
  have HCP := Lib.hid (fun w' (k : Keep [] w1 w') => refhs_copy w' q v m.o (D : Int) (L : Int) (h1.2.1.keep k (by simp) (by simp)) (by omega) (by split <;> omega))
  go_wp2_with fail
  refine (HTW.out _).mono ?_; rintro e w2 ⟨rfl, rfl⟩
  go_upto_region 5 with fail
  go_still_tail 20, (by kernel_rfl)
  have K2 : Keep [] w1 w1.drew := (Keep.refl [] w1).drew
  have h2 := h1.keep K2 (by simp) (by simp) (by simp)
  have K12 := K1.drew
  change wpList _ _ _ _ _ w1.drew
  have HCP2 := Lib.hid (HCP.out w1.drew K2)
  generalize w1.drew = w3 at h2 K12 HCP2 ⊢
  clear c0 c1 c2 c3 c4 f2 f3 f4
  go_wp2_with fail
  with_reducible refine HCP2.out.mono ?_; rintro e w4 ⟨v4, rfl, r4, k4, b4⟩
  have hB := (h2.to k4 r4 b4).1
  have d2 := hB.cell 2 _ rfl
  have e2 := hB.free 2
  obtain ⟨er, her⟩ : ∃ er, (m.o.copy (D : Int) (L : Int)).1 = er := ⟨_, rfl⟩
  have HER := Lib.hid her
  rw [her]
  by_cases hz : er = 0
  · have q2 : ((er : Int) != 0) = false := by simp; omega
    have hR2 := HR.out
    rw [her, if_pos hz] at hR2
    have HR2 := Lib.hid hR2; have HZ := Lib.hid hz
    clear hR2 hz her
    go_wp2_with fail
    go_ret
    rw [← HR2.out]
    exact ⟨by rw [HZ.out]; rfl, h2.told K12 k4 r4 b4 ((Keep.refl [x] w4).setCell (by simp) _) 0 (by simpa using hB.set 2 (.int .i64 0)) ⟨g1, g2, by show 0 ≤ 3; omega, g4, g5, (fun h => by cases h), by rw [HS.copy_win]; exact g7⟩⟩
  · have q2 : ((er : Int) != 0) = true := by simp; omega
    have hR2 := HR.out
    rw [her, if_neg hz] at hR2
    have HR2 := Lib.hid hR2
    clear hR2 hz her
    go_wp2_with fail
    go_ret
    rw [← HR2.out]
    exact ⟨rfl, h2.told K12 k4 r4 b4 (Keep.refl _ _) m.st hB ⟨g1, g2, g3, g4, g5, g6, by rw [HS.copy_win]; exact g7⟩⟩
end Go.Proofs.Ytmafgamacijdaaa
