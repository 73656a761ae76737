/- Contract of limit's own merge: symbols and pairs as one row, and of its first ones how many are symbols. -/
import Derived.Test.YtibhelfiibincaaLim3
namespace Go.Proofs.Ytibhelfiibincaa
set_option linter.unusedVariables false
set_option linter.unusedSimpArgs false
open Go.ChangeShapes Go.WideShapes Go.ChangeAt Go.RowKit

/-- is a symbol next, where s symbols and p pairs have been taken -/
def nxS (a : Nat → Nat) (n : Nat) (P : Nat → Nat) (np s p : Nat) : Prop := p = np ∨ (s < n ∧ a s ≤ P p)
instance (a : Nat → Nat) (n : Nat) (P : Nat → Nat) (np s p : Nat) : Decidable (nxS a n P np s p) := by unfold nxS; infer_instance
def mc (a : Nat → Nat) (n : Nat) (P : Nat → Nat) (np : Nat) : Nat → Nat
  | 0 => 0
  | k + 1 => if nxS a n P np (mc a n P np k) (k - mc a n P np k) then mc a n P np k + 1 else mc a n P np k
def mw (a : Nat → Nat) (n : Nat) (P : Nat → Nat) (np k : Nat) : Nat := if nxS a n P np (mc a n P np k) (k - mc a n P np k) then a (mc a n P np k) else P (k - mc a n P np k)
theorem mc_bd (a : Nat → Nat) (n : Nat) (P : Nat → Nat) (np k : Nat) (hk : k ≤ n + np) : mc a n P np k ≤ k ∧ mc a n P np k ≤ n ∧ k - mc a n P np k ≤ np := by
  induction k with
  | zero => simp [mc]
  | succ k ih =>
    have h := ih (by omega)
    rw [mc]
    split
    · next hc =>
      unfold nxS at hc
      omega
    · next hc =>
      unfold nxS at hc
      omega
theorem mc_mrg (a : Nat → Nat) (n : Nat) (P : Nat → Nat) (np : Nat) : Mrg a n P np (mw a n P np) (mc a n P np) (n + np) := by
  refine ⟨rfl, fun k hk => ?_⟩
  have h := mc_bd a n P np k (by omega)
  have h1 := mc_bd a n P np (k + 1) (by omega)
  rw [mc] at h1 ⊢
  unfold mw
  by_cases hc : nxS a n P np (mc a n P np k) (k - mc a n P np k)
  · rw [if_pos hc] at h1 ⊢
    rw [if_pos hc]
    left
    refine ⟨rfl, by omega, rfl, fun hlt => ?_⟩
    rcases hc with h2 | h2
    · omega
    · exact h2.2
  · rw [if_neg hc] at h1 ⊢
    rw [if_neg hc]
    right
    refine ⟨rfl, ?_, rfl, fun hlt => ?_⟩
    · unfold nxS at hc; omega
    · unfold nxS at hc
      have : ¬ (a (mc a n P np k) ≤ P (k - mc a n P np k)) := fun h3 => hc (.inr ⟨hlt, h3⟩)
      omega
theorem info16 : (Try.prog.info? 50).map (fun i => (i.zero, i.size, i.bytes)) = some (some (.int .i16 0), 1, 2) := by kernel_rfl
theorem run_make_i16 (w : World) (n : Nat) (hn : n ≤ 1000000) : (Instr.makeSlice 49 (.int .i64 (n : Int)) (.int .i64 (n : Int))).run Try.prog w = .ok (.slice (some ⟨w.heap.size, 0, none⟩) n n) (w.alloc (.cells (madeCells #[.int .i16 0] n) 50)) := by
  obtain ⟨i, hi, hz0, hz1, hz2⟩ := info_parts info16
  have := run_make (P := Try.prog) (w := w) 49 50 i (.int .i16 0) Try.underlying49 hi hz0 .i64 .i64 n n (by omega) (by omega) (by rw [hz2]; omega) (by omega)
  rw [this, hz1]
  simp [Value.cells]
/-- row block g1 has the first k numbers W, count block g2 those of c up to k -/
structure MSt (w wr : World) (g1 g2 T k : Nat) (c W : Nat → Nat) : Prop where
  row : ∃ rs, OwnI wr (.slice (some ⟨g1, 0, none⟩) T T) rs ∧ ∀ i, i < k → zn rs i = W i
  cnt : ∃ arr, Blk wr g2 arr 50 ∧ arr.size = T + 1 ∧ ∀ j, j ≤ k → arr[j]? = some (.int .i16 (c j))
  keep : Keep [] w wr
section
variable {w wr : World} {g1 g2 T k : Nat} {c W : Nat → Nat}
theorem MSt.drewN (h : MSt w wr g1 g2 T k c W) (m : Nat) : MSt w (wr.drewN m) g1 g2 T k c W := by
  obtain ⟨⟨rs, h1, h2⟩, ⟨arr, h3, h4⟩, h5⟩ := h
  exact ⟨⟨rs, h1, h2⟩, ⟨arr, h3.drewN m, h4⟩, h5.drewN m⟩
theorem MSt.at (h : MSt w wr g1 g2 T k c W) (hk : k < T) (hg : g1 ≠ g2) : (∃ x, wr.cell? ⟨g1, k, none⟩ = some x) ∧ wr.frozen? ⟨g1, k, none⟩ = false ∧ (∀ x, ∃ y, (wr.setCell ⟨g1, k, none⟩ x).cell? ⟨g2, k + 1, none⟩ = some y) ∧ wr.frozen? ⟨g2, k + 1, none⟩ = false := by
  obtain ⟨⟨rs, h1, h2⟩, ⟨arr, h3, h4, _⟩, h5⟩ := h
  have hl := h1.sl.1
  refine ⟨⟨_, h1.cell k (by omega)⟩, h1.free k, fun x => ⟨arr[k + 1]'(by omega), ?_⟩, h3.free _⟩
  exact (h3.other (p := ⟨g1, k, none⟩) (by simpa using hg.symm) x).cell (k + 1) _ (Array.getElem?_eq_getElem (by omega))
theorem MSt.step (h : MSt w wr g1 g2 T k c W) (hk : k < T) (hg : g1 ≠ g2) (hw1 : w.heap.size ≤ g1) (hw2 : w.heap.size ≤ g2) (x : Int) (s : Nat) (hx : x = W k) (hxw : x ≤ 9223372036854775807) (hs : s = c (k + 1)) :
    MSt w ((wr.setCell ⟨g1, k, none⟩ (.int .i64 x)).setCell ⟨g2, k + 1, none⟩ (.int .i16 s)) g1 g2 T (k + 1) c W := by
  obtain ⟨⟨rs, h1, h2⟩, ⟨arr, h3, h4, h6⟩, h5⟩ := h
  have hl := h1.sl.1
  refine ⟨⟨rs.set k x, ?_, fun i hi => ?_⟩, ⟨_, (h3.other (p := ⟨g1, k, none⟩) (by simpa using hg.symm) _).set (k + 1) (.int .i16 s), by simpa using h4, fun j hj => ?_⟩, (h5.setCell (.inr (by simpa using hw1)) _).setCell (.inr (by simpa using hw2)) _⟩
  · refine (h1.store k x ?_).keep ((Keep.refl [g2] _).setCell (.inl (by simp)) _) (by simp [Value.ownBlock]; omega)
    simp [Lit.wf, IntKind.min, IntKind.max, IntKind.bits, IntKind.signed]; omega
  · rw [zn_set _ _ _ _ (by omega)]
    by_cases e : i = k
    · rw [if_pos e, e, hx]
    · rw [if_neg e]; exact h2 i (by omega)
  · rw [Array.getElem?_setIfInBounds]
    by_cases e : k + 1 = j
    · rw [if_pos e, if_pos (by omega), hs, e]
    · rw [if_neg e]; exact h6 j (by omega)
end
set_option maxRecDepth 100000 in
set_option maxHeartbeats 4000000 in
theorem merge_c (w : World) (sv pv : Value) (ss ps : List Int) (hls : ss.length ≤ 8000) (hlp : ps.length ≤ 8000) (h : Is .i64 w sv ss) (h' : Is .i64 w pv ps) (hsn : ∀ i, 0 ≤ zn ss i) (hpn : ∀ i, 0 ≤ zn ps i) :
    Calls Try.prog 31 #[sv, pv] w fun e w' => ∃ g1 g2, e = .returned (.tuple #[.slice (some ⟨g1, 0, none⟩) (ss.length + ps.length) (ss.length + ps.length), .slice (some ⟨g2, 0, none⟩) (ss.length + ps.length + 1) (ss.length + ps.length + 1)]) ∧
      MSt w w' g1 g2 (ss.length + ps.length) (ss.length + ps.length) (mc (fn ss) ss.length (fn ps) ps.length) (mw (fn ss) ss.length (fn ps) ps.length) ∧ w.heap.size ≤ g1 ∧ w.heap.size ≤ g2 := by
  have HI := Lib.hid (fun w' (k : Keep [] w w') i hi => (h.keep k (by simp)).at i hi)
  have HI' := Lib.hid (fun w' (k : Keep [] w w') i hi => (h'.keep k (by simp)).at i hi)
  have HZ : Hid (∀ i, zn ss i = (fn ss i : Int) ∧ zn ps i = (fn ps i : Int)) := fun i => by
    have h1 := hsn i
    have h2 := hpn i
    unfold fn; unfold zn at *; omega
  have hwf : Hid (∀ z ∈ ss, (Lit.int .i64 z).wf = true) := by obtain ⟨_, _, _, _, _, _, _, h6⟩ := h; exact h6
  have hwf' : Hid (∀ z ∈ ps, (Lit.int .i64 z).wf = true) := by obtain ⟨_, _, _, _, _, _, _, h6⟩ := h'; exact h6
  obtain ⟨a, cap, rfl, hl⟩ := h.sh
  obtain ⟨a', cap', rfl, hl'⟩ := h'.sh
  obtain ⟨T, hT⟩ : ∃ T, T = ss.length + ps.length := ⟨_, rfl⟩
  have HBD := Lib.hid (fun k hk => mc_bd (fn ss) ss.length (fn ps) ps.length k hk)
  have HC1 : Hid (∀ k, mc (fn ss) ss.length (fn ps) ps.length (k + 1) = if nxS (fn ss) ss.length (fn ps) ps.length (mc (fn ss) ss.length (fn ps) ps.length k) (k - mc (fn ss) ss.length (fn ps) ps.length k) then mc (fn ss) ss.length (fn ps) ps.length k + 1 else mc (fn ss) ss.length (fn ps) ps.length k) := fun k => rfl
  have HW1 : Hid (∀ k, mw (fn ss) ss.length (fn ps) ps.length k = if nxS (fn ss) ss.length (fn ps) ps.length (mc (fn ss) ss.length (fn ps) ps.length k) (k - mc (fn ss) ss.length (fn ps) ps.length k) then fn ss (mc (fn ss) ss.length (fn ps) ps.length k) else fn ps (k - mc (fn ss) ss.length (fn ps) ps.length k)) := fun k => rfl
  have HC0 : Hid (mc (fn ss) ss.length (fn ps) ps.length 0 = 0) := rfl
  generalize mc (fn ss) ss.length (fn ps) ps.length = c at *
  generalize mw (fn ss) ss.length (fn ps) ps.length = W at *
  have e1 : (ss.length : Int) + (ps.length : Int) = (T : Int) := by omega
  have t1 : T ≤ ss.length + ps.length := by omega
  have t2 : ss.length + ps.length ≤ T := by omega
  rw [← hT] at HBD ⊢
  have hmk := fun w' => run_make_intsC w' T T (Nat.le_refl _) (by omega)
  have hmk2 := fun w' => run_make_i16 w' (T + 1) (by omega)
  have e0 : ((T + 1 : Nat) : Int) = (T : Int) + 1 := by omega
  rw [e0] at hmk2
  clear h h' hsn hpn e0 hT
  go_enter Try.func31, Try.ntmps31
  go_wp2_with fail
  clear hmk hmk2 e1
  have K0 : Keep [] w ((w.alloc (.cells (madeCells #[.int .i64 0] T) 3)).alloc (.cells (madeCells #[.int .i16 0] (T + 1)) 50)) := ((Keep.refl [] w).alloc _).alloc _
  have hM : MSt w ((w.alloc (.cells (madeCells #[.int .i64 0] T) 3)).alloc (.cells (madeCells #[.int .i16 0] (T + 1)) 50)) w.heap.size (w.heap.size + 1) T 0 c W := by
    refine ⟨⟨_, (OwnI.made w T (by omega)).keep ((Keep.refl [] _).alloc _) (by simp), fun i hi => by omega⟩, ⟨madeCells #[.int .i16 0] (T + 1), ?_, size_madeCells _ _, fun j hj => ?_⟩, K0⟩
    · have := Blk.new (w.alloc (.cells (madeCells #[.int .i64 0] T) 3)) (madeCells #[.int .i16 0] (T + 1)) 50
      simpa using this
    · rw [show j = 0 by omega, HC0.out]; simp [madeCells]
  generalize (w.alloc (.cells (madeCells #[.int .i64 0] T) 3)).alloc (.cells (madeCells #[.int .i16 0] (T + 1)) 50) = w1 at hM ⊢
  obtain ⟨g1, hg1⟩ : ∃ x, w.heap.size = x := ⟨_, rfl⟩
  obtain ⟨g2, hg2⟩ : ∃ x, w.heap.size + 1 = x := ⟨_, rfl⟩
  rw [hg2, hg1] at hM ⊢
  have HG : Hid (g1 ≠ g2 ∧ w.heap.size ≤ g1 ∧ w.heap.size ≤ g2) := by unfold Hid; omega
  have HM := Lib.hid hM
  clear hg1 hg2 K0 hM
  go_loopw [8, 9, 23] (fun x y i wr => ∃ (k s p : Nat), k ≤ T ∧ x = .int .i64 s ∧ y = .int .i64 p ∧ i = .int .i64 k ∧ s ≤ ss.length ∧ p ≤ ps.length ∧ Hid (s = c k) ∧ Hid (p = k - c k) ∧ Hid (MSt w wr g1 g2 T k c W)) (fun _ _ i _ => T - (intOf i).toNat)
  case atStart => exact ⟨0, 0, 0, by omega, rfl, rfl, rfl, by omega, by omega, HC0.out.symm, (show _ = _ by rw [HC0.out]), HM.out⟩
  case round =>
    clear HM HC0
    obtain ⟨k, s, p, hk, rfl, rfl, rfl, hs, hp, HS, HP, HM⟩ := hrel
    by_cases hlt : k < T
    · have hkT : (k : Int) < (T : Int) := by omega
      have HN : Hid (nxS (fn ss) ss.length (fn ps) ps.length s p ↔ (p = ps.length ∨ (s < ss.length ∧ fn ss s ≤ fn ps p))) := Iff.rfl
      have hss : s < ss.length ∨ s = ss.length := by omega
      have hks : Hid (s + p = k) := by
        have := HBD.out k hk
        have h1 := HS.out
        have h2 := HP.out
        unfold Hid; omega
      have HSV := Lib.hid (fun (wx : World) (K : Keep [] w wx) (h : s < ss.length) => (show ∃ b off cap1, Value.slice a ss.length cap = .slice (some ⟨b, off, none⟩) ss.length cap1 ∧ wx.cell? ⟨b, off + s, none⟩ = some (.int .i64 (fn ss s)) from by
        obtain ⟨b, off, cap1, hv, e2⟩ := HI.out wx K s h
        rw [← zn_get ss s h, (HZ.out s).1] at e2
        exact ⟨b, off, cap1, hv, e2⟩))
      have HPV := Lib.hid (fun (wx : World) (K : Keep [] w wx) (h : p < ps.length) => (show ∃ b off cap1, Value.slice a' ps.length cap' = .slice (some ⟨b, off, none⟩) ps.length cap1 ∧ wx.cell? ⟨b, off + p, none⟩ = some (.int .i64 (fn ps p)) from by
        obtain ⟨b, off, cap1, hv, e2⟩ := HI'.out wx K p h
        rw [← zn_get ps p h, (HZ.out p).2] at e2
        exact ⟨b, off, cap1, hv, e2⟩))
      go_upto_region 7 with fail
      go_cut [46] (fun cc wx => ∃ bb : Bool, cc = .bool bb ∧ Hid (bb = true ↔ nxS (fn ss) ss.length (fn ps) ps.length s p) ∧ Hid (MSt w wx g1 g2 T k c W))
      case first =>
        by_cases hpn : p = ps.length
        · have HT : Hid (nxS (fn ss) ss.length (fn ps) ps.length s p) := HN.out.2 (by simp [hpn])
          have hb1 : ((p : Int) == (ps.length : Int)) = true := by rw [beq_iff_eq]; omega
          clear hpn hss
          go_wp2_with fail
          go_quiet (fail)
          have HM2 := Lib.hid (HM.out.drewN nq)
          go_wp2_with fail
          go_meet
          exact ⟨true, rfl, (show _ ↔ _ from ⟨fun _ => HT.out, fun _ => rfl⟩), HM2⟩
        · have hb1 : ((p : Int) == (ps.length : Int)) = false := by rw [beq_eq_false_iff_ne]; omega
          have hpl : p < ps.length := by omega
          by_cases hsl : s < ss.length
          · have hslz : (s : Int) < (ss.length : Int) := by omega
            have hd1 : decide ((s : Int) < (ss.length : Int)) = true := decide_eq_true hslz
            obtain ⟨b, off, cap1, hv, e2⟩ := HSV.out wr HM.out.keep hsl
            simp only [Value.slice.injEq] at hv
            obtain ⟨rfl, h2, rfl⟩ := hv
            clear h2
            obtain ⟨b2, off2, cap2, hv, e3⟩ := HPV.out wr HM.out.keep hpl
            simp only [Value.slice.injEq] at hv
            obtain ⟨rfl, h2, rfl⟩ := hv
            clear h2
            have hplz : (p : Int) < (ps.length : Int) := by omega
            by_cases hle : fn ss s ≤ fn ps p
            · have HT : Hid (nxS (fn ss) ss.length (fn ps) ps.length s p) := HN.out.2 (by simp [hle, hsl])
              have hd2 : decide ((fn ss s : Int) ≤ (fn ps p : Int)) = true := decide_eq_true (by omega)
              clear hpn hss hsl
              go_wp2_with fail
              go_quiet (fail)
              have HM2 := Lib.hid (HM.out.drewN nq)
              go_wp2_with fail
              go_meet
              exact ⟨true, rfl, (show _ ↔ _ from ⟨fun _ => HT.out, fun _ => rfl⟩), HM2⟩
            · have HT : Hid (¬ nxS (fn ss) ss.length (fn ps) ps.length s p) := fun h => by have := HN.out.1 h; simp [hle, hpn] at this
              have hd2 : decide ((fn ss s : Int) ≤ (fn ps p : Int)) = false := decide_eq_false (by omega)
              clear hpn hss hsl
              go_wp2_with fail
              go_quiet (fail)
              have HM2 := Lib.hid (HM.out.drewN nq)
              go_wp2_with fail
              go_meet
              exact ⟨false, rfl, (show _ ↔ _ from ⟨fun h => (by cases h), fun h => absurd h HT.out⟩), HM2⟩
          · have HT : Hid (¬ nxS (fn ss) ss.length (fn ps) ps.length s p) := fun h => by have := HN.out.1 h; simp [hsl, hpn] at this
            have hslz : ¬ (s : Int) < (ss.length : Int) := by omega
            have hd1 : decide ((s : Int) < (ss.length : Int)) = false := decide_eq_false hslz
            have hd1n : decide (s < ss.length) = false := decide_eq_false hsl
            clear hpn hss
            go_wp2_with fail
            go_quiet (fail)
            have HM2 := Lib.hid (HM.out.drewN nq)
            go_wp2_with fail
            go_meet
            exact ⟨false, rfl, (show _ ↔ _ from ⟨fun h => (by cases h), fun h => absurd h HT.out⟩), HM2⟩
      case rest =>
        clear HM
        obtain ⟨bb, rfl, HBB, HM⟩ := hcut
        obtain ⟨⟨x1, c1⟩, f1, hc2, f2⟩ := HM.out.at hlt HG.out.1
        have hkT1 : (k : Int) + 1 < (T : Int) + 1 := by omega
        cases bb with
        | true =>
          have hnx := HBB.out.1 rfl
          have hsl : s < ss.length := by
            have h1 := HN.out.1 hnx
            have h2 := hks.out
            omega
          have hCk : Hid (s + 1 = c (k + 1)) := by
            unfold Hid; rw [HC1.out, ← HP.out, ← HS.out, if_pos hnx]
          have hWk : ((fn ss s : Nat) : Int) = W k := by
            rw [HW1.out, ← HP.out, ← HS.out, if_pos hnx]
          have hpp : Hid (p = k + 1 - c (k + 1)) := by
            unfold Hid; rw [← hCk.out]; have := hks.out; omega
          obtain ⟨b, off, cap1, hv, e2⟩ := HSV.out wc HM.out.keep hsl
          simp only [Value.slice.injEq] at hv
          obtain ⟨rfl, h2, rfl⟩ := hv
          clear h2
          have hzw : ((fn ss s : Nat) : Int) ≤ 9223372036854775807 := by
            have := hwf.out (zn ss s) (by rw [zn_get ss s hsl]; exact List.getElem_mem hsl)
            rw [(HZ.out s).1] at this
            simp [Lit.wf, IntKind.min, IntKind.max, IntKind.bits, IntKind.signed] at this; omega
          have hst := HM.out.step hlt HG.out.1 HG.out.2.1 HG.out.2.2 (fn ss s) (s + 1) hWk hzw hCk.out
          rw [show ((s + 1 : Nat) : Int) = (s : Int) + 1 by omega] at hst
          have HST := Lib.hid hst
          obtain ⟨y1, c2⟩ := hc2 (.int .i64 (fn ss s))
          have hslz : (s : Int) < (ss.length : Int) := by omega
          have r16 : IntKind.i16.wrap ((s : Int) + 1) = (s : Int) + 1 := by simp [IntKind.wrap, IntKind.bits, IntKind.signed]; omega
          clear hst hc2 hWk hzw hnx HM
          go_wp2_with fail
          go_roundw
          case rel => exact ⟨k + 1, s + 1, p, by omega, by go_num, rfl, by go_num, by omega, hp, hCk, hpp, HST⟩
          case measure => simp [intOf]; omega
        | false =>
          have hnx : ¬ nxS (fn ss) ss.length (fn ps) ps.length s p := fun h => by have := HBB.out.2 h; cases this
          have hpl : p < ps.length := by
            have h1 := mt HN.out.2 hnx
            omega
          have hCk : Hid (s = c (k + 1)) := by
            unfold Hid; rw [HC1.out, ← HP.out, ← HS.out, if_neg hnx]
          have hWk : ((fn ps p : Nat) : Int) = W k := by
            rw [HW1.out, ← HP.out, ← HS.out, if_neg hnx]
          have hpp : Hid (p + 1 = k + 1 - c (k + 1)) := by
            unfold Hid; rw [← hCk.out]; have := hks.out; omega
          obtain ⟨b, off, cap1, hv, e2⟩ := HPV.out wc HM.out.keep hpl
          simp only [Value.slice.injEq] at hv
          obtain ⟨rfl, h2, rfl⟩ := hv
          clear h2
          have hzw : ((fn ps p : Nat) : Int) ≤ 9223372036854775807 := by
            have := hwf'.out (zn ps p) (by rw [zn_get ps p hpl]; exact List.getElem_mem hpl)
            rw [(HZ.out p).2] at this
            simp [Lit.wf, IntKind.min, IntKind.max, IntKind.bits, IntKind.signed] at this; omega
          have HST := Lib.hid (HM.out.step hlt HG.out.1 HG.out.2.1 HG.out.2.2 (fn ps p) s hWk hzw hCk.out)
          obtain ⟨y1, c2⟩ := hc2 (.int .i64 (fn ps p))
          have hplz : (p : Int) < (ps.length : Int) := by omega
          have r16 : IntKind.i16.wrap (s : Int) = (s : Int) := by simp [IntKind.wrap, IntKind.bits, IntKind.signed]; omega
          clear hc2 hWk hzw hnx HM
          go_wp2_with fail
          go_roundw
          case rel => exact ⟨k + 1, s, p + 1, by omega, rfl, by go_num, by go_num, hs, by omega, hCk, hpp, HST⟩
          case measure => simp [intOf]; omega
    · obtain rfl : k = T := by omega
      go_wp2_with fail
      go_ret2
      exact ⟨g1, g2, rfl, HM.out, HG.out.2.1, HG.out.2.2⟩
end Go.Proofs.Ytibhelfiibincaa
