/- Contract of limit's own take: of each symbol in how many rows it was taken. -/
import Derived.Test.YtibhelfiibincaaLim6
namespace Go.Proofs.Ytibhelfiibincaa
set_option linter.unusedVariables false
set_option linter.unusedSimpArgs false
open Go.ChangeShapes Go.WideShapes Go.ChangeAt Go.RowKit Go.Shelf
attribute [local go_sem] Oper.semAt_some

/-- the symbol of rank r -/
def oi (os : List Int) (r : Nat) : Nat := (zn os r).toNat
/-- the numbers of the symbols in os are f by their ranks, all others 0 -/
structure Lk (os ls : List Int) (f : Nat → Nat) : Prop where
  at_ : ∀ r, r < os.length → zn ls (oi os r) = (f r : Int)
  out : ∀ i, (∀ r, r < os.length → oi os r ≠ i) → zn ls i = 0
theorem Lk.step {os ls : List Int} {f : Nat → Nat} (h : Lk os ls f) (m : Nat) (hm : m < os.length) (hlt : oi os m < ls.length) (hinj : ∀ r r', r < os.length → r' < os.length → oi os r = oi os r' → r = r') :
    Lk os (ls.set (oi os m) ((f m : Int) + 1)) (fun r => if r = m then f r + 1 else f r) := by
  refine ⟨fun r hr => ?_, fun i hi => ?_⟩
  · rw [zn_set _ _ _ _ hlt]
    by_cases e : oi os r = oi os m
    · have := hinj r m hr hm e
      subst this
      rw [if_pos rfl, if_pos rfl]; omega
    · rw [if_neg e, if_neg (fun h => e (by rw [h]))]; exact h.at_ r hr
  · rw [zn_set _ _ _ _ hlt, if_neg (fun e => hi m hm e.symm)]; exact h.out i hi
/-- in how many of the last k rows rank r is taken -/
def pl (L : Nat) (c : Nat → Nat → Nat) (K : Nat → Nat) (k r : Nat) : Nat := ct (fun j => decide (r < c (L - j) (K (L - j)))) k
theorem sm_rev (f : Nat → Nat) (L : Nat) : sm f L = sm (fun j => f (L - 1 - j)) L := by
  induction L generalizing f with
  | zero => rfl
  | succ L ih =>
    have h1 : sm f (L + 1) = f 0 + sm (fun j => f (j + 1)) L := by
      clear ih
      induction L with
      | zero => simp [sm]
      | succ L ih => rw [sm, ih, sm]; omega
    rw [h1, ih, sm]
    have : sm (fun j => f (L - 1 - j + 1)) L = sm (fun j => f (L + 1 - 1 - j)) L := sm_congr _ _ _ (fun t ht => by congr 1; omega)
    rw [this]
    simp; omega
theorem pl_all (L : Nat) (c : Nat → Nat → Nat) (K : Nat → Nat) (r : Nat) : pl L c K L r = pmLen c K L r := by
  unfold pl pmLen ct
  rw [sm_rev]
  refine sm_congr _ _ _ (fun t ht => ?_)
  show (if decide (r < c (L - (L - 1 - t)) (K (L - (L - 1 - t)))) = true then 1 else 0) = _
  rw [show L - (L - 1 - t) = t + 1 by omega]
theorem pl_le (L : Nat) (c : Nat → Nat → Nat) (K : Nat → Nat) (k r : Nat) : pl L c K k r ≤ k := ct_le _ _
theorem pl_succ (L : Nat) (c : Nat → Nat → Nat) (K : Nat → Nat) (k r : Nat) : pl L c K (k + 1) r = pl L c K k r + if r < c (L - k) (K (L - k)) then 1 else 0 := by
  unfold pl; rw [ct_succ]; simp only [decide_eq_true_eq]
/-- what stands between two rounds -/
structure TI (w1 W : World) (gl bn N : Nat) (os : List Int) (f : Nat → Nat) (need : Nat) : Prop where
  kb : KB [gl, bn] w1.heap.size w1 W
  own : ∃ ls, OwnI W (.slice (some ⟨gl, 0, none⟩) N N) ls ∧ Lk os ls f
  cell : W.cell? ⟨bn, 0, none⟩ = some (.int .i64 need)
  free : W.frozen? ⟨bn, 0, none⟩ = false
theorem keep_row {W W' : World} {row : Option Nat} (hg : W.grownBy W' row) : Keep row.toList W W' := (Keep.refl _ W).grown hg (fun k e => .inl (by simp [e]))
theorem frozen_of_block {w w' : World} {p : Addr} (h : w'.heap[p.block]? = w.heap[p.block]?) : w'.frozen? p = w.frozen? p := by
  unfold World.frozen?; rw [h]
theorem TI.grown {w1 W W' : World} {gl bn N : Nat} {os : List Int} {f : Nat → Nat} {need : Nat} {row : Option Nat} (h : TI w1 W gl bn N os f need) (hgl : gl < w1.heap.size) (hbn : bn < w1.heap.size) (hg : W.grownBy W' row) (hr : ∀ r, row = some r → w1.heap.size ≤ r) : TI w1 W' gl bn N os f need := by
  obtain ⟨ls, h1, h2⟩ := h.own
  have k := keep_row hg
  have hn : ∀ x, x < w1.heap.size → x ∉ row.toList := fun x hx hm => by
    have := hr x (by simpa [eq_comm] using hm); omega
  have hb : W'.heap[bn]? = W.heap[bn]? := k.block bn (Nat.lt_of_lt_of_le hbn h.kb.size) (hn bn hbn)
  exact ⟨h.kb.grown h.kb.size hg (fun r e => .inr (hr r e)), ⟨ls, h1.keep k (fun b hb => by simp [Value.ownBlock] at hb; subst hb; exact hn _ hgl), h2⟩, k.cell h.cell (hn bn hbn), by rw [frozen_of_block (w := W) hb]; exact h.free⟩
set_option maxRecDepth 100000 in
set_option maxHeartbeats 4000000 in
theorem take_c (w : World) (gl go gc N co L : Nat) (os : List Int) (T : Nat → Nat) (c : Nat → Nat → Nat) (K : Nat → Nat) (hN : N ≤ 4096) (hL : L ≤ 16) (hn1 : 1 ≤ os.length) (hn : os.length ≤ 4096) (hco : os.length ≤ co)
    (hl : OwnI w (.slice (some ⟨gl, 0, none⟩) N N) (List.replicate N 0)) (ho : OwnI w (.slice (some ⟨go, 0, none⟩) os.length co) os) (hc : Cts w gc L L T c) (hgo : gl ≠ go) (hgc : gl ≠ gc)
    (hmem : ∀ r, r < os.length → zn os r = (oi os r : Int) ∧ oi os r < N) (hinj : ∀ r r', r < os.length → r' < os.length → oi os r = oi os r' → r = r')
    (hK : K L = 2 * os.length - 2) (hdn : ∀ j, j < L → K j = 2 * (K (j + 1) - c (j + 1) (K (j + 1)))) (hT : ∀ j, j < L → K (j + 1) ≤ T (j + 1) ∧ c (j + 1) (K (j + 1)) ≤ os.length ∧ c (j + 1) (K (j + 1)) ≤ K (j + 1) ∧ T (j + 1) ≤ 100000) :
    Calls Try.prog 23 #[.slice (some ⟨gl, 0, none⟩) N N, .slice (some ⟨go, 0, none⟩) os.length co, .slice (some ⟨gc, 0, none⟩) L L] w fun e w' => e = .returned (.tuple #[]) ∧ ∃ ls, OwnI w' (.slice (some ⟨gl, 0, none⟩) N N) ls ∧ Keep [gl] w w' ∧ Lk os ls (pmLen c K L) := by
  obtain ⟨V, G, hR⟩ := hc.rws
  have hN1 : 0 < N := by have := (hmem 0 (by omega)).2; omega
  have hgG : ∀ j, j < L → G j ≠ gl ∧ G j < w.heap.size := fun j hj => by
    have h1 := hR.row j hj 0 (Nat.zero_le _)
    refine ⟨fun e => ?_, World.block_lt_of_cell? w _ h1⟩
    rw [e, hl.cell 0 (by simpa using hN1)] at h1
    simp at h1
  have HGG := Lib.hid hgG
  have HR := Lib.hid hR
  have HT := Lib.hid hT
  have HM := Lib.hid hmem
  have HJ := Lib.hid hinj
  have HKK := Lib.hid hK
  have HD := Lib.hid hdn
  have HL := Lib.hid hl
  have HO := Lib.hid ho
  have hgclt : gc < w.heap.size := by obtain ⟨arr, h1, _⟩ := hc.blk; exact h1.lt
  have hgllt := hl.sl.2.2.2
  have hgolt := ho.sl.2.2.2
  have r1 : IntKind.i64.wrap (2 * (os.length : Int)) = 2 * (os.length : Int) := by rw [IntKind.wrap_i64]; omega
  have r2 : 2 * (os.length : Int) - 2 = (K L : Int) := by omega
  clear hR hgG hT hmem hinj hK hdn hl ho hc
  refine (callsIn_wide (n := 5)).1 ?_
  refine callsIn_of_wp_marks Try.func23 rfl trivial ?_ rfl
  simp only [Try.ntmps23, List.size_toArray, List.length_cons, List.length_nil, Nat.reduceAdd, Nat.reduceSub, Array.replicate_succ, Array.replicate_zero, List.push_toArray, List.append_toArray, List.nil_append, List.cons_append]
  gi_wp2_with fail
  refine ⟨trivial, (callsIn_wide.2 (backward_c _ _ _ _)).mono ?_⟩
  rintro e w' ⟨rfl, rfl⟩
  clear r1 r2
  have KA : Keep [] w ((((w.alloc (.cells #[.slice (some ⟨gl, 0, none⟩) N N] 22)).alloc (.cells #[.slice (some ⟨go, 0, none⟩) os.length co] 22)).alloc (.cells #[.int .i64 (K L)] 3)).alloc (.cells #[.slice (some ⟨gc, 0, none⟩) L L] 40)) := ((((Keep.refl [] w).alloc _).alloc _).alloc _).alloc _
  have b0 := (((Blk.new w #[.slice (some ⟨gl, 0, none⟩) N N] 22).alloc (.cells #[.slice (some ⟨go, 0, none⟩) os.length co] 22)).alloc (.cells #[.int .i64 (K L)] 3)).alloc (.cells #[.slice (some ⟨gc, 0, none⟩) L L] 40)
  have b1 := ((Blk.new (w.alloc (.cells #[.slice (some ⟨gl, 0, none⟩) N N] 22)) #[.slice (some ⟨go, 0, none⟩) os.length co] 22).alloc (.cells #[.int .i64 (K L)] 3)).alloc (.cells #[.slice (some ⟨gc, 0, none⟩) L L] 40)
  have b2 := (Blk.new ((w.alloc (.cells #[.slice (some ⟨gl, 0, none⟩) N N] 22)).alloc (.cells #[.slice (some ⟨go, 0, none⟩) os.length co] 22)) #[.int .i64 (K L)] 3).alloc (.cells #[.slice (some ⟨gc, 0, none⟩) L L] 40)
  have b3 := Blk.new (((w.alloc (.cells #[.slice (some ⟨gl, 0, none⟩) N N] 22)).alloc (.cells #[.slice (some ⟨go, 0, none⟩) os.length co] 22)).alloc (.cells #[.int .i64 (K L)] 3)) #[.slice (some ⟨gc, 0, none⟩) L L] 40
  simp only [World.size_alloc] at b1 b2 b3 ⊢
  have hsz : ((((w.alloc (.cells #[.slice (some ⟨gl, 0, none⟩) N N] 22)).alloc (.cells #[.slice (some ⟨go, 0, none⟩) os.length co] 22)).alloc (.cells #[.int .i64 (K L)] 3)).alloc (.cells #[.slice (some ⟨gc, 0, none⟩) L L] 40)).heap.size = w.heap.size + 4 := by simp
  generalize (((w.alloc (.cells #[.slice (some ⟨gl, 0, none⟩) N N] 22)).alloc (.cells #[.slice (some ⟨go, 0, none⟩) os.length co] 22)).alloc (.cells #[.int .i64 (K L)] 3)).alloc (.cells #[.slice (some ⟨gc, 0, none⟩) L L] 40) = w1 at KA b0 b1 b2 b3 hsz ⊢
  gi_wp2_with fail
  obtain ⟨bs, hbs⟩ : ∃ x, w.heap.size + 1 + 1 + 1 = x := ⟨_, rfl⟩
  rw [hbs] at b3 ⊢
  obtain ⟨bn, hbn⟩ : ∃ x, w.heap.size + 1 + 1 = x := ⟨_, rfl⟩
  rw [hbn] at b2 ⊢
  obtain ⟨bo, hbo⟩ : ∃ x, w.heap.size + 1 = x := ⟨_, rfl⟩
  rw [hbo] at b1 ⊢
  obtain ⟨bl, hbl⟩ : ∃ x, w.heap.size = x := ⟨_, rfl⟩
  rw [hbl] at b0 ⊢
  have HZ : Hid (w.heap.size = bl ∧ bo = bl + 1 ∧ bn = bl + 2 ∧ bs = bl + 3 ∧ w1.heap.size = bl + 4) := by unfold Hid; omega
  clear hbs hbn hbo hbl hsz
  have HA : Hid (gl < bl ∧ go < bl ∧ gc < bl) := by have := HZ.out; unfold Hid; omega
  have HKA := Lib.hid KA
  have HB0 := Lib.hid b0
  have HB1 := Lib.hid b1
  have HB2 := Lib.hid b2
  have HB3 := Lib.hid b3
  clear KA b0 b1 b2 b3 hgclt hgllt hgolt
  refine range_steps (gf := 35) (lb := #[.pointer (some ⟨bs, 0, none⟩)]) rfl (enters_of Try.func35 (by kernel_rfl) rfl)
    (backward_steps [gl, bn] w1.heap.size bs gc L (by omega) V w1 (Nat.le_refl _) (by have := HZ.out; omega) (by have := HZ.out; have := HA.out; omega) (by have := HZ.out; have := HA.out; simp; omega) (by have := HZ.out; have := HA.out; simp; omega) (HB3.out.cell 0 _ rfl) (fun j hj => HKA.out.cell (HR.out.at_ j hj) (by simp)))
    (fun h k => h.trans k) (KB.put (Nat.le_refl _)) (fun _ => rfl)
    (fun k W => TI w1 W gl bn N os (pl L c K k) (K (L - k)))
    (fun k W W' row h hg hr => h.grown (by have := HZ.out; have := HA.out; omega) (by have := HZ.out; omega) hg (fun r e => (hr r e).1))
    ⟨KB.refl _ _ _, ⟨_, HL.out.keep HKA.out (by simp), ⟨fun r hr => by rw [zn_rep]; rfl, fun i _ => zn_rep _ _⟩⟩, HB2.out.cell 0 _ rfl, HB2.out.free 0⟩
    (fun j => { tmps := #[.slice (some ⟨gl, 0, none⟩) N N, .slice (some ⟨go, 0, none⟩) os.length co, .slice (some ⟨gc, 0, none⟩) L L, .pointer (some ⟨bl, 0, none⟩), .pointer (some ⟨bo, 0, none⟩), undef, .pointer (some ⟨bn, 0, none⟩), undef, V j, undef, undef, undef, .slice (some ⟨go, 0, none⟩) os.length co, .int .i64 os.length, .int .i64 (2 * (os.length : Int)), .int .i64 (K L), .slice (some ⟨gc, 0, none⟩) L L, .func (.func 35) #[] #[.pointer (some ⟨bs, 0, none⟩)], .int .i64 j, V j, undef, undef, undef, undef, undef, undef, undef, undef, undef, undef, undef, undef, undef, undef, undef, undef, undef, undef, undef, undef, undef, undef, undef, undef], defers := [] }) ?assign ?body ?done
  case assign =>
    intro l x W KK hK
    gi_wp2
    exact hK
  case body =>
    intro l k j W hx hT
    obtain ⟨hk, hj⟩ := down_get L k j hx
    have hjL : j < L := by omega
    have e1 : L - k = j + 1 := by omega
    have e2 : L - (k + 1) = j := by omega
    have hp : pl L c K (k + 1) = fun r => pl L c K k r + if r < c (j + 1) (K (j + 1)) then 1 else 0 := by
      funext r; rw [pl_succ, e1]
    have hple := Lib.hid (fun r => Nat.le_trans (pl_le L c K k r) (show k ≤ 15 by omega))
    obtain ⟨t1, t2, t3, t4⟩ := HT.out j hjL
    have hd := HD.out j hjL
    have hval := HR.out.val j hjL
    have hrow := HR.out.row j hjL _ t1
    obtain ⟨g1, g2⟩ := HGG.out j hjL
    have hkb := hT.kb
    have c1 := hT.cell
    have f1 := hT.free
    obtain ⟨ls, hO, hLk⟩ := hT.own
    have c2 := hkb.cell (HKA.out.cell hrow (by simp)) (by have := HZ.out; show G j < _; omega) (by have := HZ.out; have := HA.out; simp; omega)
    have c3 := hkb.cell (HB1.out.cell 0 _ rfl) (by have := HZ.out; show bo < _; omega) (by have := HZ.out; have := HA.out; simp; omega)
    have HKB := Lib.hid hkb
    rw [e1] at c1
    rw [hval]
    have HFIN : Hid (∀ W', TI w1 W' gl bn N os (fun r => pl L c K k r + if r < c (j + 1) (K (j + 1)) then 1 else 0) (2 * (K (j + 1) - c (j + 1) (K (j + 1)))) → TI w1 W' gl bn N os (pl L c K (k + 1)) (K (L - (k + 1)))) := by
      intro W' h
      rw [hp, e2, hd]; exact h
    generalize pl L c K k = f at hLk hple HFIN
    generalize c (j + 1) (K (j + 1)) = sy at t2 t3 c2 HFIN
    generalize K (j + 1) = kk at t1 t3 c1 c2 HFIN
    generalize T (j + 1) = tj at t1 t4 ⊢
    generalize G j = gj at c2 g1 g2 ⊢
    have HLK := Lib.hid hLk
    have HO2 := Lib.hid hO
    clear hx hT hval hrow hk hj hd hp hkb hLk hO e1 e2
    have kz : (kk : Int) < (tj : Int) + 1 := by omega
    have sz : (sy : Int) ≤ (co : Int) := by omega
    have ssz : (sy : Int) ≤ (os.length : Int) := by omega
    have k0 : kk < tj + 1 := by omega
    have s0 : sy ≤ co := by omega
    have HT0 : Hid (TI w1 W gl bn N os (fun r => f r + if r < 0 then 1 else 0) kk) := by
      have : (fun r => f r + if r < 0 then 1 else 0) = f := by funext r; simp
      rw [this]; exact ⟨HKB.out, ⟨ls, HO2.out, HLK.out⟩, c1, f1⟩
    clear HLK HO2 HKB
    obtain ⟨nd, hnd⟩ : ∃ x, 2 * (kk - sy) = x := ⟨_, rfl⟩
    have r5 : IntKind.i64.wrap ((kk : Int) - (sy : Int)) = (kk : Int) - (sy : Int) := by rw [IntKind.wrap_i64]; omega
    have r6 : IntKind.i64.wrap (2 * ((kk : Int) - (sy : Int))) = (nd : Int) := by rw [IntKind.wrap_i64]; omega
    rw [hnd] at HFIN
    clear hnd
    gi_wp2_with fail
    clear c1 f1 c2 c3
    gi_loopw [29] (fun i wr => ∃ (m : Nat), m ≤ sy ∧ i = .int .i64 m ∧ Hid (TI w1 wr gl bn N os (fun r => f r + if r < m then 1 else 0) kk) ∧ Hid (KB [gl, bn] w1.heap.size W wr) ∧ Hid (KeepsFrom w1.heap.size W wr)) (fun i _ => sy - (intOf i).toNat)
    case atStart => exact ⟨0, Nat.zero_le _, rfl, HT0.out, KB.refl _ _ _, KeepsFrom.refl _ _⟩
    case round =>
      clear HT0
      obtain ⟨m, hm, rfl, HTI, HK1, HK2⟩ := hrel
      by_cases hlt : m < sy
      · have hmo : m < os.length := by omega
        have hmz : (m : Int) < (sy : Int) := by omega
        obtain ⟨ls, hO, hLk⟩ := HTI.out.own
        obtain ⟨m1, m2⟩ := HM.out m hmo
        have z1 := HZ.out
        have z2 := HA.out
        have d1 := HTI.out.kb.cell (HKA.out.cell (HO.out.cell m hmo) (by simp)) (by show go < _; omega) (by simp; omega)
        have d2 := HTI.out.kb.cell (HB0.out.cell 0 _ rfl) (by show bl < _; omega) (by simp; omega)
        have hnl := hO.sl.1
        have d3 := hO.cell (oi os m) (by omega)
        have d4 := hO.free (oi os m)
        have hv := hLk.at_ m hmo
        rw [if_neg (by omega), Nat.add_zero] at hv
        rw [hv] at d3
        rw [m1] at d1
        have hfm := hple.out m
        have hnew := hLk.step m hmo (by omega) HJ.out
        have HLS : Hid (Lk os (ls.set (oi os m) ((f m : Int) + 1)) (fun r => f r + if r < m + 1 then 1 else 0)) := by
          have e : (fun r => if r = m then (f r + if r < m then 1 else 0) + 1 else f r + if r < m then 1 else 0) = (fun r => f r + if r < m + 1 then 1 else 0) := by
            funext r
            by_cases h1 : r = m
            · rw [if_pos h1, if_neg (by omega), if_pos (by omega)]
            · rw [if_neg h1]
              by_cases h2 : r < m
              · rw [if_pos h2, if_pos (by omega)]
              · rw [if_neg h2, if_neg (by omega)]
          rw [← e]
          have e2 : (f m + if m < m then 1 else 0) = f m := by simp
          rw [e2] at hnew; exact hnew
        have hO3 := hO.store (oi os m) ((f m : Int) + 1) (by simp [Lit.wf, IntKind.min, IntKind.max, IntKind.bits, IntKind.signed]; omega)
        have hKS : Keep [gl] wr (wr.setCell ⟨gl, oi os m, none⟩ (.int .i64 ((f m : Int) + 1))) := (Keep.refl _ _).setCell (.inl (by simp)) _
        have hKBS : KB [gl, bn] w1.heap.size wr (wr.setCell ⟨gl, oi os m, none⟩ (.int .i64 ((f m : Int) + 1))) := KB.of_keep hKS HTI.out.kb.size (fun x hx => .inl (by simp at hx; simp [hx]))
        have HT3 : Hid (TI w1 (wr.setCell ⟨gl, oi os m, none⟩ (.int .i64 ((f m : Int) + 1))) gl bn N os (fun r => f r + if r < m + 1 then 1 else 0) kk) :=
          ⟨HTI.out.kb.trans hKBS, ⟨_, hO3, HLS.out⟩, hKS.cell HTI.out.cell (by simp; omega), by rw [World.frozen?_setCell]; exact HTI.out.free⟩
        have HK3 : Hid (KB [gl, bn] w1.heap.size W (wr.setCell ⟨gl, oi os m, none⟩ (.int .i64 ((f m : Int) + 1)))) := HK1.out.trans hKBS
        have HK4 : Hid (KeepsFrom w1.heap.size W (wr.setCell ⟨gl, oi os m, none⟩ (.int .i64 ((f m : Int) + 1)))) := HK2.out.trans ((KeepsOthers.setCell _ _ _).from _)
        have m2z : ((oi os m : Nat) : Int) < (N : Int) := by omega
        generalize oi os m = s at *
        generalize f m = fm at *
        clear hnew HLS hO3 hKS hKBS hO hLk m1 hv hnl z1 z2 HTI HK1 HK2
        gi_wp2
        go_roundw
        case rel => exact ⟨m + 1, by omega, by go_num, HT3, HK3, HK4⟩
        case measure => simp [intOf]; omega
      · obtain rfl : m = sy := by omega
        have d1 := HTI.out.cell
        have d2 := HTI.out.free
        have z1 := HZ.out
        have z2 := HA.out
        obtain ⟨ls, hO, hLk⟩ := HTI.out.own
        have hKS : Keep [bn] wr (wr.setCell ⟨bn, 0, none⟩ (.int .i64 nd)) := (Keep.refl _ _).setCell (.inl (by simp)) _
        have hKBS : KB [gl, bn] w1.heap.size wr (wr.setCell ⟨bn, 0, none⟩ (.int .i64 nd)) := KB.of_keep hKS HTI.out.kb.size (fun x hx => .inl (by simp at hx; simp [hx]))
        have HF : Hid (TI w1 (wr.setCell ⟨bn, 0, none⟩ (.int .i64 nd)) gl bn N os (pl L c K (k + 1)) (K (L - (k + 1)))) := HFIN.out _ ⟨HTI.out.kb.trans hKBS, ⟨_, hO.keep hKS (by simp [Value.ownBlock]; omega), hLk⟩, World.cell?_setCell_same' _ _ _ (by rw [d1]; rfl), by rw [World.frozen?_setCell]; exact d2⟩
        have HK3 : Hid (KB [gl, bn] w1.heap.size W (wr.setCell ⟨bn, 0, none⟩ (.int .i64 nd))) := HK1.out.trans hKBS
        have HK4 : Hid (KeepsFrom w1.heap.size W (wr.setCell ⟨bn, 0, none⟩ (.int .i64 nd))) := HK2.out.trans ((KeepsOthers.setCell _ _ _).from _)
        clear hKS hKBS hO hLk z1 z2 HTI HK1 HK2
        gi_wp2
        exact ⟨HK4.out, HK3.out, HF.out⟩
  case done =>
    intro D W hD hT hK
    gi_wp2
    obtain ⟨ls, hO, hLk⟩ := hT.own
    rw [down_len] at hLk
    have hg := grownBy_putObj' W D (.deferred none)
    have hz := HZ.out
    have ha := HA.out
    have kW := keep_row hg
    refine ⟨by simp, .inl ⟨_, _, rfl, run_takeDeferred hK, ?_⟩⟩
    refine ⟨_, results_none rfl _ _ _, rfl, ls, hO.keep kW (fun b hb => by simp [Value.ownBlock] at hb; subst hb; simp; omega), ?_, by rw [show pmLen c K L = pl L c K L from (funext (pl_all L c K)).symm]; exact hLk⟩
    have hK1 := HKA.out
    refine ⟨(kW.os.trans hT.kb.os).trans hK1.os, (kW.tape.trans hT.kb.tape).trans hK1.tape, (kW.output.trans hT.kb.output).trans hK1.output, Nat.le_trans hK1.size (Nat.le_trans hT.kb.size kW.size), fun x hx hn => ?_⟩
    have hxg : x ≠ gl := by simpa using hn
    rw [kW.block x (by have := hT.kb.size; have := hK1.size; omega) (by simp; omega), hT.kb.block x (by have := hK1.size; omega) (by simp; omega), hK1.block x hx (by simp)]
end Go.Proofs.Ytibhelfiibincaa
