/- Texts put together: Lim6 Lim7 Lim -/
import Derived.Test.YtibkepjbblfkoaaGreatDoorPart15
import Derived.Test.YtibkepjbblfkoaaGreatDoorPart16
namespace Go.Proofs.YtibkepjbblfkoaaGreatDoor
set_option linter.unusedVariables false
set_option linter.unusedSimpArgs false
open Go.ChangeShapes Go.WideShapes Go.ChangeAt Go.RowKit Go.Shelf
attribute [local go_sem] Oper.semAt_some

/-- rows of counts, as values -/
structure Rws (w : World) (gc L : Nat) (V : Nat → Value) (G T : Nat → Nat) (c : Nat → Nat → Nat) : Prop where
  val : ∀ j, j < L → V j = .slice (some ⟨G j, 0, none⟩) (T (j + 1) + 1) (T (j + 1) + 1)
  at_ : ∀ j, j < L → w.cell? ⟨gc, j, none⟩ = some (V j)
  row : ∀ j, j < L → ∀ m, m ≤ T (j + 1) → w.cell? ⟨G j, m, none⟩ = some (.int .i16 (c (j + 1) m))
theorem Cts.rws {w : World} {gc L : Nat} {T : Nat → Nat} {c : Nat → Nat → Nat} (h : Cts w gc L L T c) : ∃ V G, Rws w gc L V G T c := by
  obtain ⟨arr, h1, h2, h3⟩ := h.blk
  have key : ∀ j, ∃ g, j < L → w.cell? ⟨gc, j, none⟩ = some (.slice (some ⟨g, 0, none⟩) (T (j + 1) + 1) (T (j + 1) + 1)) ∧ ∀ m, m ≤ T (j + 1) → w.cell? ⟨g, m, none⟩ = some (.int .i16 (c (j + 1) m)) := fun j => by
    by_cases hj : j < L
    · obtain ⟨v, h4, g, h5, _, h6⟩ := h3 j hj
      exact ⟨g, fun _ => ⟨by rw [h1.cell j v h4, h5], h6⟩⟩
    · exact ⟨0, fun h => absurd h hj⟩
  exact ⟨fun j => .slice (some ⟨Classical.choose (key j), 0, none⟩) (T (j + 1) + 1) (T (j + 1) + 1), fun j => Classical.choose (key j), fun j _ => rfl, fun j hj => (Classical.choose_spec (key j) hj).1, fun j hj => (Classical.choose_spec (key j) hj).2⟩
theorem backward_c (w : World) (a : Option Addr) (n c : Nat) : Calls Tryz.prog 84 #[.slice a n c] w fun e w' => e = .returned (.func (.func 95) #[] #[.pointer (some ⟨w.heap.size, 0, none⟩)]) ∧ w' = w.alloc (.cells #[.slice a n c] 112) := by
  go_enter Tryz.func84, Tryz.ntmps84
  go_wp2
  go_ret
  exact ⟨rfl, rfl⟩
set_option maxRecDepth 100000 in
set_option maxHeartbeats 2000000 in
theorem backward_steps (S : List Nat) (n₀ Bs gc L : Nat) (hL : L ≤ 100000) (V : Nat → Value) (w : World) (hn : n₀ ≤ w.heap.size) (hBn : Bs < n₀) (hgn : gc < n₀) (hBS : Bs ∉ S) (hgS : gc ∉ S)
    (hb : w.cell? ⟨Bs, 0, none⟩ = some (.slice (some ⟨gc, 0, none⟩) L L)) (hv : ∀ j, j < L → w.cell? ⟨gc, j, none⟩ = some (V j)) :
    StepsBy Tryz.prog 95 #[.pointer (some ⟨Bs, 0, none⟩)] (fun j : Nat => #[.int .i64 j, V j]) (KB S n₀) (down L) w := by
  intro l J W hW hY h0
  have hKW : KB S n₀ w W := ⟨hW.os, hW.tape, hW.output, hW.size, fun k h1 h2 => hW.block k (by omega)⟩
  refine callsIn_of_wp Tryz.func95 rfl trivial ?_ rfl
  simp only [Tryz.ntmps95, List.size_toArray, List.length_cons, List.length_nil, Nat.reduceAdd, Nat.reduceSub, Array.replicate_succ, Array.replicate_zero, List.push_toArray, List.append_toArray, List.nil_append, List.cons_append]
  have HB := Lib.hid (fun W' (k : KB S n₀ w W') => k.cell hb hBn hBS)
  have HV := Lib.hid (fun W' (k : KB S n₀ w W') j hj => k.cell (hv j hj) hgn hgS)
  have HY := Lib.hid hY
  have HK := Lib.hid hKW
  have hb1 := HB.out W hKW
  have e0 : IntKind.i64.wrap ((L : Int) - 1) = (L : Int) - 1 := by rw [IntKind.wrap_i64]; omega
  clear hb hv hY hKW hW
  gi_wp2
  clear e0 hb1
  gi_loopw [3] (fun i wr => ∃ (k : Nat) (z : Int), k ≤ L ∧ i = .int .i64 z ∧ Hid (z = (L : Int) - 1 - (k : Int)) ∧ J k wr ∧ Hid (KB S n₀ w wr)) (fun i _ => (intOf i + 1).toNat)
  case atStart => exact ⟨0, _, Nat.zero_le _, rfl, (show _ = _ by omega), h0, HK.out⟩
  case round =>
    clear h0 HK
    obtain ⟨k, z, hk, rfl, HZ, hJ, HK⟩ := hrel
    have hb2 := HB.out wr HK.out
    by_cases hlt : k < L
    · obtain ⟨j, hj⟩ : ∃ j : Nat, j = L - 1 - k := ⟨_, rfl⟩
      have hjL : j < L := by omega
      have hz : z = (j : Int) := by have := HZ.out; omega
      subst hz
      have c1 := HV.out wr HK.out j hjL
      obtain ⟨fn, tmps, assign, body, hy, hR⟩ := HY.out k j wr (by rw [down_at L k hlt, hj]) hJ
      have e1 : IntKind.i64.wrap ((j : Int) - 1) = (j : Int) - 1 := by rw [IntKind.wrap_i64]; omega
      have hjz : (j : Int) < (L : Int) := by omega
      clear hj
      gi_wp2
      refine hR.mono ?_
      rintro e W3 ⟨rfl, hJ3, hk3⟩
      have HK3 : Hid (KB S n₀ w W3) := HK.out.trans hk3
      have HZ3 : Hid ((j : Int) - 1 = (L : Int) - 1 - ((k + 1 : Nat) : Int)) := by have := HZ.out; unfold Hid; omega
      clear hk3 hb2 c1 hy hR hJ HK HZ
      gi_wp2
      go_roundw
      case rel => exact ⟨k + 1, _, by omega, rfl, HZ3, hJ3, HK3⟩
      case measure => simp [intOf]
    · obtain rfl : k = L := by omega
      have hz : z = -1 := by have := HZ.out; omega
      subst hz
      gi_wp2
      go_end0
      exact ⟨⟨_, rfl⟩, by rw [down_len]; exact hJ⟩
end Go.Proofs.YtibkepjbblfkoaaGreatDoor
namespace Go.Proofs.YtibkepjbblfkoaaGreatDoor
set_option linter.unusedVariables false
set_option linter.unusedSimpArgs false
open Go.ChangeShapes Go.WideShapes Go.ChangeAt Go.RowKit Go.Shelf
attribute [local go_sem] Oper.semAt_some

/-- the symbol of rank r -/
def oi (os : List Int) (r : Nat) : Nat := (zn os r).toNat
/-- the numbers of the symbols in os are f by their ranks, all others 0 -/
structure LkL (os ls : List Int) (f : Nat → Nat) : Prop where
  at_ : ∀ r, r < os.length → zn ls (oi os r) = (f r : Int)
  out : ∀ i, (∀ r, r < os.length → oi os r ≠ i) → zn ls i = 0
theorem LkL.step {os ls : List Int} {f : Nat → Nat} (h : LkL os ls f) (m : Nat) (hm : m < os.length) (hlt : oi os m < ls.length) (hinj : ∀ r r', r < os.length → r' < os.length → oi os r = oi os r' → r = r') :
    LkL os (ls.set (oi os m) ((f m : Int) + 1)) (fun r => if r = m then f r + 1 else f r) := by
  refine ⟨fun r hr => ?_, fun i hi => ?_⟩
  · rw [zn_set _ _ _ _ hlt]
    by_cases e : oi os r = oi os m
    · have := hinj r m hr hm e
      subst this
      rw [if_pos rfl, if_pos rfl]; omega
    · rw [if_neg e, if_neg (fun h => e (by rw [h]))]; exact h.at_ r hr
  · rw [zn_set _ _ _ _ hlt, if_neg (fun e => hi m hm e.symm)]; exact h.out i hi
/-- in how many of the last k rows rank r is taken -/
def pl (L : Nat) (c : Nat → Nat → Nat) (K : Nat → Nat) (k r : Nat) : Nat := ct (fun j => decide (r < c (L - j) (K (L - j)))) k
theorem sm_rev (f : Nat → Nat) (L : Nat) : sm f L = sm (fun j => f (L - 1 - j)) L := by
  induction L generalizing f with
  | zero => rfl
  | succ L ih =>
    have h1 : sm f (L + 1) = f 0 + sm (fun j => f (j + 1)) L := by
      clear ih
      induction L with
      | zero => simp [sm]
      | succ L ih => rw [sm, ih, sm]; omega
    rw [h1, ih, sm]
    have : sm (fun j => f (L - 1 - j + 1)) L = sm (fun j => f (L + 1 - 1 - j)) L := sm_congr _ _ _ (fun t ht => by congr 1; omega)
    rw [this]
    simp; omega
theorem pl_all (L : Nat) (c : Nat → Nat → Nat) (K : Nat → Nat) (r : Nat) : pl L c K L r = pmLen c K L r := by
  unfold pl pmLen ct
  rw [sm_rev]
  refine sm_congr _ _ _ (fun t ht => ?_)
  show (if decide (r < c (L - (L - 1 - t)) (K (L - (L - 1 - t)))) = true then 1 else 0) = _
  rw [show L - (L - 1 - t) = t + 1 by omega]
theorem pl_le (L : Nat) (c : Nat → Nat → Nat) (K : Nat → Nat) (k r : Nat) : pl L c K k r ≤ k := ct_le _ _
theorem pl_succ (L : Nat) (c : Nat → Nat → Nat) (K : Nat → Nat) (k r : Nat) : pl L c K (k + 1) r = pl L c K k r + if r < c (L - k) (K (L - k)) then 1 else 0 := by
  unfold pl; rw [ct_succ]; simp only [decide_eq_true_eq]
/-- what stands between two rounds -/
structure TI (w1 W : World) (gl bn N : Nat) (os : List Int) (f : Nat → Nat) (need : Nat) : Prop where
  kb : KB [gl, bn] w1.heap.size w1 W
  own : ∃ ls, OwnI W (.slice (some ⟨gl, 0, none⟩) N N) ls ∧ LkL os ls f
  cell : W.cell? ⟨bn, 0, none⟩ = some (.int .i64 need)
  free : W.frozen? ⟨bn, 0, none⟩ = false
theorem keep_row {W W' : World} {row : Option Nat} (hg : W.grownBy W' row) : Keep row.toList W W' := (Keep.refl _ W).grown hg (fun k e => .inl (by simp [e]))
theorem frozen_of_block {w w' : World} {p : Addr} (h : w'.heap[p.block]? = w.heap[p.block]?) : w'.frozen? p = w.frozen? p := by
  unfold World.frozen?; rw [h]
theorem TI.grown {w1 W W' : World} {gl bn N : Nat} {os : List Int} {f : Nat → Nat} {need : Nat} {row : Option Nat} (h : TI w1 W gl bn N os f need) (hgl : gl < w1.heap.size) (hbn : bn < w1.heap.size) (hg : W.grownBy W' row) (hr : ∀ r, row = some r → w1.heap.size ≤ r) : TI w1 W' gl bn N os f need := by
  obtain ⟨ls, h1, h2⟩ := h.own
  have k := keep_row hg
  have hn : ∀ x, x < w1.heap.size → x ∉ row.toList := fun x hx hm => by
    have := hr x (by simpa [eq_comm] using hm); omega
  have hb : W'.heap[bn]? = W.heap[bn]? := k.block bn (Nat.lt_of_lt_of_le hbn h.kb.size) (hn bn hbn)
  exact ⟨h.kb.grown h.kb.size hg (fun r e => .inr (hr r e)), ⟨ls, h1.keep k (fun b hb => by simp [Value.ownBlock] at hb; subst hb; exact hn _ hgl), h2⟩, k.cell h.cell (hn bn hbn), by rw [frozen_of_block (w := W) hb]; exact h.free⟩
set_option maxRecDepth 100000 in
set_option maxHeartbeats 4000000 in
theorem take_c (w : World) (gl go gc N co L : Nat) (os : List Int) (T : Nat → Nat) (c : Nat → Nat → Nat) (K : Nat → Nat) (hN : N ≤ 4096) (hL : L ≤ 16) (hn1 : 1 ≤ os.length) (hn : os.length ≤ 4096) (hco : os.length ≤ co)
    (hl : OwnI w (.slice (some ⟨gl, 0, none⟩) N N) (List.replicate N 0)) (ho : OwnI w (.slice (some ⟨go, 0, none⟩) os.length co) os) (hc : Cts w gc L L T c) (hgo : gl ≠ go) (hgc : gl ≠ gc)
    (hmem : ∀ r, r < os.length → zn os r = (oi os r : Int) ∧ oi os r < N) (hinj : ∀ r r', r < os.length → r' < os.length → oi os r = oi os r' → r = r')
    (hK : K L = 2 * os.length - 2) (hdn : ∀ j, j < L → K j = 2 * (K (j + 1) - c (j + 1) (K (j + 1)))) (hT : ∀ j, j < L → K (j + 1) ≤ T (j + 1) ∧ c (j + 1) (K (j + 1)) ≤ os.length ∧ c (j + 1) (K (j + 1)) ≤ K (j + 1) ∧ T (j + 1) ≤ 100000) :
    Calls Tryz.prog 67 #[.slice (some ⟨gl, 0, none⟩) N N, .slice (some ⟨go, 0, none⟩) os.length co, .slice (some ⟨gc, 0, none⟩) L L] w fun e w' => e = .returned (.tuple #[]) ∧ ∃ ls, OwnI w' (.slice (some ⟨gl, 0, none⟩) N N) ls ∧ Keep [gl] w w' ∧ LkL os ls (pmLen c K L) := by
  obtain ⟨V, G, hR⟩ := hc.rws
  have hN1 : 0 < N := by have := (hmem 0 (by omega)).2; omega
  have hgG : ∀ j, j < L → G j ≠ gl ∧ G j < w.heap.size := fun j hj => by
    have h1 := hR.row j hj 0 (Nat.zero_le _)
    refine ⟨fun e => ?_, World.block_lt_of_cell? w _ h1⟩
    rw [e, hl.cell 0 (by simpa using hN1)] at h1
    simp at h1
  have HGG := Lib.hid hgG
  have HR := Lib.hid hR
  have HT := Lib.hid hT
  have HM := Lib.hid hmem
  have HJ := Lib.hid hinj
  have HKK := Lib.hid hK
  have HD := Lib.hid hdn
  have HL := Lib.hid hl
  have HO := Lib.hid ho
  have hgclt : gc < w.heap.size := by obtain ⟨arr, h1, _⟩ := hc.blk; exact h1.lt
  have hgllt := hl.sl.2.2.2
  have hgolt := ho.sl.2.2.2
  have r1 : IntKind.i64.wrap (2 * (os.length : Int)) = 2 * (os.length : Int) := by rw [IntKind.wrap_i64]; omega
  have r2 : 2 * (os.length : Int) - 2 = (K L : Int) := by omega
  clear hR hgG hT hmem hinj hK hdn hl ho hc
  refine (callsIn_wide (n := 5)).1 ?_
  refine callsIn_of_wp_marks Tryz.func67 rfl trivial ?_ rfl
  simp only [Tryz.ntmps67, List.size_toArray, List.length_cons, List.length_nil, Nat.reduceAdd, Nat.reduceSub, Array.replicate_succ, Array.replicate_zero, List.push_toArray, List.append_toArray, List.nil_append, List.cons_append]
  gi_wp2_with fail
  refine ⟨trivial, (callsIn_wide.2 (backward_c _ _ _ _)).mono ?_⟩
  rintro e w' ⟨rfl, rfl⟩
  clear r1 r2
  have KA : Keep [] w ((((w.alloc (.cells #[.slice (some ⟨gl, 0, none⟩) N N] 22)).alloc (.cells #[.slice (some ⟨go, 0, none⟩) os.length co] 22)).alloc (.cells #[.int .i64 (K L)] 3)).alloc (.cells #[.slice (some ⟨gc, 0, none⟩) L L] 112)) := ((((Keep.refl [] w).alloc _).alloc _).alloc _).alloc _
  have b0 := (((Blk.new w #[.slice (some ⟨gl, 0, none⟩) N N] 22).alloc (.cells #[.slice (some ⟨go, 0, none⟩) os.length co] 22)).alloc (.cells #[.int .i64 (K L)] 3)).alloc (.cells #[.slice (some ⟨gc, 0, none⟩) L L] 112)
  have b1 := ((Blk.new (w.alloc (.cells #[.slice (some ⟨gl, 0, none⟩) N N] 22)) #[.slice (some ⟨go, 0, none⟩) os.length co] 22).alloc (.cells #[.int .i64 (K L)] 3)).alloc (.cells #[.slice (some ⟨gc, 0, none⟩) L L] 112)
  have b2 := (Blk.new ((w.alloc (.cells #[.slice (some ⟨gl, 0, none⟩) N N] 22)).alloc (.cells #[.slice (some ⟨go, 0, none⟩) os.length co] 22)) #[.int .i64 (K L)] 3).alloc (.cells #[.slice (some ⟨gc, 0, none⟩) L L] 112)
  have b3 := Blk.new (((w.alloc (.cells #[.slice (some ⟨gl, 0, none⟩) N N] 22)).alloc (.cells #[.slice (some ⟨go, 0, none⟩) os.length co] 22)).alloc (.cells #[.int .i64 (K L)] 3)) #[.slice (some ⟨gc, 0, none⟩) L L] 112
  simp only [World.size_alloc] at b1 b2 b3 ⊢
  have hsz : ((((w.alloc (.cells #[.slice (some ⟨gl, 0, none⟩) N N] 22)).alloc (.cells #[.slice (some ⟨go, 0, none⟩) os.length co] 22)).alloc (.cells #[.int .i64 (K L)] 3)).alloc (.cells #[.slice (some ⟨gc, 0, none⟩) L L] 112)).heap.size = w.heap.size + 4 := by simp
  generalize (((w.alloc (.cells #[.slice (some ⟨gl, 0, none⟩) N N] 22)).alloc (.cells #[.slice (some ⟨go, 0, none⟩) os.length co] 22)).alloc (.cells #[.int .i64 (K L)] 3)).alloc (.cells #[.slice (some ⟨gc, 0, none⟩) L L] 112) = w1 at KA b0 b1 b2 b3 hsz ⊢
  gi_wp2_with fail
  obtain ⟨bs, hbs⟩ : ∃ x, w.heap.size + 1 + 1 + 1 = x := ⟨_, rfl⟩
  rw [hbs] at b3 ⊢
  obtain ⟨bn, hbn⟩ : ∃ x, w.heap.size + 1 + 1 = x := ⟨_, rfl⟩
  rw [hbn] at b2 ⊢
  obtain ⟨bo, hbo⟩ : ∃ x, w.heap.size + 1 = x := ⟨_, rfl⟩
  rw [hbo] at b1 ⊢
  obtain ⟨bl, hbl⟩ : ∃ x, w.heap.size = x := ⟨_, rfl⟩
  rw [hbl] at b0 ⊢
  have HZ : Hid (w.heap.size = bl ∧ bo = bl + 1 ∧ bn = bl + 2 ∧ bs = bl + 3 ∧ w1.heap.size = bl + 4) := by unfold Hid; omega
  clear hbs hbn hbo hbl hsz
  have HA : Hid (gl < bl ∧ go < bl ∧ gc < bl) := by have := HZ.out; unfold Hid; omega
  have HKA := Lib.hid KA
  have HB0 := Lib.hid b0
  have HB1 := Lib.hid b1
  have HB2 := Lib.hid b2
  have HB3 := Lib.hid b3
  clear KA b0 b1 b2 b3 hgclt hgllt hgolt
  refine range_steps (gf := 95) (lb := #[.pointer (some ⟨bs, 0, none⟩)]) rfl (enters_of Tryz.func95 (by kernel_rfl) rfl)
    (backward_steps [gl, bn] w1.heap.size bs gc L (by omega) V w1 (Nat.le_refl _) (by have := HZ.out; omega) (by have := HZ.out; have := HA.out; omega) (by have := HZ.out; have := HA.out; simp; omega) (by have := HZ.out; have := HA.out; simp; omega) (HB3.out.cell 0 _ rfl) (fun j hj => HKA.out.cell (HR.out.at_ j hj) (by simp)))
    (fun h k => h.trans k) (KB.put (Nat.le_refl _)) (fun _ => rfl)
    (fun k W => TI w1 W gl bn N os (pl L c K k) (K (L - k)))
    (fun k W W' row h hg hr => h.grown (by have := HZ.out; have := HA.out; omega) (by have := HZ.out; omega) hg (fun r e => (hr r e).1))
    ⟨KB.refl _ _ _, ⟨_, HL.out.keep HKA.out (by simp), ⟨fun r hr => by rw [zn_rep]; rfl, fun i _ => zn_rep _ _⟩⟩, HB2.out.cell 0 _ rfl, HB2.out.free 0⟩
    (fun j => { tmps := #[.slice (some ⟨gl, 0, none⟩) N N, .slice (some ⟨go, 0, none⟩) os.length co, .slice (some ⟨gc, 0, none⟩) L L, .pointer (some ⟨bl, 0, none⟩), .pointer (some ⟨bo, 0, none⟩), undef, .pointer (some ⟨bn, 0, none⟩), undef, V j, undef, undef, undef, .slice (some ⟨go, 0, none⟩) os.length co, .int .i64 os.length, .int .i64 (2 * (os.length : Int)), .int .i64 (K L), .slice (some ⟨gc, 0, none⟩) L L, .func (.func 95) #[] #[.pointer (some ⟨bs, 0, none⟩)], .int .i64 j, V j, undef, undef, undef, undef, undef, undef, undef, undef, undef, undef, undef, undef, undef, undef, undef, undef, undef, undef, undef, undef, undef, undef, undef, undef], defers := [] }) ?assign ?body ?done
  case assign =>
    intro l x W KK hK
    gi_wp2
    exact hK
  case body =>
    intro l k j W hx hT
    obtain ⟨hk, hj⟩ := down_get L k j hx
    have hjL : j < L := by omega
    have e1 : L - k = j + 1 := by omega
    have e2 : L - (k + 1) = j := by omega
    have hp : pl L c K (k + 1) = fun r => pl L c K k r + if r < c (j + 1) (K (j + 1)) then 1 else 0 := by
      funext r; rw [pl_succ, e1]
    have hple := Lib.hid (fun r => Nat.le_trans (pl_le L c K k r) (show k ≤ 15 by omega))
    obtain ⟨t1, t2, t3, t4⟩ := HT.out j hjL
    have hd := HD.out j hjL
    have hval := HR.out.val j hjL
    have hrow := HR.out.row j hjL _ t1
    obtain ⟨g1, g2⟩ := HGG.out j hjL
    have hkb := hT.kb
    have c1 := hT.cell
    have f1 := hT.free
    obtain ⟨ls, hO, hLk⟩ := hT.own
    have c2 := hkb.cell (HKA.out.cell hrow (by simp)) (by have := HZ.out; show G j < _; omega) (by have := HZ.out; have := HA.out; simp; omega)
    have c3 := hkb.cell (HB1.out.cell 0 _ rfl) (by have := HZ.out; show bo < _; omega) (by have := HZ.out; have := HA.out; simp; omega)
    have HKB := Lib.hid hkb
    rw [e1] at c1
    rw [hval]
    have HFIN : Hid (∀ W', TI w1 W' gl bn N os (fun r => pl L c K k r + if r < c (j + 1) (K (j + 1)) then 1 else 0) (2 * (K (j + 1) - c (j + 1) (K (j + 1)))) → TI w1 W' gl bn N os (pl L c K (k + 1)) (K (L - (k + 1)))) := by
      intro W' h
      rw [hp, e2, hd]; exact h
    generalize pl L c K k = f at hLk hple HFIN
    generalize c (j + 1) (K (j + 1)) = sy at t2 t3 c2 HFIN
    generalize K (j + 1) = kk at t1 t3 c1 c2 HFIN
    generalize T (j + 1) = tj at t1 t4 ⊢
    generalize G j = gj at c2 g1 g2 ⊢
    have HLK := Lib.hid hLk
    have HO2 := Lib.hid hO
    clear hx hT hval hrow hk hj hd hp hkb hLk hO e1 e2
    have kz : (kk : Int) < (tj : Int) + 1 := by omega
    have sz : (sy : Int) ≤ (co : Int) := by omega
    have ssz : (sy : Int) ≤ (os.length : Int) := by omega
    have k0 : kk < tj + 1 := by omega
    have s0 : sy ≤ co := by omega
    have HT0 : Hid (TI w1 W gl bn N os (fun r => f r + if r < 0 then 1 else 0) kk) := by
      have : (fun r => f r + if r < 0 then 1 else 0) = f := by funext r; simp
      rw [this]; exact ⟨HKB.out, ⟨ls, HO2.out, HLK.out⟩, c1, f1⟩
    clear HLK HO2 HKB
    obtain ⟨nd, hnd⟩ : ∃ x, 2 * (kk - sy) = x := ⟨_, rfl⟩
    have r5 : IntKind.i64.wrap ((kk : Int) - (sy : Int)) = (kk : Int) - (sy : Int) := by rw [IntKind.wrap_i64]; omega
    have r6 : IntKind.i64.wrap (2 * ((kk : Int) - (sy : Int))) = (nd : Int) := by rw [IntKind.wrap_i64]; omega
    rw [hnd] at HFIN
    clear hnd
    gi_wp2_with fail
    clear c1 f1 c2 c3
    gi_loopw [29] (fun i wr => ∃ (m : Nat), m ≤ sy ∧ i = .int .i64 m ∧ Hid (TI w1 wr gl bn N os (fun r => f r + if r < m then 1 else 0) kk) ∧ Hid (KB [gl, bn] w1.heap.size W wr) ∧ Hid (KeepsFrom w1.heap.size W wr)) (fun i _ => sy - (intOf i).toNat)
    case atStart => exact ⟨0, Nat.zero_le _, rfl, HT0.out, KB.refl _ _ _, KeepsFrom.refl _ _⟩
    case round =>
      clear HT0
      obtain ⟨m, hm, rfl, HTI, HK1, HK2⟩ := hrel
      by_cases hlt : m < sy
      · have hmo : m < os.length := by omega
        have hmz : (m : Int) < (sy : Int) := by omega
        obtain ⟨ls, hO, hLk⟩ := HTI.out.own
        obtain ⟨m1, m2⟩ := HM.out m hmo
        have z1 := HZ.out
        have z2 := HA.out
        have d1 := HTI.out.kb.cell (HKA.out.cell (HO.out.cell m hmo) (by simp)) (by show go < _; omega) (by simp; omega)
        have d2 := HTI.out.kb.cell (HB0.out.cell 0 _ rfl) (by show bl < _; omega) (by simp; omega)
        have hnl := hO.sl.1
        have d3 := hO.cell (oi os m) (by omega)
        have d4 := hO.free (oi os m)
        have hv := hLk.at_ m hmo
        rw [if_neg (by omega), Nat.add_zero] at hv
        rw [hv] at d3
        rw [m1] at d1
        have hfm := hple.out m
        have hnew := hLk.step m hmo (by omega) HJ.out
        have HLS : Hid (LkL os (ls.set (oi os m) ((f m : Int) + 1)) (fun r => f r + if r < m + 1 then 1 else 0)) := by
          have e : (fun r => if r = m then (f r + if r < m then 1 else 0) + 1 else f r + if r < m then 1 else 0) = (fun r => f r + if r < m + 1 then 1 else 0) := by
            funext r
            by_cases h1 : r = m
            · rw [if_pos h1, if_neg (by omega), if_pos (by omega)]
            · rw [if_neg h1]
              by_cases h2 : r < m
              · rw [if_pos h2, if_pos (by omega)]
              · rw [if_neg h2, if_neg (by omega)]
          rw [← e]
          have e2 : (f m + if m < m then 1 else 0) = f m := by simp
          rw [e2] at hnew; exact hnew
        have hO3 := hO.store (oi os m) ((f m : Int) + 1) (by simp [Lit.wf, IntKind.min, IntKind.max, IntKind.bits, IntKind.signed]; omega)
        have hKS : Keep [gl] wr (wr.setCell ⟨gl, oi os m, none⟩ (.int .i64 ((f m : Int) + 1))) := (Keep.refl _ _).setCell (.inl (by simp)) _
        have hKBS : KB [gl, bn] w1.heap.size wr (wr.setCell ⟨gl, oi os m, none⟩ (.int .i64 ((f m : Int) + 1))) := KB.of_keep hKS HTI.out.kb.size (fun x hx => .inl (by simp at hx; simp [hx]))
        have HT3 : Hid (TI w1 (wr.setCell ⟨gl, oi os m, none⟩ (.int .i64 ((f m : Int) + 1))) gl bn N os (fun r => f r + if r < m + 1 then 1 else 0) kk) :=
          ⟨HTI.out.kb.trans hKBS, ⟨_, hO3, HLS.out⟩, hKS.cell HTI.out.cell (by simp; omega), by rw [World.frozen?_setCell]; exact HTI.out.free⟩
        have HK3 : Hid (KB [gl, bn] w1.heap.size W (wr.setCell ⟨gl, oi os m, none⟩ (.int .i64 ((f m : Int) + 1)))) := HK1.out.trans hKBS
        have HK4 : Hid (KeepsFrom w1.heap.size W (wr.setCell ⟨gl, oi os m, none⟩ (.int .i64 ((f m : Int) + 1)))) := HK2.out.trans ((KeepsOthers.setCell _ _ _).from _)
        have m2z : ((oi os m : Nat) : Int) < (N : Int) := by omega
        generalize oi os m = s at *
        generalize f m = fm at *
        clear hnew HLS hO3 hKS hKBS hO hLk m1 hv hnl z1 z2 HTI HK1 HK2
        gi_wp2
        go_roundw
        case rel => exact ⟨m + 1, by omega, by go_num, HT3, HK3, HK4⟩
        case measure => simp [intOf]; omega
      · obtain rfl : m = sy := by omega
        have d1 := HTI.out.cell
        have d2 := HTI.out.free
        have z1 := HZ.out
        have z2 := HA.out
        obtain ⟨ls, hO, hLk⟩ := HTI.out.own
        have hKS : Keep [bn] wr (wr.setCell ⟨bn, 0, none⟩ (.int .i64 nd)) := (Keep.refl _ _).setCell (.inl (by simp)) _
        have hKBS : KB [gl, bn] w1.heap.size wr (wr.setCell ⟨bn, 0, none⟩ (.int .i64 nd)) := KB.of_keep hKS HTI.out.kb.size (fun x hx => .inl (by simp at hx; simp [hx]))
        have HF : Hid (TI w1 (wr.setCell ⟨bn, 0, none⟩ (.int .i64 nd)) gl bn N os (pl L c K (k + 1)) (K (L - (k + 1)))) := HFIN.out _ ⟨HTI.out.kb.trans hKBS, ⟨_, hO.keep hKS (by simp [Value.ownBlock]; omega), hLk⟩, World.cell?_setCell_same' _ _ _ (by rw [d1]; rfl), by rw [World.frozen?_setCell]; exact d2⟩
        have HK3 : Hid (KB [gl, bn] w1.heap.size W (wr.setCell ⟨bn, 0, none⟩ (.int .i64 nd))) := HK1.out.trans hKBS
        have HK4 : Hid (KeepsFrom w1.heap.size W (wr.setCell ⟨bn, 0, none⟩ (.int .i64 nd))) := HK2.out.trans ((KeepsOthers.setCell _ _ _).from _)
        clear hKS hKBS hO hLk z1 z2 HTI HK1 HK2
        gi_wp2
        exact ⟨HK4.out, HK3.out, HF.out⟩
  case done =>
    intro D W hD hT hK
    gi_wp2
    obtain ⟨ls, hO, hLk⟩ := hT.own
    rw [down_len] at hLk
    have hg := grownBy_putObj' W D (.deferred none)
    have hz := HZ.out
    have ha := HA.out
    have kW := keep_row hg
    refine ⟨by simp, .inl ⟨_, _, rfl, run_takeDeferred hK, ?_⟩⟩
    refine ⟨_, results_none rfl _ _ _, rfl, ls, hO.keep kW (fun b hb => by simp [Value.ownBlock] at hb; subst hb; simp; omega), ?_, by rw [show pmLen c K L = pl L c K L from (funext (pl_all L c K)).symm]; exact hLk⟩
    have hK1 := HKA.out
    refine ⟨(kW.os.trans hT.kb.os).trans hK1.os, (kW.tape.trans hT.kb.tape).trans hK1.tape, (kW.output.trans hT.kb.output).trans hK1.output, Nat.le_trans hK1.size (Nat.le_trans hT.kb.size kW.size), fun x hx hn => ?_⟩
    have hxg : x ≠ gl := by simpa using hn
    rw [kW.block x (by have := hT.kb.size; have := hK1.size; omega) (by simp; omega), hT.kb.block x (by have := hK1.size; omega) (by simp; omega), hK1.block x hx (by simp)]
end Go.Proofs.YtibkepjbblfkoaaGreatDoor
namespace Go.Proofs.YtibkepjbblfkoaaGreatDoor
set_option linter.unusedVariables false
set_option linter.unusedSimpArgs false
open Go.ChangeShapes Go.WideShapes Go.ChangeAt Go.RowKit

/-- ls are best lengths of the frequencies zs -/
def BestL (zs ls : List Int) (most : Int) : Prop := ls.length = zs.length ∧ (∀ z ∈ ls, 0 ≤ z ∧ z ≤ 16) ∧ Good zs.length (fn zs) most.toNat (fn ls)
/-- how many of a row are taken, from the last row on -/
def Kd (n L : Nat) (c : Nat → Nat → Nat) : Nat → Nat
  | 0 => 2 * n - 2
  | i + 1 => 2 * (Kd n L c i - c (L - i) (Kd n L c i))
theorem pck_made (n L : Nat) (c : Nat → Nat → Nat) : Pck n L c (fun j => Kd n L c (L - j)) := by
  refine ⟨by simp [Kd], fun j hj => ?_⟩
  show Kd n L c (L - j) = 2 * (Kd n L c (L - (j + 1)) - c (j + 1) (Kd n L c (L - (j + 1))))
  rw [show L - j = (L - (j + 1)) + 1 by omega, Kd, show L - (L - (j + 1)) = j + 1 by omega]
/-- the symbols in os, the seldomest first -/
def ordOf (os : List Int) : List Nat := os.map Int.toNat
theorem ordOf_get (os : List Int) (r : Nat) (h : r < os.length) : (ordOf os).getD r 0 = oi os r := by
  unfold ordOf oi zn
  simp [List.getD_eq_getElem?_getD, h]
theorem ordOf_len (os : List Int) : (ordOf os).length = os.length := by simp [ordOf]
theorem ordOf_row {zs os : List Int} (h : os.Perm (ords zs zs.length)) : RowOf zs.length (fn zs) (ordOf os) := by
  have hp : (ordOf os).Perm ((List.range zs.length).filter fun i => decide (fn zs i ≠ 0)) := by
    have := h.map Int.toNat
    unfold ords at this
    rw [List.map_map] at this
    have e : (Int.toNat ∘ Int.ofNat) = id := by funext x; simp
    rw [e, List.map_id] at this
    exact this
  have hm := RowOf.made zs.length (fn zs)
  exact ⟨hp.nodup_iff.2 hm.1, fun i => by rw [hp.mem_iff]; exact hm.2 i⟩
section
variable {zs os : List Int}
theorem os_at (h : os.Perm (ords zs zs.length)) (r : Nat) (hr : r < os.length) : zn os r = (oi os r : Int) ∧ oi os r < zs.length := by
  have hm := ords_mem zs zs.length (zn os r) (h.mem_iff.1 (by rw [zn_get os r hr]; exact List.getElem_mem hr))
  unfold oi; omega
theorem os_inj (h : os.Perm (ords zs zs.length)) (r r' : Nat) (hr : r < os.length) (hr' : r' < os.length) (he : oi os r = oi os r') : r = r' := by
  have hn := (ordOf_row h).1
  have h1 := ordOf_get os r hr
  have h2 := ordOf_get os r' hr'
  have hl := ordOf_len os
  rw [List.getD_eq_getElem?_getD, List.getElem?_eq_getElem (by omega)] at h1 h2
  simp only [Option.getD_some] at h1 h2
  have hpw := List.pairwise_iff_getElem.1 hn
  rcases Nat.lt_trichotomy r r' with h3 | h3 | h3
  · exact absurd (by rw [h1, h2, he]) (hpw r r' (by omega) (by omega) h3)
  · exact h3
  · exact absurd (by rw [h1, h2, he]) (hpw r' r (by omega) (by omega) h3)
theorem zn_oi_out (h : os.Perm (ords zs zs.length)) (i : Nat) (hi : i < zs.length) (h0 : fn zs i = 0) : ∀ r, r < os.length → oi os r ≠ i := by
  intro r hr e
  have hm := (ordOf_row h).mem r (by rw [ordOf_len]; exact hr)
  rw [ordOf_get os r hr, e] at hm
  exact hm.2 h0
theorem best_few {ls : List Int} {M : Nat} (hM1 : 1 ≤ M) (hP : os.Perm (ords zs zs.length)) (hn : os.length ≤ 1) (hll : ls.length = zs.length) (hl : ∀ i, i < zs.length → zn ls i = if fn zs i = 0 then 0 else 1) : BestL zs ls M := by
  refine ⟨hll, fun z hz => ?_, ?_⟩
  · obtain ⟨i, hi, rfl⟩ := List.getElem_of_mem hz
    rw [← zn_get ls i hi, hl i (by omega)]
    split <;> omega
  · refine Good.of_few (by simpa using hM1) ?_ (fun i hi => ?_)
    · rw [(ordOf_row hP).used, ordOf_len]; exact hn
    · have := hl i hi
      by_cases h0 : fn zs i = 0
      · rw [if_pos h0] at this ⊢; exact fn_of_zn ls i 0 this
      · rw [if_neg h0] at this ⊢; exact fn_of_zn ls i 1 this
theorem best_pm {ls ws : List Int} {M : Nat} (hM : M ≤ 16) (hP : os.Perm (ords zs zs.length)) (hn : 2 ≤ os.length) (hn2 : os.length ≤ 2 ^ M) (hok : okF zs = true) (hS : Srt (fun x => zn zs x.toNat) os 0 os.length)
    (hwl : ws.length = os.length) (hw : ∀ i, i < os.length → zn ws i = zn zs (zn os i).toNat) :
    Lvs (fun r => fn zs ((ordOf os).getD r 0)) os.length M (lvW (fn ws) ws.length) (lvC (fn ws) ws.length) (lvT ws.length) ∧
    (ls.length = zs.length → LkL os ls (pmLen (lvC (fn ws) ws.length) (fun j => Kd os.length M (lvC (fn ws) ws.length) (M - j)) M) → BestL zs ls M) := by
  have hrow := ordOf_row hP
  have hzz : ∀ i, i < zs.length → zn zs i = (fn zs i : Int) := fun i hi => by rw [zn_get zs i hi]; exact (okF_get hok i hi).1
  have hL : Lvs (fun r => fn zs ((ordOf os).getD r 0)) os.length M (lvW (fn ws) ws.length) (lvC (fn ws) ws.length) (lvT ws.length) := by
    rw [hwl]
    refine lvs_made _ _ _ _ (fun i hi => ?_) (fun i j hij hj => ?_) (fun r hr => ?_)
    · show fn ws i = fn zs ((ordOf os).getD i 0)
      rw [ordOf_get os i hi]
      refine fn_of_zn ws i _ ?_
      rw [hw i hi]
      exact hzz _ (os_at hP i hi).2
    · show fn zs ((ordOf os).getD i 0) ≤ fn zs ((ordOf os).getD j 0)
      rw [ordOf_get os i (by omega), ordOf_get os j hj]
      have h1 := hS i j (Nat.zero_le _) hij hj
      have h2 := hzz _ (os_at hP i (by omega)).2
      have h3 := hzz _ (os_at hP j hj).2
      have h4 : zn zs (oi os i) ≤ zn zs (oi os j) := h1
      omega
    · have := (hrow.mem r (by rw [ordOf_len]; exact hr)).2
      show 0 < fn zs ((ordOf os).getD r 0)
      omega
  refine ⟨hL, fun hll hk => ?_⟩
  have hp := pck_made os.length M (lvC (fn ws) ws.length)
  refine ⟨hll, fun z hz => ?_, ?_⟩
  · obtain ⟨i, hi, rfl⟩ := List.getElem_of_mem hz
    rw [← zn_get ls i hi]
    by_cases h : ∃ r, r < os.length ∧ oi os r = i
    · obtain ⟨r, hr, rfl⟩ := h
      rw [hk.at_ r hr]
      have := pmLen_le (c := lvC (fn ws) ws.length) (K := fun j => Kd os.length M (lvC (fn ws) ws.length) (M - j)) (L := M) r
      omega
    · rw [hk.out i (fun r hr e => h ⟨r, hr, e⟩)]; omega
  · have hl2 : os.length = (ordOf os).length := (ordOf_len os).symm
    refine Good.of_pm (ordOf os) hrow (by simpa using hM) (by omega) (by simpa [← hl2] using hn2) _ _ _ _ (by rw [← hl2]; exact hL) (by rw [← hl2]; exact hp) (fun i hi h0 => ?_) (fun r hr => ?_)
    · exact fn_of_zn ls i 0 (hk.out i (zn_oi_out hP i hi h0))
    · rw [ordOf_get os r (by omega)]
      exact fn_of_zn ls _ _ (hk.at_ r (by omega))
end
/-- the lengths that Lengths answers, and no others -/
def LimP (zs : List Int) (M : Nat) (ls : List Int) : Prop := ls.length = zs.length ∧ ∃ os : List Int, os.Perm (ords zs zs.length) ∧ Srt (lkey zs) os 0 os.length ∧
  (os.length ≤ 1 → ∀ i, i < zs.length → zn ls i = if fn zs i = 0 then 0 else 1) ∧
  (2 ≤ os.length → LkL os ls (pmLen (lvC (fn (os.map fun x => zn zs x.toNat)) os.length) (fun j => Kd os.length M (lvC (fn (os.map fun x => zn zs x.toNat)) os.length) (M - j)) M))
theorem os_one {zs os os' : List Int} (hz : zs.length ≤ 4096) (h : os.Perm (ords zs zs.length)) (h' : os'.Perm (ords zs zs.length)) (s : Srt (lkey zs) os 0 os.length) (s' : Srt (lkey zs) os' 0 os'.length) : os = os' := by
  have pw : ∀ l : List Int, Srt (lkey zs) l 0 l.length → l.Pairwise (fun x y => lkey zs x ≤ lkey zs y) := fun l hs => by
    rw [List.pairwise_iff_getElem]
    intro i j hi hj hij
    have := hs i j (Nat.zero_le _) (by omega) hj
    rw [zn_get _ i hi, zn_get _ j hj] at this
    exact this
  refine List.Perm.eq_of_pairwise (fun x y hx hy h1 h2 => ?_) (pw os s) (pw os' s') (h.trans h'.symm)
  have m1 := ords_mem zs _ x (h.mem_iff.1 hx)
  have m2 := ords_mem zs _ y (h'.mem_iff.1 hy)
  exact lkey_inj zs x y (by omega) (by omega) (by omega)
theorem LimP.one {zs ls ls' : List Int} {M : Nat} (hz : zs.length ≤ 4096) (h : LimP zs M ls) (h' : LimP zs M ls') : ls = ls' := by
  obtain ⟨e1, os, p1, s1, a1, b1⟩ := h
  obtain ⟨e2, os', p2, s2, a2, b2⟩ := h'
  obtain rfl := os_one hz p1 p2 s1 s2
  refine List.ext_getElem (by omega) (fun i hi hi' => ?_)
  rw [← zn_get ls i hi, ← zn_get ls' i hi']
  by_cases h1 : os.length ≤ 1
  · rw [a1 h1 i (by omega), a2 h1 i (by omega)]
  · have c1 := b1 (by omega)
    have c2 := b2 (by omega)
    by_cases hr : ∃ r, r < os.length ∧ oi os r = i
    · obtain ⟨r, hr, rfl⟩ := hr
      rw [c1.at_ r hr, c2.at_ r hr]
    · rw [c1.out i (fun r hr' e => hr ⟨r, hr', e⟩), c2.out i (fun r hr' e => hr ⟨r, hr', e⟩)]
/-- the lengths that Lengths answers -/
noncomputable def limL (zs : List Int) (M : Nat) : List Int := by
  classical exact if h : ∃ ls, LimP zs M ls then h.choose else []
theorem LimP.is {zs ls : List Int} {M : Nat} (hz : zs.length ≤ 4096) (h : LimP zs M ls) : ls = limL zs M := by
  have he : ∃ ls, LimP zs M ls := ⟨ls, h⟩
  unfold limL
  rw [dif_pos he]
  exact h.one hz he.choose_spec
set_option maxRecDepth 100000 in
set_option maxHeartbeats 4000000 in
theorem lim_own (w : World) (v : Value) (zs : List Int) (most : Int) (h : Is .i64 w v zs) (hmost : (Lit.int .i64 most).wf = true) : Calls Tryz.prog 46 #[v, .int .i64 most] w fun e w' => ∃ v' ls er, e = .returned (.tuple #[v', .int .i64 er]) ∧ Is .i64 w' v' ls ∧ Keep [] w w' ∧ (mayF zs most = false → er = 2 ∧ ls = []) ∧ (mayF zs most = true → er = 0 ∧ BestL zs ls most ∧ LimP zs most.toNat ls) ∧ (∀ b, v'.ownBlock = some b → w.heap.size ≤ b) := by
  have HIS := Lib.hid (fun w' (k : Keep [] w w') => h.keep k (by simp))
  obtain ⟨a, cap, rfl, hl⟩ := h.sh
  have HMB := Lib.hid (maybe_c w _ zs most h)
  clear h
  cases hmay : mayF zs most with
  | false =>
    rw [hmay] at HMB
    go_enter Tryz.func46, Tryz.ntmps46
    go_wp2_with fail
    refine HMB.out.mono ?_; rintro e w1 ⟨rfl, n1, rfl⟩
    go_wp2_with fail
    go_ret2
    exact ⟨_, [], 2, rfl, ⟨none, 0, rfl, by simp, by simp, fun _ => rfl, (fun x hx => nomatch hx), by simp⟩, (Keep.refl [] w).drewN _, fun _ => ⟨rfl, rfl⟩, fun h => by simp at h, fun b hb => by simp [Value.ownBlock] at hb⟩
  | true =>
    rw [hmay] at HMB
    obtain ⟨m1, m2, m3, hok, m5⟩ := (mayF_iff zs most).1 hmay
    obtain ⟨M, rfl⟩ : ∃ M : Nat, most = M := ⟨most.toNat, by omega⟩
    simp only [Int.toNat_natCast] at m5
    have HOK := Lib.hid hok
    have HU := Lib.hid m5
    have hmk := fun w' => run_make_intsC w' zs.length zs.length (Nat.le_refl _) (by omega)
    clear hok m5 hmost hmay
    go_enter Tryz.func46, Tryz.ntmps46
    go_wp2_with fail
    refine HMB.out.mono ?_; rintro e w1 ⟨rfl, n1, rfl⟩
    clear HMB
    go_wp2_with fail
    clear hmk
    have K0 : Keep [] w ((w.drewN n1).alloc (.cells (madeCells #[.int .i64 0] zs.length) 3)) := ((Keep.refl [] w).drewN _).alloc _
    have hO := OwnI.made (w.drewN n1) zs.length (by omega)
    rw [show (w.drewN n1).heap.size = w.heap.size from rfl] at hO
    have HSZ : Hid (((w.drewN n1).alloc (.cells (madeCells #[.int .i64 0] zs.length) 3)).heap.size = w.heap.size + 1) := by
      have : (w.drewN n1).heap.size = w.heap.size := rfl
      unfold Hid; simp [this]
    generalize (w.drewN n1).alloc (.cells (madeCells #[.int .i64 0] zs.length) 3) = w2 at K0 hO HSZ ⊢
    obtain ⟨gl, hgl⟩ : ∃ x, w.heap.size = x := ⟨_, rfl⟩
    rw [hgl] at hO ⊢
    have HGL := Lib.hid hgl
    have HRI := Lib.hid (rising_c w2 _ zs m3 (HIS.out w2 K0))
    clear hgl
    refine HRI.out.mono ?_
    rintro e w3 ⟨go, co, os, rfl, O3, K3, hgo, P3, S3, S4⟩
    have K03 : Keep [] w w3 := K0.trans K3 (by simp)
    have hO3 := hO.keep K3 (by simp)
    have HP := Lib.hid P3
    have HS := Lib.hid S3
    have HS4 := Lib.hid S4
    have HSL := Lib.hid O3.sl
    have hug : os.length ≤ 2 ^ M := by
      have h1 := (ordOf_row P3).used
      rw [ordOf_len] at h1
      have := HU.out; omega
    have hon : os.length ≤ 4096 := by
      have h1 := P3.length_eq
      have h2 := ords_len zs zs.length
      omega
    have hgne : gl ≠ go := by have := HSZ.out; have := HGL.out; omega
    have HUG := Lib.hid hug
    clear hug hO K0 K3 HRI P3 S3 S4 HU
    by_cases hn0 : os.length = 0
    · have hb1 : ((os.length : Int) == 1) = false := by rw [beq_eq_false_iff_ne]; omega
      have hb2 : ¬ (os.length : Int) > 1 := by omega
      have hfew : ∀ i, i < zs.length → zn (List.replicate zs.length 0) i = if fn zs i = 0 then 0 else 1 := (fun i hi => by
        rw [zn_rep]
        by_cases h0 : fn zs i = 0
        · rw [if_pos h0]
        · exfalso
          have hm := ((ordOf_row HP.out).2 i).2 ⟨hi, h0⟩
          have : ordOf os = [] := by rw [← List.length_eq_zero_iff, ordOf_len]; exact hn0
          rw [this] at hm; cases hm)
      have HB : Hid (BestL zs (List.replicate zs.length 0) M ∧ LimP zs ((M : Int).toNat) (List.replicate zs.length 0)) := ⟨best_few (by omega) HP.out (by omega) (by simp) hfew, by simp, os, HP.out, HS4.out, fun _ => hfew, fun h => by omega⟩
      clear hfew
      have HI := Lib.hid hO3.is
      go_wp2_with fail
      go_ret2
      exact ⟨_, _, 0, rfl, HI.out, K03, fun h => by simp at h, fun _ => ⟨rfl, HB.out⟩, fun b hb => by have := HGL.out; simp [Value.ownBlock] at hb; omega⟩
    · by_cases hn1 : os.length = 1
      · obtain ⟨q1, q2⟩ := os_at HP.out 0 (by omega)
        have hb1 : ((os.length : Int) == 1) = true := by rw [beq_iff_eq]; omega
        have hb2 : ¬ (os.length : Int) > 1 := by omega
        have d1 := O3.cell 0 (by omega)
        rw [q1] at d1
        have d2 := hO3.cell (oi os 0) (by simpa using q2)
        have d3 := hO3.free (oi os 0)
        have hfew : ∀ i, i < zs.length → zn ((List.replicate zs.length 0).set (oi os 0) 1) i = if fn zs i = 0 then 0 else 1 := (fun i hi => by
          rw [zn_set _ _ _ _ (by simpa using q2), zn_rep]
          by_cases h0 : fn zs i = 0
          · rw [if_pos h0, if_neg (fun e => zn_oi_out HP.out i hi h0 0 (by omega) e.symm)]
          · rw [if_neg h0]
            have hm := ((ordOf_row HP.out).2 i).2 ⟨hi, h0⟩
            obtain ⟨r, hr, e⟩ := List.getElem_of_mem hm
            rw [ordOf_len] at hr
            have h1 := ordOf_get os r hr
            rw [List.getD_eq_getElem?_getD, List.getElem?_eq_getElem (by rw [ordOf_len]; exact hr), Option.getD_some, e, show r = 0 by omega] at h1
            rw [if_pos h1])
        have HB : Hid (BestL zs ((List.replicate zs.length 0).set (oi os 0) 1) M ∧ LimP zs ((M : Int).toNat) ((List.replicate zs.length 0).set (oi os 0) 1)) := ⟨best_few (by omega) HP.out (by omega) (by simp) hfew, by simp, os, HP.out, HS4.out, fun _ => hfew, fun h => by omega⟩
        clear hfew
        have HI := Lib.hid (hO3.store (oi os 0) 1 (by decide)).is
        have K4 : Keep [] w (w3.setCell ⟨gl, oi os 0, none⟩ (.int .i64 1)) := K03.setCell (.inr (by have := HGL.out; simp; omega)) _
        have q2z : ((oi os 0 : Nat) : Int) < (zs.length : Int) := by omega
        have hn1z : (0 : Int) < (os.length : Int) := by omega
        generalize oi os 0 = s at *
        clear q1 hO3 O3 hn0
        go_wp2_with fail
        go_ret2
        exact ⟨_, _, 0, rfl, HI.out, K4, fun h => by simp at h, fun _ => ⟨rfl, HB.out⟩, fun b hb => by have := HGL.out; simp [Value.ownBlock] at hb; omega⟩
      · have hb1 : ((os.length : Int) == 1) = false := by rw [beq_eq_false_iff_ne]; omega
        have hb2 : (os.length : Int) > 1 := by omega
        have HW := Lib.hid (weights_c w3 _ _ zs os (by omega) (HIS.out w3 K03) O3.is (fun i hi => by have := os_at HP.out i hi; omega))
        have HK03 := Lib.hid K03
        have HO3 := Lib.hid O3
        have HL3 := Lib.hid hO3
        clear K03 O3 hO3
        go_wp2_with fail
        refine HW.out.mono ?_
        rintro e w4 ⟨gw, ws, rfl, O4, K4, hgw, E4⟩
        have hwl : ws.length = os.length := O4.sl.1.symm
        have HWS : Hid (ws = os.map fun x => zn zs x.toNat) := List.ext_getElem (by simpa using hwl) (fun i h1 h2 => by
          rw [← zn_get ws i h1, E4 i (by omega), List.getElem_map, zn_get os i (by omega)])
        have HF : Hid (∀ i, 0 ≤ zn ws i ∧ zn ws i ≤ 1099511627776) := fun i => by
          by_cases hi : i < os.length
          · rw [E4 i hi]
            have h1 := (os_at HP.out i hi).2
            have h2 := okF_get HOK.out (oi os i) h1
            rw [← zn_get zs _ h1] at h2
            have h3 : zn zs (zn os i).toNat = zn zs (oi os i) := rfl
            rw [h3]; omega
          · rw [zn_out ws i (by omega)]; omega
        have HRW := Lib.hid (rows_c w4 _ ws M (by omega) (by omega) O4.is HF.out)
        have HK4 : Hid (Keep [] w w4) := HK03.out.trans K4 (by simp)
        have HO4 := Lib.hid (HO3.out.keep K4 (by simp))
        have HL4 := Lib.hid (HL3.out.keep K4 (by simp))
        have HPM := Lib.hid (fun ls => best_pm (ls := ls) (M := M) (by omega) HP.out (by omega) HUG.out HOK.out HS.out hwl E4)
        have hwz : (ws.length : Int) = (os.length : Int) := by omega
        have HWL := Lib.hid hwl
        have hgc3 : w3.heap.size ≤ w4.heap.size := K4.size
        have HGC : Hid (w2.heap.size ≤ w4.heap.size) := by
          have := HSZ.out; have h2 := HL4.out.sl.2.2.2; have := HGL.out; unfold Hid; omega
        clear O4 K4 E4 HW HK03 HO3 HL3 hgw hwl hgc3 HF hwz
        go_wp2_with fail
        refine HRW.out.mono ?_
        rintro e w5 ⟨gc, rfl, C5, K5, hgc⟩
        have hLv := (HPM.out []).1
        have hPk := pck_made os.length M (lvC (fn ws) ws.length)
        have HTK := Lib.hid (take_c w5 gl go gc zs.length co M os (lvT ws.length) (lvC (fn ws) ws.length) (fun j => Kd os.length M (lvC (fn ws) ws.length) (M - j)) (by omega) (by omega) (by omega) hon HSL.out.2.1
          (HL4.out.keep K5 (by simp)) (HO4.out.keep K5 (by simp)) C5 hgne (by have := HL4.out.sl.2.2.2; omega) (fun r hr => os_at HP.out r hr) (fun r r' h1 h2 h3 => os_inj HP.out r r' h1 h2 h3)
          hPk.top hPk.down (fun j hj => by
            have h1 := hPk.le' hLv HUG.out (j + 1) (by omega)
            have h2 := hPk.vn hLv HUG.out j hj
            have h3 := lvT_le ws.length (j + 1)
            have := HWL.out
            exact ⟨h1, h2.1, h2.2, by omega⟩))
        have HK5 : Hid (Keep [] w w5) := HK4.out.trans K5 (by simp)
        clear C5 K5 hgc hLv hPk HRW HK4 HO4 HL4
        go_wp2_with fail
        refine HTK.out.mono ?_
        rintro e w6 ⟨rfl, ls, O6, K6, L6⟩
        have HBF : Hid (BestL zs ls M ∧ LimP zs ((M : Int).toNat) ls) := ⟨(HPM.out ls).2 O6.sl.1.symm L6, O6.sl.1.symm, os, HP.out, HS4.out, fun h => by omega, fun _ => by
          have := L6
          rw [HWL.out, HWS.out] at this
          exact this⟩
        have HI6 := Lib.hid O6.is
        have hl6 : ls.length = zs.length := O6.sl.1.symm
        have HK6 : Hid (Keep [] w w6) := HK5.out.trans K6 (fun x hx => .inr (by have := HGL.out; simp at hx; omega))
        clear O6 K6 L6 hl6 HTK HPM
        go_wp2_with fail
        go_ret2
        exact ⟨_, ls, 0, rfl, HI6.out, HK6.out, fun h => by simp at h, fun _ => ⟨rfl, HBF.out⟩, fun b hb => by have := HGL.out; simp [Value.ownBlock] at hb; omega⟩
theorem lim_lengths (w : World) (v : Value) (zs : List Int) (most : Int) (h : Is .i64 w v zs) (hmost : (Lit.int .i64 most).wf = true) : Calls Tryz.prog 46 #[v, .int .i64 most] w fun e w' => ∃ v' ls er, e = .returned (.tuple #[v', .int .i64 er]) ∧ Is .i64 w' v' ls ∧ Keep [] w w' ∧ (mayF zs most = false → er = 2 ∧ ls = []) ∧ (mayF zs most = true → er = 0 ∧ BestL zs ls most ∧ LimP zs most.toNat ls) := by
  refine (lim_own w v zs most h hmost).mono ?_
  rintro e w' ⟨v', ls, er, a, b, c, d, f, _⟩
  exact ⟨v', ls, er, a, b, c, d, f⟩
end Go.Proofs.YtibkepjbblfkoaaGreatDoor
