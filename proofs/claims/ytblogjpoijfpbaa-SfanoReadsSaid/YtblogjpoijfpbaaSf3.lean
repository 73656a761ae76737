/- Contract of sfano's Codes. -/
import Derived.Test.YtblogjpoijfpbaaSfIter2
import Derived.Test.YtblogjpoijfpbaaRefSf2
import Derived.Test.YtblogjpoijfpbaaRefCan
import Derived.Test.YtblogjpoijfpbaaBitTurn
import Derived.Test.YtblogjpoijfpbaaRound
namespace Go.Proofs.Ytblogjpoijfpbaa
set_option linter.unusedVariables false
set_option linter.unusedSimpArgs false
open Go.ChangeShapes Go.WideShapes Go.ChangeAt Go.RowKit Go.Shelf
attribute [local go_sem] Oper.semAt_some

/-- the words of the symbols ks stand in their cells -/
structure CsM (cs : Array Value) (L : List Nat) (ks : List Nat) : Prop where
  size : cs.size = L.length * 2
  at_ : ∀ j, j ∈ ks → cs[j * 2]? = some (.int .u32 (scode L j)) ∧ cs[j * 2 + 1]? = some (.int .i64 (len L j))
theorem CsM.made (L : List Nat) : CsM (madeCells #[.int .u32 0, .int .i64 0] (L.length * 2)) L [] := ⟨by rw [size_madeCells], fun j hj => by cases hj⟩
theorem CsM.take {cs : Array Value} {L ks : List Nat} (h : CsM cs L ks) (k : Nat) (hk : k < L.length) :
    CsM ((cs.setIfInBounds (k * 2) (.int .u32 (scode L k))).setIfInBounds (k * 2 + 1) (.int .i64 (len L k))) L (ks ++ [k]) := by
  refine ⟨by simpa using h.size, fun j hj => ?_⟩
  have hs := h.size
  simp only [Array.getElem?_setIfInBounds, Array.size_setIfInBounds]
  by_cases e : j = k
  · subst e
    simp [hs]
    omega
  · have a1 : ¬ k * 2 + 1 = j * 2 := by omega
    have a2 : ¬ k * 2 = j * 2 := by omega
    have a3 : ¬ k * 2 + 1 = j * 2 + 1 := by omega
    have a4 : ¬ k * 2 = j * 2 + 1 := by omega
    simp only [if_neg a1, if_neg a2, if_neg a3, if_neg a4]
    exact h.at_ j (by rcases List.mem_append.1 hj with h1 | h1; exact h1; simp at h1; exact absurd h1 e)
theorem lt_of_cell' {w : World} {a : Addr} {v : Value} (h : w.cell? a = some v) : a.block < w.heap.size := by
  apply Decidable.byContradiction
  intro hn
  have : w.heap[a.block]? = none := by rw [Array.getElem?_eq_none_iff]; omega
  simp [World.cell?, this] at h
theorem addr0' (g m : Nat) : ((⟨g, 0, none⟩ : Addr).add m) = ⟨g, m, none⟩ := by cases m <;> simp [Addr.add]
theorem CsM.cds {w : World} {b : Nat} {cs : Array Value} {L ks : List Nat} (hb : Blk w b cs 61) (h : CsM cs L ks) (hall : ∀ j, j < L.length → j ∈ ks) (hm : L.length ≤ maxLen) : Cds6 w (.slice (some ⟨b, 0, none⟩) L.length L.length) L := by
  refine ⟨some ⟨b, 0, none⟩, L.length, rfl, Nat.le_refl _, hm, (fun h => nomatch h), fun x hx i hi j hj => ?_⟩
  obtain rfl : (⟨b, 0, none⟩ : Addr) = x := by simpa using hx
  rw [addr0']
  obtain ⟨h1, h2⟩ := h.at_ i (hall i hi)
  obtain rfl | rfl : j = 0 ∨ j = 1 := by omega
  · exact hb.cell _ _ h1
  · exact hb.cell _ _ h2
set_option maxRecDepth 100000 in
set_option maxHeartbeats 4000000 in
theorem codes_arg (w : World) (v : Value) (zs : List Int) (h : Is .i64 w v zs) (hm : mayS zs = false) : Calls Try.prog 10 #[v] w fun e w' => e = .returned (.tuple #[.slice none 0 0, .int .i64 2]) ∧ Keep [] w w' := by
  obtain ⟨a, cap, rfl, hl⟩ := h.sh
  have K := ((Keep.refl [] w).alloc (.cells #[.slice a zs.length cap] 22))
  have HM := Lib.hid (smaybe_c _ _ zs (h.keep K (by simp)))
  rw [hm] at HM
  clear h
  go_enter Try.func10, Try.ntmps10
  go_wp2_with fail
  refine HM.out.mono ?_; rintro e w1 ⟨rfl, n, rfl⟩
  clear HM
  go_wp2_with fail
  go_ret2
  exact ⟨rfl, K.drewN n⟩
set_option maxRecDepth 100000 in
set_option maxHeartbeats 4000000 in
theorem codes_tree (w : World) (v : Value) (zs : List Int) (h : Is .i64 w v zs) (hm : mayS zs = true) (ht : tot16 (Ln zs) ≠ 65536) : Calls Try.prog 10 #[v] w fun e w' => e = .returned (.tuple #[.slice none 0 0, .int .i64 6]) ∧ Keep [] w w' := by
  obtain ⟨a, cap, rfl, hl⟩ := h.sh
  have K := ((Keep.refl [] w).alloc (.cells #[.slice a zs.length cap] 22))
  have HM := Lib.hid (smaybe_c _ _ zs (h.keep K (by simp)))
  have HW := Lib.hid (fun n => sweight_c _ _ zs (h.keep (K.drewN n) (by simp)) hm)
  have B1 := (Blk.new w #[.slice a zs.length cap] 22).cell 0 (.slice a zs.length cap) rfl
  have hne : (((tot16 (Ln zs) : Nat) : Int) == 65536) = false := by rw [beq_eq_false_iff_ne]; omega
  rw [hm] at HM
  clear h
  generalize tot16 (Ln zs) = t at *
  clear ht
  go_enter Try.func10, Try.ntmps10
  go_wp2_with fail
  refine HM.out.mono ?_; rintro e w1 ⟨rfl, n, rfl⟩
  clear HM
  go_wp2_with fail
  refine (HW.out n).mono ?_; rintro e w1 ⟨rfl, m, rfl⟩
  clear HW
  go_wp2_with fail
  go_ret2
  exact ⟨rfl, K.drewN (n + m)⟩
set_option maxRecDepth 100000 in
set_option maxHeartbeats 4000000 in
theorem codes_ok (w : World) (v : Value) (zs : List Int) (h : Is .i64 w v zs) (hm : mayS zs = true) (ht : tot16 (Ln zs) = 65536) : Calls Try.prog 10 #[v] w fun e w' => ∃ b, e = .returned (.tuple #[.slice (some ⟨b, 0, none⟩) (Ln zs).length (Ln zs).length, .int .i64 0]) ∧ Cds6 w' (.slice (some ⟨b, 0, none⟩) (Ln zs).length (Ln zs).length) (Ln zs) ∧ Keep [] w w' ∧ w.heap.size ≤ b := by
  have HG := Lib.hid (fun i hi => mayS_get hm i hi)
  have hlen := ((mayS_iff zs).1 hm).2.1
  have hlen0 := ((mayS_iff zs).1 hm).1
  have hN := Ln_length zs
  obtain ⟨a, cap, rfl, hl⟩ := h.sh
  have K := ((Keep.refl [] w).alloc (.cells #[.slice a zs.length cap] 22))
  have hI := h.keep K (by simp)
  have HM := Lib.hid (smaybe_c _ _ zs hI)
  have HW := Lib.hid (fun n => sweight_c _ _ zs (h.keep (K.drewN n) (by simp)) hm)
  have B1 := Blk.new w #[.slice a zs.length cap] 22
  obtain ⟨g, off, hag, HV⟩ : ∃ g off, a = some ⟨g, off, none⟩ ∧ Hid (∀ j, j < (Ln zs).length → w.cell? ⟨g, off + j, none⟩ = some (.int .i64 (len (Ln zs) j))) := by
    obtain ⟨g, off, cap', e1, e2⟩ := h.at 0 (by omega)
    simp only [Value.slice.injEq] at e1
    refine ⟨g, off, e1.1, fun j hj => ?_⟩
    obtain ⟨g', off', cap2, e3, e4⟩ := h.at j (by omega)
    simp only [Value.slice.injEq] at e3
    rw [e1.1] at e3
    obtain ⟨⟨rfl, rfl⟩, _⟩ : (g = g' ∧ off = off') ∧ True := by have := e3.1; simp at this; exact ⟨this, trivial⟩
    rw [e4, (HG.out j (by omega)).1]
  subst hag
  have hgw : g < w.heap.size := by have := HV.out 0 (by omega); exact lt_of_cell' this
  have HL := Lib.hid (fun t ht' => (HG.out t ht').2)
  rw [hm] at HM
  rw [ht] at HW
  clear h hI hm HG
  rw [← hN] at HL
  rw [← hN]
  have c1 := B1.cell 0 _ rfl
  rw [← hN] at c1 hl hlen hlen0 K B1
  have hlenz : zs.length ≤ 256 := by omega
  generalize Ln zs = L at *
  rw [← hN] at HM HW
  clear hN
  refine (callsIn_wide (n := 5)).1 ?_
  refine callsIn_of_wp_marks Try.func10 rfl trivial ?_ rfl
  simp only [Try.ntmps10, List.size_toArray, List.length_cons, List.length_nil, Nat.reduceAdd, Nat.reduceSub, Array.replicate_succ, Array.replicate_zero, List.push_toArray, List.append_toArray, List.nil_append, List.cons_append]
  gi_wp2_with fail
  refine ⟨trivial, (callsIn_wide.2 HM.out).mono ?_⟩
  rintro e w1 ⟨rfl, n, rfl⟩
  clear HM
  gi_wp2_with fail
  refine ⟨trivial, (callsIn_wide.2 (HW.out n)).mono ?_⟩
  rintro e w1 ⟨rfl, m, rfl⟩
  clear HW
  have K2 := (K.drewN n).drewN m
  have c2 : (((w.alloc (.cells #[.slice (some ⟨g, off, none⟩) L.length cap] 22)).drewN n).drewN m).cell? ⟨w.heap.size, 0, none⟩ = some (.slice (some ⟨g, off, none⟩) L.length cap) := (((Keep.refl [] _).drewN n).drewN m).cell c1 (by simp)
  have hsz2 : w.heap.size < (((w.alloc (.cells #[.slice (some ⟨g, off, none⟩) L.length cap] 22)).drewN n).drewN m).heap.size := lt_of_cell' c2
  generalize (((w.alloc (.cells #[.slice (some ⟨g, off, none⟩) L.length cap] 22)).drewN n).drewN m) = w1 at K2 c2 hsz2 ⊢
  clear c1 K B1
  have W3 : ∃ w2, w2 = (((w1.alloc (.cells (madeCells #[.int .u32 0, .int .i64 0] (L.length * 2)) 61)).alloc (.cells #[.slice (some ⟨w1.heap.size, 0, none⟩) L.length L.length] 24)).alloc (.cells #[.int .i64 0] 3)) := ⟨_, rfl⟩
  obtain ⟨w2, hw2⟩ := W3
  have k12 : Keep [] w1 w2 := by rw [hw2]; exact (((Keep.refl [] _).alloc _).alloc _).alloc _
  have c3 := k12.cell c2 (by simp)
  rw [hw2] at c3
  have hmk := run_make_codes w1 L.length (by omega)
  gi_wp2_with fail
  refine ⟨trivial, (callsIn_wide.2 (fromlast_c _ _ _ _)).mono ?_⟩
  rintro e w' ⟨rfl, rfl⟩
  clear hmk
  rw [← hw2] at c3 ⊢
  have b0 : Blk w2 w1.heap.size (madeCells #[.int .u32 0, .int .i64 0] (L.length * 2)) 61 := by
    rw [hw2]; exact ((Blk.new w1 _ _).alloc _).alloc _
  have b1 : Blk w2 (w1.heap.size + 1) #[.slice (some ⟨w1.heap.size, 0, none⟩) L.length L.length] 24 := by
    rw [hw2]
    have := Blk.new (w1.alloc (.cells (madeCells #[.int .u32 0, .int .i64 0] (L.length * 2)) 61)) #[.slice (some ⟨w1.heap.size, 0, none⟩) L.length L.length] 24
    rw [World.size_alloc] at this
    exact this.alloc _
  have b2 : Blk w2 (w1.heap.size + 1 + 1) #[.int .i64 0] 3 := by
    rw [hw2]
    have := Blk.new ((w1.alloc (.cells (madeCells #[.int .u32 0, .int .i64 0] (L.length * 2)) 61)).alloc (.cells #[.slice (some ⟨w1.heap.size, 0, none⟩) L.length L.length] 24)) #[.int .i64 0] 3
    rw [World.size_alloc, World.size_alloc] at this
    exact this
  have hs2 : w2.heap.size = w1.heap.size + 3 := by rw [hw2]; simp
  have k02 : Keep [] w w2 := K2.trans k12 (by simp)
  clear hw2 k12 c2 K2
  obtain ⟨nb, hnb⟩ : ∃ x, w1.heap.size = x := ⟨_, rfl⟩
  rw [hnb] at b0 b1 b2 hs2 hsz2 ⊢
  clear hnb
  have d0 := b0.alloc (.cells #[.slice (some ⟨g, off, none⟩) L.length cap] 22)
  have d1 := (b1.alloc (.cells #[.slice (some ⟨g, off, none⟩) L.length cap] 22)).cell 0 _ rfl
  have d2 := b2.alloc (.cells #[.slice (some ⟨g, off, none⟩) L.length cap] 22)
  have d3 := ((Keep.refl [] w2).alloc (.cells #[.slice (some ⟨g, off, none⟩) L.length cap] 22)).cell c3 (by simp)
  have d4 := (Blk.new w2 #[.slice (some ⟨g, off, none⟩) L.length cap] 22).cell 0 _ rfl
  have K3 := k02.alloc (.cells #[.slice (some ⟨g, off, none⟩) L.length cap] 22)
  have hs3 : (w2.alloc (.cells #[.slice (some ⟨g, off, none⟩) L.length cap] 22)).heap.size = nb + 4 := by rw [World.size_alloc, hs2]
  rw [hs2] at d4 ⊢
  generalize (w2.alloc (.cells #[.slice (some ⟨g, off, none⟩) L.length cap] 22)) = w3 at d0 d1 d2 d3 d4 K3 hs3 ⊢
  clear b0 b1 b2 hs2 k02 c3
  have HV3 := Lib.hid (fun j hj => K3.cell (HV.out j hj) (by simp))
  have hg3 : g < nb := by omega
  have HZ : Hid (w.heap.size < nb ∧ g < w.heap.size ∧ w3.heap.size = nb + 4) := ⟨hsz2, hgw, hs3⟩
  obtain ⟨bx, hbx⟩ : ∃ x, w.heap.size = x := ⟨_, rfl⟩
  rw [hbx] at d3 HZ ⊢
  gi_wp2_with fail
  refine range_stepsO (gf := 48) (lb := #[.pointer (some ⟨nb + 3, 0, none⟩)]) rfl (enters_of Try.func48 (by kernel_rfl) rfl)
    (fromlast_steps [nb, nb + 2] (nb + 3) g off cap L hlen w3 (by omega) (by omega) (by simp) (by simp; omega) (by simp; omega) d4 HV3.out)
    (by simp; omega) (fun _ => rfl)
    (fun k W => ∃ cs, Blk W nb cs 61 ∧ CsM cs L ((ordS L 16).take k) ∧ Blk W (nb + 2) #[.int .i64 (upto L k : Nat)] 3 ∧ Keep [nb, nb + 2] w3 W)
    (fun k W W' row h hg hr => by
      obtain ⟨cs, h1, h2, h3, h4⟩ := h
      have kW : Keep row.toList W W' := (Keep.refl row.toList W).grown hg (fun k e => .inl (by simp [e]))
      have hz := HZ.out
      have hrr : ∀ r, r ∈ row.toList → nb + 4 ≤ r := fun r hr' => by have := (hr r (by simpa using hr')).1; omega
      exact ⟨cs, h1.keep kW (fun hm => by have := hrr _ hm; omega), h2, h3.keep kW (fun hm => by have := hrr _ hm; omega), h4.trans kW (fun x hx => by have := hrr _ hx; right; omega)⟩)
    ⟨_, d0, CsM.made L, by rw [upto_zero]; exact d2, Keep.refl _ _⟩
    (fun j => { tmps := #[.slice (some ⟨g, off, none⟩) L.length cap, .pointer (some ⟨bx, 0, none⟩), .slice none 0 0, .int .i64 0, .pointer (some ⟨nb + 1, 0, none⟩), .pointer (some ⟨nb + 1 + 1, 0, none⟩), .int .i64 j, undef, .slice (some ⟨g, off, none⟩) L.length cap, .bool true, .bool false, .slice (some ⟨g, off, none⟩) L.length cap, .int .i64 65536, .bool false, .slice (some ⟨g, off, none⟩) L.length cap, .int .i64 L.length, .slice (some ⟨nb, 0, none⟩) L.length L.length, .slice (some ⟨g, off, none⟩) L.length cap, .func (.func 48) #[] #[.pointer (some ⟨nb + 3, 0, none⟩)], .int .i64 j, undef, undef, undef, undef, undef, undef, undef, undef, undef, undef, undef, undef, undef, undef, undef, undef, undef, undef, undef, undef, undef, undef], defers := [] }) ?assign ?body ?done
  case assign =>
    intro l x W KK hK
    gi_wp2
    exact hK
  case body =>
    intro l k s W hx hT
    obtain ⟨cs, h1, h2, h3, h4⟩ := hT
    have HK4 := Lib.hid h4
    obtain ⟨hsL, hl1, hl16⟩ := (ordS_mem L 16 s).1 (List.mem_of_getElem? hx)
    have hup : upto L k = ah L s := ord_ahead L HL.out k s hx
    have hlt : upto L k + wd16 L s ≤ 65536 := by rw [hup, ← ht]; exact ah_top L s hsL
    have hsw : sw L s = upto L k / 2 ^ (16 - len L s) := by rw [hup]; rfl
    have hswl : sw L s < 65536 := Nat.lt_of_lt_of_le (sw_lt L s hsL (fun k hk => (HL.out k hk).2) ht) (Nat.pow_le_pow_right (by decide) hl16)
    have hz := HZ.out
    have e3 := h4.cell d3 (by simp; omega)
    have e4 := h4.cell (HV3.out s hsL) (by simp; omega)
    have e1 : W.cell? ⟨nb + 1, 0, none⟩ = some (.slice (some ⟨nb, 0, none⟩) L.length L.length) := h4.cell d1 (by simp)
    have e2 : W.cell? ⟨nb + 1 + 1, 0, none⟩ = some (.int .i64 (upto L k : Nat)) := h3.cell 0 _ rfl
    have f2 : W.frozen? ⟨nb + 1 + 1, 0, none⟩ = false := h3.free 0
    have HNX := Lib.hid (upto_succ L k s hx)
    have HTK : Hid ((ordS L 16).take (k + 1) = (ordS L 16).take k ++ [s]) := by unfold Hid; rw [List.take_add_one, hx]; rfl
    have HC2 := Lib.hid (h2.take s hsL)
    have hsz := h2.size
    have s0 : s * 2 < cs.size := by rw [hsz]; omega
    have s1 : s * 2 + 1 < cs.size := by rw [hsz]; omega
    have hTN : ∀ w, Calls Try.prog 34 #[.int .u32 (sw L s : Nat), .int .i64 (len L s : Nat)] w fun e w' => e = .returned (.int .u32 (scode L s : Nat)) ∧ w = w' := fun w => by
      have := turn_c (sw L s) (len L s) w (by omega)
      rw [turn_code6 _ _ hl16] at this
      exact this
    have HTN := Lib.hid hTN
    clear hTN
    obtain ⟨z, hz16⟩ : ∃ z, 16 - len L s = z := ⟨_, rfl⟩
    have hzi : (16 : Int) - (len L s : Int) = (z : Int) := by omega
    have hz16' : z ≤ 16 := by omega
    rw [hz16] at hsw
    have hwd : wd16 L s = 2 ^ z := by rw [← hz16]; rfl
    rw [hwd] at hlt
    have HNX : Hid (upto L (k + 1) = upto L k + 2 ^ z) := by have := HNX.out; rw [hwd] at this; exact this
    have hdv : ((upto L k : Nat) : Int) / (2 : Int) ^ z = ((sw L s : Nat) : Int) := by rw [hsw]; simp
    have hu32 : IntKind.u32.wrap ((sw L s : Nat) : Int) = (sw L s : Nat) := by rw [IntKind.wrap_u32]; omega
    clear h2 hx hup hsw hsz
    have hwz : IntKind.i64.wrap (z : Int) = z := by rw [IntKind.wrap_i64]; omega
    have g1 : ∀ p : Kept W, p.x.cell? ⟨nb + 1, 0, none⟩ = some (.slice (some ⟨nb, 0, none⟩) L.length L.length) := fun p => p.h.cell e1 (by simp)
    have g2 : ∀ p : Kept W, p.x.cell? ⟨nb + 1 + 1, 0, none⟩ = some (.int .i64 (upto L k : Nat)) := fun p => p.h.cell e2 (by simp)
    gi_wp2_with fail
    clear e3 e4 e1 e2 f2
    refine wpIn_region_kept_tail 12 (by kernel_rfl) (by kernel_rfl) (by kernel_rfl) ?_
    simp only [List.take_succ_cons, List.take_zero, List.drop_succ_cons, List.drop_zero]
    repeat (quiet_step (first | (go_at_call 34; with_reducible exact kept_of (kept_same (HTN.out _)))))
    refine wpQuiet_nil ?_
    rintro _ ⟨⟨w4, k4⟩, rfl⟩
    rename_i w4
    have h1 := h1.keep k4 (by simp)
    have h3 := h3.keep k4 (by simp)
    have q0 := h1.cell (s * 2) _ (Array.getElem?_eq_getElem s0)
    have q1 := h1.cell (s * 2 + 1) _ (Array.getElem?_eq_getElem s1)
    have p0 := h1.free (s * 2)
    have p1 := h1.free (s * 2 + 1)
    generalize cs[s * 2] = x0 at q0
    generalize cs[s * 2 + 1] = x1 at q1
    clear g1 g2
    go_wp2_with fail
    refine ⟨rfl, ?_⟩
    have hb5 := (h1.set (s * 2) (.int .u32 (scode L s : Nat))).set (s * 2 + 1) (.int .i64 (len L s : Nat))
    have hn5 := (h3.other (p := ⟨nb, s * 2, none⟩) (by simp) (.int .u32 (scode L s : Nat))).other (p := ⟨nb, s * 2 + 1, none⟩) (by simp) (.int .i64 (len L s : Nat))
    have K5 : Keep [nb, nb + 2] W ((w4.setCell ⟨nb, s * 2, none⟩ (.int .u32 (scode L s : Nat))).setCell ⟨nb, s * 2 + 1, none⟩ (.int .i64 (len L s : Nat))) := ((k4.mono (by simp)).setCell (.inl (by simp)) _).setCell (.inl (by simp)) _
    generalize ((w4.setCell ⟨nb, s * 2, none⟩ (.int .u32 (scode L s : Nat))).setCell ⟨nb, s * 2 + 1, none⟩ (.int .i64 (len L s : Nat))) = w5 at hb5 hn5 K5 ⊢
    clear h1 h3 q0 q1 p0 p1 k4
    have g2 : ∀ p : Kept w5, p.x.cell? ⟨nb + 1 + 1, 0, none⟩ = some (.int .i64 (upto L k : Nat)) := fun p => p.h.cell (hn5.cell 0 _ rfl) (by simp)
    obtain ⟨q, hq0⟩ : ∃ q, 2 ^ z = q := ⟨_, rfl⟩
    obtain ⟨p1', p2'⟩ := shl1 z hz16'
    rw [hq0] at p1' p2' hlt HNX
    have hq : IntKind.i64.wrap ((2 : Int) ^ z) = (q : Int) := by rw [p1', IntKind.wrap_i64]; omega
    have hadd : IntKind.i64.wrap (((upto L k : Nat) : Int) + (q : Int)) = ((upto L k + q : Nat) : Int) := by rw [IntKind.wrap_i64]; omega
    clear p1' hq0 hdv hwd hz16
    gi_wp2_with fail
    refine wpIn_region_kept_tail 5 (by kernel_rfl) (by kernel_rfl) (by kernel_rfl) ?_
    simp only [List.take_succ_cons, List.take_zero, List.drop_succ_cons, List.drop_zero]
    repeat (quiet_step (fail))
    refine wpQuiet_nil ?_
    rintro _ ⟨⟨w6, k6⟩, rfl⟩
    rename_i w6
    have hb6 := hb5.keep k6 (by simp)
    have hn6 := hn5.keep k6 (by simp)
    have e2 : w6.cell? ⟨nb + 1 + 1, 0, none⟩ = some (.int .i64 (upto L k : Nat)) := hn6.cell 0 _ rfl
    have f2 : w6.frozen? ⟨nb + 1 + 1, 0, none⟩ = false := hn6.free 0
    clear g2
    go_wp2_with fail
    refine ⟨rfl, ?_⟩
    have K6 : Keep [nb, nb + 2] W (w6.setCell ⟨nb + 1 + 1, 0, none⟩ (.int .i64 (upto L k + q : Nat))) := (K5.trans (k6.mono (by simp)) (fun x hx => .inl hx)).setCell (.inl (by simp)) _
    have hb7 := hb6.other (p := ⟨nb + 1 + 1, 0, none⟩) (by simp; omega) (.int .i64 (upto L k + q : Nat))
    have hn7 := hn6.set 0 (.int .i64 (upto L k + q : Nat))
    gi_wp2_with fail
    refine ⟨keepsFrom_of K6 (by simp; omega), K6, _, hb7, by rw [HTK.out]; exact HC2.out, by rw [HNX.out]; exact hn7, HK4.out.trans K6 (fun x hx => .inl hx)⟩
  case done =>
    intro D W hD hT hDh
    obtain ⟨cs, h1, h2, h3, h4⟩ := hT
    rw [List.take_length] at h2
    have hz := HZ.out
    have e1 : W.cell? ⟨nb + 1, 0, none⟩ = some (.slice (some ⟨nb, 0, none⟩) L.length L.length) := h4.cell d1 (by simp)
    have hC : Cds6 W (.slice (some ⟨nb, 0, none⟩) L.length L.length) L := CsM.cds h1 h2 (fun j hj => (ordS_mem L 16 j).2 ⟨hj, HL.out j hj⟩) (by unfold maxLen; omega)
    have HC := Lib.hid hC
    have HK : Hid (Keep [] w W) := K3.trans h4 (fun x hx => by simp at hx; right; omega)
    have HD := Lib.hid hDh
    clear hC h1 h2 h3 h4 hDh
    gi_wp2_with fail
    refine leaves_marks (v := .tuple #[.slice (some ⟨nb, 0, none⟩) L.length L.length, .int .i64 0]) (nb + 4) (fun W' => Cds6 W' (.slice (some ⟨nb, 0, none⟩) L.length L.length) L ∧ Keep [] w W') (fun s W1 W2 row h hg hr => ?_) (fun w => results_tmp2 (t := 2) (u := 3) rfl _ _ _) (fun W' hj => ⟨nb, rfl, hj.1, hj.2, by omega⟩) [D] W ⟨by simp, fun D' h => ?_⟩ ⟨HC.out, HK.out⟩
    · have kW : Keep row.toList W1 W2 := (Keep.refl row.toList W1).grown hg (fun k e => .inl (by simp [e]))
      have hrr : ∀ r, r ∈ row.toList → nb + 4 ≤ r := fun r hr' => (hr r (by simpa using hr')).1
      exact ⟨Sts.keep h.1 kW (fun b hb hm => by simp [Value.ownBlock] at hb; have := hrr b hm; omega), h.2.trans kW (fun x hx => by have := hrr _ hx; right; omega)⟩
    · obtain rfl : D' = D := by simpa using h
      exact ⟨by omega, HD.out⟩
theorem sf_codes (w : World) (v : Value) (zs : List Int) (h : Is .i64 w v zs) : Calls Try.prog 10 #[v] w fun e w' => ∃ v', e = .returned (.tuple #[v', .int .i64 (schk zs)]) ∧ Cds6 w' v' (Ls zs) ∧ Keep [] w w' ∧ (∀ b, v'.ownBlock = some b → w.heap.size ≤ b) ∧ (schk zs ≠ 0 → v' = .slice none 0 0) := by
  cases hm : mayS zs with
  | false =>
    have e : schk zs = 2 := by unfold schk; rw [if_pos hm]
    rw [e, show Ls zs = [] by unfold Ls; rw [e]; rfl]
    refine (codes_arg w v zs h hm).mono ?_
    rintro e w' ⟨rfl, hk⟩
    exact ⟨_, rfl, Cds6.nix _, hk, by simp [Value.ownBlock], fun _ => rfl⟩
  | true =>
    by_cases ht : tot16 (Ln zs) = 65536
    · have e : schk zs = 0 := by unfold schk; rw [hm, if_neg (by simp), if_pos ht]
      rw [e, show Ls zs = Ln zs by unfold Ls; rw [e]; rfl]
      refine (codes_ok w v zs h hm ht).mono ?_
      rintro e w' ⟨b, rfl, hc, hk, hb⟩
      exact ⟨_, rfl, hc, hk, fun b' hb' => by simp [Value.ownBlock] at hb'; omega, fun h => absurd rfl h⟩
    · have e : schk zs = 6 := by unfold schk; rw [hm, if_neg (by simp), if_neg ht]
      rw [e, show Ls zs = [] by unfold Ls; rw [e]; rfl]
      refine (codes_tree w v zs h hm ht).mono ?_
      rintro e w' ⟨rfl, hk⟩
      exact ⟨_, rfl, Cds6.nix _, hk, by simp [Value.ownBlock], fun _ => rfl⟩
end Go.Proofs.Ytblogjpoijfpbaa
