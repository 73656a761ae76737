/- The walk of the law CrcTwo: it returns true at every input. -/
import Derived.Test.YtplamdejdibbhaaCrcLives
import Derived.Test.YtplamdejdibbhaaCutB
import Derived.Test.YtplamdejdibbhaaWithin
import Derived.Test.YtplamdejdibbhaaOpen
import Derived.Deep.RegionHeld3
import Derived.Deep.RegionWith
namespace Go.Proofs.Ytplamdejdibbhaa
set_option linter.unusedVariables false
set_option linter.unusedSimpArgs false
open Go.ChangeShapes Go.WideShapes Go.ChangeAt Go.RowKit

theorem xorL_zero : ∀ l : List UInt8, xorL l (List.replicate l.length 0) = l
  | [] => rfl
  | b :: l => by
    show (b ^^^ 0) :: xorL l (List.replicate l.length 0) = b :: l
    rw [xorL_zero l]; simp
theorem xorL_length (a b : List UInt8) (h : a.length = b.length) : (xorL a b).length = a.length := by simp [xorL, h]
theorem xorL_snoc (a b : List UInt8) (x y : UInt8) (h : a.length = b.length) : xorL (a ++ [x]) (b ++ [y]) = xorL a b ++ [x ^^^ y] := by
  unfold xorL; rw [List.zipWith_append (h := h)]; rfl
theorem crc_two (a b : List UInt8) (h : a.length = b.length) : crcSum 0 a ^^^ crcSum 0 b = crcSum 0 (xorL a b) ^^^ crcSum 0 (List.replicate a.length 0) := by
  have cancel : ∀ x y m : Nat, (x ^^^ m) ^^^ (y ^^^ m) = x ^^^ y := by
    intro x y m
    apply Nat.eq_of_testBit_eq; intro i
    simp only [Nat.testBit_xor]
    cases x.testBit i <;> cases y.testBit i <;> cases m.testBit i <;> rfl
  unfold crcSum
  rw [cancel, cancel, ← cfold_xor _ _ _ _ h]
  have h2 : (xorL a b).length = (List.replicate a.length (0 : UInt8)).length := by rw [xorL_length a b h]; simp
  rw [← cfold_xor _ _ _ _ h2]
  congr 1
  have h3 := xorL_zero (xorL a b)
  rw [xorL_length a b h] at h3
  rw [h3]
def TwoR (W w : World) (va vb : Value) (la lb : List UInt8) : Prop := OwnB w va la ∧ OwnB w vb lb ∧ Keep [] W w ∧ (∀ x, va.ownBlock = some x → W.heap.size ≤ x ∧ vb.ownBlock ≠ some x) ∧ (∀ x, vb.ownBlock = some x → W.heap.size ≤ x)
theorem size_alloc' (w : World) (o : Obj) : (w.alloc o).heap.size = w.heap.size + 1 := by simp
theorem lit_kept {w0 c w3 : World} {z : UInt8} {u : Value} {g n : Nat} (h : Bs w0 (.slice (some ⟨g, 0, none⟩) 1 1) [z]) (k1 : Keep [] w0 c) (k2 : Keep u.ownBlock.toList c w3) (hu : ∀ b, u.ownBlock = some b → b < n) (hg : n ≤ g) : Bs w3 (.slice (some ⟨g, 0, none⟩) 1 1) [z] :=
  (h.keep k1 (by simp)).keep k2 (fun b hb hm => by
    have h1 := hu b (by simpa using hm)
    simp only [Value.ownBlock, Option.some.injEq] at hb; omega)
theorem two_cells {W wr w : World} {a b : Addr} {x y : Value} (K : Keep [] W wr) (h0 : W.cell? a = some x) (h1 : W.cell? b = some y) (KK : Keep [] wr w) : w.cell? a = some x ∧ w.cell? b = some y :=
  ⟨(K.trans KK (by simp)).cellW h0, (K.trans KK (by simp)).cellW h1⟩
theorem TwoR.keep {W w w' : World} {va vb : Value} {la lb : List UInt8} (h : TwoR W w va vb la lb) (k : Keep [] w w') : TwoR W w' va vb la lb :=
  ⟨h.1.keep k (by simp), h.2.1.keep k (by simp), h.2.2.1.trans k (by simp), h.2.2.2⟩
theorem TwoR.app1 {W w c w' : World} {va vb v' : Value} {la lb l' : List UInt8} (h : TwoR W w va vb la lb) (k : Keep [] w c) (ho : OwnB w' v' l') (hk : Keep va.ownBlock.toList c w') (hb : ∀ b, v'.ownBlock = some b → va.ownBlock = some b ∨ b = c.heap.size) : TwoR W w' v' vb l' lb := by
  have hc := h.keep k
  obtain ⟨o1, o2, K, d1, d2⟩ := hc
  refine ⟨ho, o2.keep hk (fun b hb' hm => (d1 b (by simpa using hm)).2 hb'), K.trans hk (fun b hb' => .inr (d1 b (by simpa using hb')).1), ?_, d2⟩
  intro b hb'
  rcases hb b hb' with h1 | h1
  · exact d1 b h1
  · exact ⟨by have := K.size; omega, fun e => by have := o2.lt b e; omega⟩
theorem TwoR.app2 {W w c w' : World} {va vb v' : Value} {la lb l' : List UInt8} (h : TwoR W w va vb la lb) (k : Keep [] w c) (ho : OwnB w' v' l') (hk : Keep vb.ownBlock.toList c w') (hb : ∀ b, v'.ownBlock = some b → vb.ownBlock = some b ∨ b = c.heap.size) : TwoR W w' va v' la l' := by
  have hc := h.keep k
  obtain ⟨o1, o2, K, d1, d2⟩ := hc
  refine ⟨o1.keep hk (fun b hb' hm => (d1 b hb').2 (by simpa using hm)), ho, K.trans hk (fun b hb' => .inr (d2 b (by simpa using hb'))), ?_, ?_⟩
  · intro b hb'
    refine ⟨(d1 b hb').1, fun e => ?_⟩
    rcases hb b e with h1 | h1
    · exact (d1 b hb').2 h1
    · have := o1.lt b hb'; omega
  · intro b hb'
    rcases hb b hb' with h1 | h1
    · exact d2 b h1
    · have := K.size; omega
set_option maxRecDepth 100000 in
set_option maxHeartbeats 4000000 in
theorem two_w (W : World) (v0 : Value) (l0 : List UInt8) (h0 : Bs W v0 l0) (v1 : Value) (l1 : List UInt8) (h1 : Bs W v1 l1) : Calls Try.prog 7 #[v0, v1] W fun e w' => e = .returned (.bool true) ∧ Keep [] W w' := by
  obtain ⟨a0, c0, rfl, k0, m0⟩ := h0.shape
  obtain ⟨a1, c1, rfl, k1, m1⟩ := h1.shape
  have m0' := m0; have m1' := m1
  unfold maxLen at m0' m1'
  go_enter Try.func7, Try.ntmps7
  go_wp2_with fail
  refine (within_c l1.length 0 300 _ (by decide)).mono ?_; rintro e w' ⟨rfl, rfl⟩
  go_wp2_with fail
  refine (within_c l0.length 0 _ _ (by omega)).mono ?_; rintro e w' ⟨rfl, rfl⟩
  obtain ⟨n, hn⟩ : ∃ n : Nat, n = min l0.length (min l1.length 300) := ⟨_, rfl⟩
  have hnI : max 0 (min (l0.length : Int) (max 0 (min (l1.length : Int) 300))) = n := by omega
  rw [hnI]
  have hn0 : n ≤ l0.length := by omega
  have hn1 : n ≤ l1.length := by omega
  have hn3 : n ≤ 300 := by omega
  have p0 := h0.pre n hn0
  have p1 := h1.pre n hn1
  have g0 : (n : Int) ≤ c0 := by omega
  have g1 : (n : Int) ≤ c1 := by omega
  clear hnI hn
  go_wp2_with fail
  go_quiet (fail)
  have q0 := p0.keep ((Keep.refl [] W).drewN nq) (by simp)
  have q1 := p1.keep ((Keep.refl [] W).drewN nq) (by simp)
  have la : (l0.take n).length = n := by rw [List.length_take]; omega
  have lb : (l1.take n).length = n := by rw [List.length_take]; omega
  generalize l0.take n = A at p0 q0 la
  generalize l1.take n = B at p1 q1 lb
  have hcA : ∀ k (hk : k < A.length), ∃ b off, a0 = some ⟨b, off, none⟩ ∧ W.cell? ⟨b, off + k, none⟩ = some (.int .u8 (A[k].toNat)) := by
    intro k hk
    rcases p0.cases with ⟨rfl, _⟩ | ⟨_, b, off, cap, hv, _, _, _, hc⟩
    · simp at hk
    · simp only [Value.slice.injEq] at hv
      exact ⟨b, off, hv.1, hc k hk⟩
  have hcB : ∀ k (hk : k < B.length), ∃ b off, a1 = some ⟨b, off, none⟩ ∧ W.cell? ⟨b, off + k, none⟩ = some (.int .u8 (B[k].toNat)) := by
    intro k hk
    rcases p1.cases with ⟨rfl, _⟩ | ⟨_, b, off, cap, hv, _, _, _, hc⟩
    · simp at hk
    · simp only [Value.slice.injEq] at hv
      exact ⟨b, off, hv.1, hc k hk⟩
  have HA := Lib.hid hcA; have HB := Lib.hid hcB
  have HLA := Lib.hid la; have HLB := Lib.hid lb
  have HS : TwoR W (W.drewN nq) (.slice none 0 0) (.slice none 0 0) [] [] := ⟨OwnB.nil _, OwnB.nil _, (Keep.refl _ _).drewN _, by simp [Value.ownBlock], by simp [Value.ownBlock]⟩
  have P0 := Lib.hid p0; have P1 := Lib.hid p1
  clear hcA hcB h0 h1 p0 p1 q0 q1 la lb
  go_wp2_with fail
  go_loopw [6, 7, 8] (fun vb vn i wr => ∃ k : Nat, k ≤ n ∧ i = .int .i64 k ∧ TwoR W wr vb vn (xorL (A.take k) (B.take k)) (List.replicate k 0)) (fun _ _ i _ => n - (intOf i).toNat)
  case atStart => exact ⟨0, by omega, rfl, HS⟩
  case round =>
    obtain ⟨k, hk, rfl, HT⟩ := hrel
    by_cases hlt : k < n
    · have hA := HLA.out; have hB := HLB.out
      have hka : k < A.length := by omega
      have hkb : k < B.length := by omega
      obtain ⟨ba, oa, rfl, e0⟩ := HA.out k hka
      obtain ⟨bb', ob, rfl, e1⟩ := HB.out k hkb
      have E0 := Lib.hid e0; have E1 := Lib.hid e1
      have K := HT.2.2.1
      have hu6 := HT.1.lt
      have hxx := u8_xor_nat A[k].toNat B[k].toNat (A[k].toNat_lt) (B[k].toNat_lt)
      have hstep : Hid (xorL (A.take (k + 1)) (B.take (k + 1)) = xorL (A.take k) (B.take k) ++ [A[k] ^^^ B[k]]) := by
        unfold Hid
        rw [List.take_succ_eq_append_getElem hka, List.take_succ_eq_append_getElem hkb, xorL_snoc _ _ _ _ (by rw [List.length_take, List.length_take]; omega)]
      have hx2 : (A[k].toNat ^^^ B[k].toNat) = (A[k] ^^^ B[k]).toNat := (UInt8.toNat_xor _ _).symm
      rw [hx2] at hxx
      have hlen1 : (xorL (A.take k) (B.take k)).length = k := by
        rw [xorL_length _ _ (by rw [List.length_take, List.length_take]; omega), List.length_take]; omega
      generalize A[k] ^^^ B[k] = z at hxx hstep
      generalize A[k].toNat = xa at E0 hxx
      generalize B[k].toNat = xb at E1 hxx
      clear hx2 hA hB e0 e1
      generalize xorL (A.take k) (B.take k) = X at HT hstep hlen1
      have hl1 : X.length + [z].length ≤ 140737488355328 := by simp; omega
      have hl2 : (List.replicate k (0 : UInt8)).length + [(0 : UInt8)].length ≤ 140737488355328 := by simp; omega
      clear hlen1
      have S0 : wr.drew.cell? ⟨ba, oa + k, none⟩ = some (.int .u8 xa) ∧ wr.drew.cell? ⟨bb', ob + k, none⟩ = some (.int .u8 xb) := ⟨K.drew.cellW E0.out, K.drew.cellW E1.out⟩
      go_wp2_with fail
      have L0 : Bs (wr.alloc (.cells #[.int .u8 0] 5)) (.slice (some ⟨wr.heap.size, 0, none⟩) 1 1) [0] := Bs.new1 wr 0
      have L1 : Bs ((wr.alloc (.cells #[.int .u8 (z.toNat)] 5)).alloc (.cells #[.int .u8 0] 5)) (.slice (some ⟨wr.heap.size + 1, 0, none⟩) 1 1) [0] := by
        have h := Bs.new1 (wr.alloc (.cells #[.int .u8 (z.toNat)] 5)) 0
        rw [size_alloc'] at h; exact h
      go_region_held3 (fun w' => w'.cell? ⟨ba, oa + k, none⟩ = some (.int .u8 xa) ∧ w'.cell? ⟨bb', ob + k, none⟩ = some (.int .u8 xb))
        (first | assumption | (refine two_cells K E0.out E1.out ?_; (repeat (first | exact Keep.refl _ _ | refine Keep.alloc ?_ _ | refine Keep.drew ?_)); done) | (refine two_cells T3.2.2.1 E0.out E1.out ?_; (repeat (first | exact Keep.refl _ _ | refine Keep.alloc ?_ _ | refine Keep.drew ?_)); done) | go_keep)
        (first
        | (refine step_appendB (.tmp 26) (.tmp 36) (by rfl) (by rfl) u6 X (by rfl) (HT.1.keep (S := []) (by repeat (first | exact Keep.refl _ _ | refine Keep.alloc ?_ _ | refine Keep.drew ?_)) (by simp)) _ [z] (by rfl) (by first | exact Bs.new1 _ _ | (refine Bs.keep (S := []) (Bs.new1 wr z) ?_ (by simp); (repeat (first | exact Keep.refl _ _ | refine Keep.alloc ?_ _ | refine Keep.drew ?_)); done) | (have h := Bs.new1 (wr.alloc (.cells #[.int .u8 0] 5)) z; simp only [size_alloc'] at h; refine Bs.keep (S := []) h ?_ (by simp); (repeat (first | exact Keep.refl _ _ | refine Keep.alloc ?_ _ | refine Keep.drew ?_)); done)) hl1 ?_; intro v3 w3 ho3 hk3 hb3 hz3; have T3 := TwoR.app1 HT (by repeat (first | exact Keep.refl _ _ | refine Keep.alloc ?_ _ | refine Keep.drew ?_)) ho3 hk3 hb3; have S3 : w3.cell? ⟨ba, oa + k, none⟩ = some (.int .u8 xa) ∧ w3.cell? ⟨bb', ob + k, none⟩ = some (.int .u8 xb) := ⟨T3.2.2.1.cellW E0.out, T3.2.2.1.cellW E1.out⟩)
        | (refine step_appendB (.tmp 38) (.tmp 39) (by rfl) (by rfl) u7 (List.replicate k 0) (by rfl) (T3.2.1.keep (S := []) (by repeat (first | exact Keep.refl _ _ | refine Keep.alloc ?_ _ | refine Keep.drew ?_)) (by simp)) _ [0] (by rfl) (by first | exact Bs.new1 _ _ | exact lit_kept L1 (by repeat (first | exact Keep.refl _ _ | refine Keep.alloc ?_ _ | refine Keep.drew ?_)) hk3 hu6 (by omega) | exact lit_kept L0 (by repeat (first | exact Keep.refl _ _ | refine Keep.alloc ?_ _ | refine Keep.drew ?_)) hk3 hu6 (Nat.le_refl _)) hl2 ?_; intro v5 w5 ho5 hk5 hb5 hz5; have T5 := TwoR.app2 T3 (by repeat (first | exact Keep.refl _ _ | refine Keep.alloc ?_ _ | refine Keep.drew ?_)) ho5 hk5 hb5; have S5 : w5.cell? ⟨ba, oa + k, none⟩ = some (.int .u8 xa) ∧ w5.cell? ⟨bb', ob + k, none⟩ = some (.int .u8 xb) := ⟨T5.2.2.1.cellW E0.out, T5.2.2.1.cellW E1.out⟩))
      all_goals
        have T6 : TwoR W w5 v3 v5 (xorL (A.take (k + 1)) (B.take (k + 1))) (List.replicate (k + 1) 0) := by
          rw [hstep.out, List.replicate_succ']; exact T5
        clear L0 L1 T3 T5 S3 S5 S0 HT ho3 ho5 hk3 hk5 hb3 hb5 hz3 hz5
        go_wp2
        go_roundw
        case rel => exact ⟨k + 1, by omega, by go_num, T6⟩
        case measure => simp [intOf]; omega
    · obtain rfl : k = n := by omega
      have hAl : A.take k = A := List.take_of_length_le (by rw [HLA.out]; exact Nat.le_refl _)
      have hBl : B.take k = B := List.take_of_length_le (by rw [HLB.out]; exact Nat.le_refl _)
      rw [hAl, hBl] at HT
      have hAB : A.length = B.length := by rw [HLA.out, HLB.out]
      have htw := crc_two A B hAB
      rw [HLA.out] at htw
      have h1a := crcSum_lt 0 A (by decide)
      have h1b := crcSum_lt 0 B (by decide)
      have h1c := crcSum_lt 0 (xorL A B) (by decide)
      have h1d := crcSum_lt 0 (List.replicate k 0) (by decide)
      have hx1 := u32_xor_nat _ _ h1a h1b
      have hx2 := u32_xor_nat _ _ h1c h1d
      rw [← htw] at hx2
      obtain ⟨o1, o2, K, _, _⟩ := HT
      have sA := fun (ww : World) (kk : Keep [] W ww) => sum_c ww _ A (P0.out.keep kk (by simp))
      have sB := fun (ww : World) (kk : Keep [] W ww) => sum_c ww _ B (P1.out.keep kk (by simp))
      have sC := fun (ww : World) (kk : Keep [] wr ww) => sum_c ww _ _ ((o1.keep kk (by simp)).bs)
      have sD := fun (ww : World) (kk : Keep [] wr ww) => sum_c ww _ _ ((o2.keep kk (by simp)).bs)
      have SA := Lib.hid sA; have SB := Lib.hid sB; have SC := Lib.hid sC; have SD := Lib.hid sD
      clear sA sB sC sD o1 o2 htw hAB hAl hBl h1a h1b h1c h1d
      generalize crcSum 0 A = ya at hx1 hx2 SA
      generalize crcSum 0 B = yb at hx1 hx2 SB
      generalize crcSum 0 (xorL A B) = yc at hx2 SC
      generalize crcSum 0 (List.replicate k 0) = yd at hx2 SD
      generalize ya ^^^ yb = yx at hx1 hx2
      go_wp2_with fail
      refine (SA.out wr K).mono ?_; rintro e wa ⟨rfl, ka⟩
      go_wp2_with fail
      refine (SB.out wa (K.trans ka (by simp))).mono ?_; rintro e wb ⟨rfl, kb⟩
      have kab := ka.trans kb (by simp)
      go_wp2_with fail
      refine (SC.out wb kab).mono ?_; rintro e wc ⟨rfl, kc⟩
      have kabc := kab.trans kc (by simp)
      go_wp2_with fail
      refine (SD.out wc kabc).mono ?_; rintro e wd ⟨rfl, kd⟩
      go_wp2_with (refine (lives_c _).mono ?_; rintro e w' ⟨rfl, hk⟩)
      go_ret
      exact ⟨rfl, ((K.trans kabc (by simp)).trans kd (by simp)).trans hk (by simp)⟩
end Go.Proofs.Ytplamdejdibbhaa
