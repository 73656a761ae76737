/- The walk of the law FieldBack: it returns true at every input. -/
import Derived.Test.YtgohdhpokehflaaFldLives
import Derived.Test.YtgohdhpokehflaaRefFld
import Derived.Test.YtgohdhpokehflaaFldWr
import Derived.Test.YtgohdhpokehflaaWithin
import Derived.Deep.RegionWith
import Derived.Deep.RegionHeld3
namespace Go.Proofs.Ytgohdhpokehflaa
set_option linter.unusedVariables false
set_option linter.unusedSimpArgs false
open Go.ChangeShapes Go.WideShapes Go.ChangeAt Go.RowKit

def cl16 (n : Int) : Nat := (max 0 (min n 65535)).toNat
/-- the bytes of the first k records -/
def fb (x : WL) : Nat → List UInt8
  | 0 => []
  | k + 1 => fb x k ++ (lb 2 (cl16 (x.N k)) ++ lb 4 (x.X k) ++ (x.B k).take 40)
theorem fb_le (x : WL) (k : Nat) : (fb x k).length ≤ 46 * k := by
  induction k with
  | zero => simp [fb]
  | succ k ih => simp [fb, lb_length]; omega
theorem fb_split (x : WL) (k m : Nat) (h : k ≤ m) : ∃ post, fb x m = fb x k ++ post := by
  induction m with
  | zero => obtain rfl : k = 0 := by omega
            exact ⟨[], by simp⟩
  | succ m ih =>
    by_cases hk : k = m + 1
    · subst hk; exact ⟨[], by simp⟩
    · obtain ⟨post, hp⟩ := ih (by omega)
      exact ⟨post ++ (lb 2 (cl16 (x.N m)) ++ lb 4 (x.X m) ++ (x.B m).take 40), by rw [fb, hp, List.append_assoc]⟩
/-- r is a row of the bytes l, all of it new since W -/
def HasRow (W w : World) (r : Nat) (l : List UInt8) : Prop := ∃ v, Ro w r v ⟨l, 0⟩ ∧ Keep [] W w ∧ W.heap.size ≤ r ∧ ∀ b, v.ownBlock = some b → W.heap.size ≤ b
theorem HasRow.kept {W w : World} {r : Nat} {l : List UInt8} (h : HasRow W w r l) : Keep [] W w := by obtain ⟨_, _, h, _⟩ := h; exact h
theorem HasRow.drew {W w : World} {r : Nat} {l : List UInt8} (h : HasRow W w r l) : HasRow W w.drew r l := by
  obtain ⟨v, h1, h2, h3, h4⟩ := h
  exact ⟨v, h1.keep ((Keep.refl [] w).drew) (by simp) (by simp), h2.drew, h3, h4⟩
theorem HasRow.next {W w w' : World} {r : Nat} {v v' : Value} {s : WS} {l' : List UInt8} (h2 : Keep [] W w) (h3 : W.heap.size ≤ r) (h4 : ∀ b, v.ownBlock = some b → W.heap.size ≤ b)
    (k1 : Ro w' r v' ⟨l', 0⟩) (k2 : Keep (r :: v.ownBlock.toList) w w') (k3 : ∀ b, v'.ownBlock = some b → v.ownBlock = some b ∨ w.heap.size ≤ b) : HasRow W w' r l' := by
  refine ⟨v', k1, h2.trans k2 ?_, h3, ?_⟩
  · intro b hb
    right
    simp at hb
    rcases hb with rfl | hb
    · exact h3
    · exact h4 b hb
  · intro b hb
    rcases k3 b hb with h | h
    · exact h4 b h
    · have := h2.size; omega
theorem hrU16 (W w : World) (r c : Nat) (l : List UInt8) (h : HasRow W w r l) (hc : c ≤ 65535) (hl : l.length ≤ 3000) : Calls Try.prog 25 #[.pointer (some ⟨r, 0, none⟩), .int .i64 c] w fun e w' => e = .returned (.pointer (some ⟨r, 0, none⟩)) ∧ HasRow W w' r (l ++ lb 2 c) := by
  obtain ⟨v, h1, h2, h3, h4⟩ := h
  refine (roU16_c w r v ⟨l, 0⟩ c h1 (by simp; omega)).mono ?_
  rintro e w' ⟨v', rfl, k1, k2, k3⟩
  have : (WS.u16 ⟨l, 0⟩ c) = ⟨l ++ lb 2 c, 0⟩ := by unfold WS.u16; rw [if_neg (by omega)]; rfl
  rw [this] at k1
  exact ⟨rfl, HasRow.next (s := ⟨l, 0⟩) h2 h3 h4 k1 k2 k3⟩
theorem hrU32 (W w : World) (r y : Nat) (l : List UInt8) (h : HasRow W w r l) (hc : y < 4294967296) (hl : l.length ≤ 3000) : Calls Try.prog 28 #[.pointer (some ⟨r, 0, none⟩), .int .u32 y] w fun e w' => e = .returned (.pointer (some ⟨r, 0, none⟩)) ∧ HasRow W w' r (l ++ lb 4 y) := by
  obtain ⟨v, h1, h2, h3, h4⟩ := h
  refine (roU32_c w r v ⟨l, 0⟩ y hc h1 (by simp; omega)).mono ?_
  rintro e w' ⟨v', rfl, k1, k2, k3⟩
  exact ⟨rfl, HasRow.next (s := ⟨l, 0⟩) h2 h3 h4 k1 k2 k3⟩
theorem hrPut (W w : World) (r : Nat) (l : List UInt8) (v2 : Value) (l2 : List UInt8) (h : HasRow W w r l) (hb : Bs w v2 l2) (hl : l.length ≤ 3000) (hl2 : l2.length ≤ 40) : Calls Try.prog 29 #[.pointer (some ⟨r, 0, none⟩), v2] w fun e w' => e = .returned (.pointer (some ⟨r, 0, none⟩)) ∧ HasRow W w' r (l ++ l2) := by
  obtain ⟨v, h1, h2, h3, h4⟩ := h
  refine (roPut_c w r v ⟨l, 0⟩ v2 l2 h1 hb (by simp; omega)).mono ?_
  rintro e w' ⟨v', rfl, k1, k2, k3⟩
  exact ⟨rfl, HasRow.next (s := ⟨l, 0⟩) h2 h3 h4 k1 k2 k3⟩
/-- q is a cursor at place p of the bytes l -/
def HasCur (W w : World) (q : Nat) (v : Value) (l : List UInt8) (p : Nat) : Prop := Cd w q v ⟨l, p, true, 0⟩ ∧ Keep [] W w ∧ W.heap.size ≤ q
theorem HasCur.drew {W w : World} {q : Nat} {v : Value} {l : List UInt8} {p : Nat} (h : HasCur W w q v l p) : HasCur W w.drew q v l p :=
  ⟨h.1.keep ((Keep.refl [] w).drew) (by simp) (by simp), h.2.1.drew, h.2.2⟩
theorem HasCur.drewN {W w : World} {q : Nat} {v : Value} {l : List UInt8} {p : Nat} (h : HasCur W w q v l p) (n : Nat) : HasCur W (w.drewN n) q v l p :=
  ⟨h.1.drewN n, h.2.1.drewN n, h.2.2⟩
theorem take_seg (l pre mid post : List UInt8) (p n : Nat) (h : l = pre ++ mid ++ post) (hp : p = pre.length) (hn : n = mid.length) : (⟨l, p, true, 0⟩ : CS).take n = (mid, ⟨l, p + n, true, 0⟩) := by
  have hE : (⟨l, p, true, 0⟩ : CS).E = 0 := rfl
  have hll : l.length = pre.length + mid.length + post.length := by rw [h]; simp [Nat.add_assoc]
  have hL : (⟨l, p, true, 0⟩ : CS).left = l.length - p := by unfold CS.left; rw [if_pos hE]
  unfold CS.take
  rw [if_neg (by rw [hE]; decide), if_neg (by omega), if_neg (by rw [hL]; omega)]
  simp only [Int.toNat_natCast, Prod.mk.injEq, and_true]
  rw [h, hp, hn, List.append_assoc, List.drop_left, List.take_left]
theorem hcU16 (W w : World) (q c : Nat) (v : Value) (l pre post : List UInt8) (p : Nat) (h : HasCur W w q v l p) (hp : p = pre.length) (hs : l = pre ++ lb 2 c ++ post) (hc : c ≤ 65535) : Calls Try.prog 11 #[.pointer (some ⟨q, 0, none⟩)] w fun e w' => e = .returned (.int .i64 c) ∧ HasCur W w' q v l (p + 2) ∧ Keep [q] w w' := by
  refine (cu16_c w q v _ h.1).mono ?_
  rintro e w' ⟨rfl, k1, k2⟩
  have hts := take_seg l pre (lb 2 c) post p 2 hs hp (lb_length _ _).symm
  rw [show (⟨l, p, true, 0⟩ : CS).take 2 = _ from hts] at k1 ⊢
  rw [le_lb]
  exact ⟨by congr 2; omega, ⟨k1, h.2.1.trans k2 (by simpa using h.2.2), h.2.2⟩, k2⟩
theorem hcU32 (W w : World) (q y : Nat) (v : Value) (l pre post : List UInt8) (p : Nat) (h : HasCur W w q v l p) (hp : p = pre.length) (hs : l = pre ++ lb 4 y ++ post) (hc : y < 4294967296) : Calls Try.prog 14 #[.pointer (some ⟨q, 0, none⟩)] w fun e w' => e = .returned (.int .u32 y) ∧ HasCur W w' q v l (p + 4) ∧ Keep [q] w w' := by
  refine (cu32_c w q v _ h.1).mono ?_
  rintro e w' ⟨rfl, k1, k2⟩
  have hts := take_seg l pre (lb 4 y) post p 4 hs hp (lb_length _ _).symm
  rw [show (⟨l, p, true, 0⟩ : CS).take 4 = _ from hts] at k1 ⊢
  rw [le_lb]
  exact ⟨by congr 2; omega, ⟨k1, h.2.1.trans k2 (by simpa using h.2.2), h.2.2⟩, k2⟩
theorem hcBytes (W w : World) (q : Nat) (v : Value) (l pre mid post : List UInt8) (p : Nat) (h : HasCur W w q v l p) (hp : p = pre.length) (hs : l = pre ++ mid ++ post) : Calls Try.prog 15 #[.pointer (some ⟨q, 0, none⟩), .int .i64 mid.length] w fun e w' => ∃ v', e = .returned v' ∧ OwnB w' v' mid ∧ HasCur W w' q v l (p + mid.length) ∧ Keep [q] w w' := by
  refine (cuBytes_c w q v _ mid.length h.1).mono ?_
  rintro e w' ⟨v', rfl, ho, hv, k1, k2⟩
  have hts := take_seg l pre mid post p mid.length hs hp rfl
  rw [hts] at k1 ho
  exact ⟨v', rfl, ho, ⟨k1, h.2.1.trans k2 (by simpa using h.2.2), h.2.2⟩, k2⟩
set_option maxRecDepth 100000 in
set_option maxHeartbeats 4000000 in
theorem back_w (W : World) (v0 : Value) (x : WL) (h0 : isWrites W v0 x) : Calls Try.prog 6 #[v0] W fun e w' => e = .returned (.bool true) ∧ Keep [] W w' := by
  obtain ⟨hn, a1, cap1, rfl, hpos⟩ := h0
  go_enter Try.func6, Try.ntmps6
  go_wp2_with fail
  refine (roNew_c W).mono ?_; rintro e w1 ⟨r, rfl, hw, hk, hrW⟩
  have HW : HasRow W w1 r [] := ⟨_, hw, hk, hrW, by simp [Value.ownBlock]⟩
  have Hpos := Lib.hid hpos; clear hpos hw hk
  go_wp2_with fail
  go_loopw [4] (fun i wr => ∃ k : Nat, k ≤ x.n ∧ k ≤ 60 ∧ i = .int .i64 k ∧ HasRow W wr r (fb x k)) (fun i _ => 60 - (intOf i).toNat)
  case atStart => exact ⟨0, by omega, by omega, rfl, HW⟩
  case round =>
    obtain ⟨k, hk, hk6, rfl, HR⟩ := hrel
    have hfl := fb_le x k
    have key : (k < x.n ∧ k < 60) ∨ ¬ k < x.n ∨ (k < x.n ∧ ¬ k < 60) := by omega
    rcases key with ⟨hlt, hlt2⟩ | hlt | ⟨hlt, hlt2⟩
    · obtain ⟨b1, off1, rfl, hcells⟩ := Hpos.out (by omega)
      have C := Lib.hid (hcells k hlt)
      have hf : Hid (fb x (k + 1) = fb x k ++ lb 2 (cl16 (x.N k)) ++ lb 4 (x.X k) ++ (x.B k).take 40) := by unfold Hid; simp [fb]
      clear hcells Hpos HW
      generalize x.K k = z at C
      generalize x.N k = y at C hf
      generalize x.X k = yy at C hf
      generalize x.V k = vB at C
      generalize x.B k = lB at C hf
      have hl40 : (lB.take 40).length ≤ 40 := by rw [List.length_take]; omega
      generalize fb x k = L at HR hf hfl
      have hL1 : (L ++ lb 2 (cl16 y)).length ≤ 3000 := by simp [lb_length]; omega
      have hL2 : (L ++ lb 2 (cl16 y) ++ lb 4 yy).length ≤ 3000 := by simp [lb_length]; omega
      have hc16 : cl16 y ≤ 65535 := by unfold cl16; omega
      have HC : Hid (max 0 (min y 65535) = (cl16 y : Int)) := by unfold Hid cl16; omega
      have hyy := C.out.2.2.2.1
      generalize cl16 y = c at hf hL1 hL2 hc16 HC
      have K1 := HR.kept
      have R0 := HR.drew
      have e1 := (K1.drew).cellW C.out.2.1
      have e2 := (K1.drew).cellW C.out.2.2.1
      have e3 := (K1.drew).cellW C.out.2.2.2.2.1
      clear HR
      have hLL : L.length ≤ 3000 := by omega
      go_wp2_with fail
      have S0 : wr.drew.cell? ⟨b1, off1 + k * 4 + 1, none⟩ = some (.int .i64 y) ∧ wr.drew.cell? ⟨b1, off1 + k * 4 + 2, none⟩ = some (.int .u32 yy) ∧ wr.drew.cell? ⟨b1, off1 + k * 4 + 3, none⟩ = some vB := ⟨e1, e2, e3⟩
      have hHS : ∀ ww, Keep [] W ww → (ww.cell? ⟨b1, off1 + k * 4 + 1, none⟩ = some (.int .i64 y) ∧ ww.cell? ⟨b1, off1 + k * 4 + 2, none⟩ = some (.int .u32 yy) ∧ ww.cell? ⟨b1, off1 + k * 4 + 3, none⟩ = some vB) := fun ww K => ⟨K.cellW C.out.2.1, K.cellW C.out.2.2.1, K.cellW C.out.2.2.2.2.1⟩
      have HS := Lib.hid hHS
      clear e1 e2 e3 hHS
      go_region_held3 (fun w' => w'.cell? ⟨b1, off1 + k * 4 + 1, none⟩ = some (.int .i64 y) ∧ w'.cell? ⟨b1, off1 + k * 4 + 2, none⟩ = some (.int .u32 yy) ∧ w'.cell? ⟨b1, off1 + k * 4 + 3, none⟩ = some vB)
        (first | assumption | go_keep)
        (first
        | (go_at_call 27; (refine (within_c y 0 65535 _ (by decide)).mono ?_); (rintro e w' ⟨rfl, rfl⟩); (rw [HC.out]))
        | (go_at_call 25; (refine (hrU16 W _ r c L R0 hc16 hLL).mono ?_); (rintro e wA ⟨rfl, RA⟩); (have SA := HS.out _ RA.kept))
        | (go_at_call 28; (refine (hrU32 W wA r yy _ RA hyy hL1).mono ?_); (rintro e wB ⟨rfl, RB⟩); (have SB := HS.out _ RB.kept); (have hbB : Bs wB vB lB := C.out.2.2.2.2.2.keep RB.kept (by simp)))
        | (go_at_call 8; (refine (cut_c wB vB lB 40 (by decide) hbB).mono ?_); (rintro e w' ⟨vc, rfl, hbc, hvc, rfl⟩))
        | (go_at_call 29; (refine (hrPut W wB r _ vc _ RB hbc hL2 hl40).mono ?_); (rintro e wC ⟨rfl, RC⟩); (have SC := HS.out _ RC.kept)))
      have HRn : HasRow W wC r (fb x (k + 1)) := by rw [hf.out]; exact RC
      clear SA SB S0 RA RB RC R0 hbc hbB
      go_wp2
      go_roundw
      case rel => exact ⟨k + 1, by omega, by omega, by go_num, HRn⟩
      case measure => simp [intOf]; omega
    all_goals
      have hkk : Hid (k = x.n ∨ k = 60) := by unfold Hid; omega
      obtain ⟨v, h1, K1, _, hv⟩ := HR
      have hlen : (fb x k).length ≤ 3000 := by omega
      have hwb := Lib.hid (roBytes_c wr r v _ h1 (by simpa using Nat.le_trans hlen (by decide)))
      go_wp2_with fail
      refine hwb.out.mono ?_
      rintro e w2 ⟨vb, rfl, ho, hk2, hvb⟩
      have K2 : Keep [] W w2 := K1.trans hk2 (by simp)
      have hr2 : Ro w2 r v ⟨fb x k, 0⟩ := h1.keep hk2 (by simp) (by simp)
      have hop := Lib.hid (cuOpen_c w2 vb (fb x k) (by omega) ho.bs)
      have hrlt := hr2.1.lt
      have hvlt := hr2.2.1.lt
      clear h1 K1 hwb hk2 ho hvb
      go_wp2_with fail
      refine hop.out.mono ?_
      rintro e w3 ⟨q, v3, rfl, hq, hk3, hqn, hvn⟩
      have K3 : Keep [] W w3 := K2.trans hk3 (by simp)
      have hr3 : Ro w3 r v ⟨fb x k, 0⟩ := hr2.keep hk3 (by simp) (by simp)
      have hqr : q ≠ r := by omega
      have hqv : ∀ b, v.ownBlock = some b → b ≠ q := fun b hb => by have := hvlt b hb; omega
      have HC3 : HasCur W w3 q v3 (fb x k) (fb x 0).length := ⟨hq, K3, Nat.le_trans K2.size hqn⟩
      have Hqv := Lib.hid hqv
      have HB0 : HasCur W w3 q v3 (fb x k) (fb x 0).length ∧ Ro w3 r v ⟨fb x k, 0⟩ := ⟨HC3, hr3⟩
      clear hqv hr2 hop hq hk3 hvn K3 hr3 HC3 K2 hv
      go_wp2_with fail
      clear hlt
      go_loopw [6] (fun i wr => ∃ j : Nat, j ≤ k ∧ i = .int .i64 j ∧ HasCur W wr q v3 (fb x k) (fb x j).length ∧ Ro wr r v ⟨fb x k, 0⟩) (fun i _ => k - (intOf i).toNat)
      case atStart => exact ⟨0, by omega, rfl, HB0.1, HB0.2⟩
      case round =>
        obtain ⟨j, hj, rfl, HC, hro⟩ := hrel
        by_cases hjk : j < k
        · have hjn : j < x.n := by have := hkk.out; omega
          have hj6 : j < 60 := by have := hkk.out; omega
          obtain ⟨b1, off1, rfl, hcells⟩ := Hpos.out (by omega)
          have C := Lib.hid (hcells j hjn)
          obtain ⟨post, hpost⟩ := fb_split x (j + 1) k (by omega)
          have hf : fb x (j + 1) = fb x j ++ lb 2 (cl16 (x.N j)) ++ lb 4 (x.X j) ++ (x.B j).take 40 := by simp [fb]
          rw [hf] at hpost
          have hfl1 : (fb x (j + 1)).length = (fb x j).length + 2 + 4 + ((x.B j).take 40).length := by rw [hf]; simp [lb_length]; omega
          clear hcells Hpos hf
          generalize hLL : fb x k = L at hpost HC hro hlen
          have HLL := Lib.hid hLL; clear hLL
          have hseg1 : L = fb x j ++ lb 2 (cl16 (x.N j)) ++ (lb 4 (x.X j) ++ (x.B j).take 40 ++ post) := by rw [hpost]; simp
          have hseg2 : L = (fb x j ++ lb 2 (cl16 (x.N j))) ++ lb 4 (x.X j) ++ ((x.B j).take 40 ++ post) := by rw [hpost]; simp
          have hseg3 : L = (fb x j ++ lb 2 (cl16 (x.N j)) ++ lb 4 (x.X j)) ++ (x.B j).take 40 ++ post := hpost
          have hp2 : (fb x j).length + 2 = (fb x j ++ lb 2 (cl16 (x.N j))).length := by simp [lb_length]
          have hp3 : (fb x j).length + 2 + 4 = (fb x j ++ lb 2 (cl16 (x.N j)) ++ lb 4 (x.X j)).length := by simp [lb_length]
          have S1 := Lib.hid hseg1; have S2 := Lib.hid hseg2; have S3 := Lib.hid hseg3; have P2 := Lib.hid hp2; have P3 := Lib.hid hp3; have FL := Lib.hid hfl1
          clear hpost hseg1 hseg2 hseg3 hp2 hp3 hfl1
          have hc16 : cl16 (x.N j) ≤ 65535 := by unfold cl16; omega
          have HCl : Hid (max 0 (min (x.N j) 65535) = (cl16 (x.N j) : Int)) := by unfold Hid cl16; omega
          have hl40 : ((x.B j).take 40).length ≤ 40 := by rw [List.length_take]; omega
          generalize x.K j = z at C
          generalize x.N j = y at C S1 S2 S3 P2 P3 HCl hc16
          generalize x.X j = yy at C S1 S2 S3 P3
          generalize x.V j = vB at C
          generalize x.B j = lB at C S1 S2 S3 FL hl40
          generalize cl16 y = c at S1 S2 S3 P2 P3 HCl hc16
          have hyy := C.out.2.2.2.1
          have e3 := HC.2.1.cellW C.out.2.2.2.2.1
          have hB0 : Bs wr vB lB := C.out.2.2.2.2.2.keep HC.2.1 (by simp)
          have hHS : ∀ ww, Keep [] W ww → (ww.cell? ⟨b1, off1 + j * 4 + 1, none⟩ = some (.int .i64 y) ∧ ww.cell? ⟨b1, off1 + j * 4 + 2, none⟩ = some (.int .u32 yy)) := fun ww K => ⟨K.cellW C.out.2.1, K.cellW C.out.2.2.1⟩
          have HS := Lib.hid hHS
          clear hHS
          go_wp2_with fail
          refine (cut_c wr vB lB 40 (by decide) hB0).mono ?_
          rintro e w' ⟨vc, rfl, hbc, hvc, rfl⟩
          have hvq : lB.take 40 ≠ [] → ∀ b, vc.ownBlock = some b → b ∉ [q] := by
            intro hne b hb
            have h1 := Bs.lt C.out.2.2.2.2.2 (by rintro rfl; simp at hne) b (by rw [← hvc]; exact hb)
            have := HC.2.2
            simp; omega
          have Hvq := Lib.hid hvq; clear hvq
          generalize lB.take 40 = mb at S1 S2 S3 FL hl40 hbc Hvq
          have hbd : Bs wr.drew vc mb := hbc.keep ((Keep.refl [] _).drew) (by simp)
          obtain ⟨ac, cc, rfl, _⟩ := hbc.shape
          have R0 := HC.drew
          have ro0 : Ro wr.drew r v ⟨L, 0⟩ := hro.keep ((Keep.refl [] _).drew) (by simp) (by simp)
          have S0 := HS.out _ R0.2.1
          generalize hpp : (fb x j).length = p at HC R0 P2 P3 FL
          have P1 := Lib.hid hpp.symm
          have hmb : mb.length ≤ 40 := hl40
          clear HC e3 hB0 hbc hro hpp
          go_wp2_with fail
          go_region_held3 (fun w' => w'.cell? ⟨b1, off1 + j * 4 + 1, none⟩ = some (.int .i64 y) ∧ w'.cell? ⟨b1, off1 + j * 4 + 2, none⟩ = some (.int .u32 yy))
            (first | assumption | go_keep)
            (first
            | (go_at_call 27; (refine (within_c y 0 65535 _ (by decide)).mono ?_); (rintro e w' ⟨rfl, rfl⟩); (rw [HCl.out]))
            | (go_at_call 11; (refine (hcU16 W _ q c v3 L _ _ p R0 P1.out S1.out hc16).mono ?_); (rintro e wA ⟨rfl, RA, kA⟩); (have SA := HS.out _ RA.2.1); (have roA := ro0.keep kA (by simpa using Ne.symm hqr) (fun b hb => by simpa using Hqv.out b hb)); (have hbA := hbd.keep' kA Hvq.out))
            | (go_at_call 14; (refine (hcU32 W wA q yy v3 L _ _ _ RA P2.out S2.out hyy).mono ?_); (rintro e wB ⟨rfl, RB, kB⟩); (have SB := HS.out _ RB.2.1); (have roB := roA.keep kB (by simpa using Ne.symm hqr) (fun b hb => by simpa using Hqv.out b hb)); (have hbB := hbA.keep' kB Hvq.out))
            | (go_at_call 15; (refine (hcBytes W wB q v3 L _ mb _ _ RB P3.out S3.out).mono ?_); (rintro e wC ⟨vg, rfl, og, RC, kC⟩); (have SC := HS.out _ RC.2.1); (have roC := roB.keep kC (by simpa using Ne.symm hqr) (fun b hb => by simpa using Hqv.out b hb)); (have hbC := hbB.keep' kC Hvq.out))
            | (go_at_call 16; (refine (same_c wC vg _ mb mb og.bs hbC).mono ?_); (rintro e wD ⟨rfl, m, rfl⟩); (have SD := HS.out _ (RC.2.1.drewN m))))
          have HN : HasCur W (wC.drewN m) q v3 L (fb x (j + 1)).length ∧ Ro (wC.drewN m) r v ⟨L, 0⟩ := by
            rw [FL.out]; exact ⟨RC.drewN m, roC.drewN m⟩
          clear SA SB SC SD S0 RA RB RC R0 roA roB roC ro0 hbA hbB hbC hbd og kA kB kC
          generalize wC.drewN m = wE at HN ⊢
          go_wp2
          go_roundw
          case rel => exact ⟨j + 1, by omega, by go_num, HN.1, HN.2⟩
          case measure => simp [intOf]; omega
        · obtain rfl : j = k := by omega
          have hkey : ¬ j < x.n ∨ (j < x.n ∧ ¬ j < 60) := by have := hkk.out; omega
          have hfin : (⟨fb x j, (fb x j).length, true, 0⟩ : CS).fin = 0 := by
            have hE : (⟨fb x j, (fb x j).length, true, 0⟩ : CS).E = 0 := rfl
            unfold CS.fin CS.left; rw [if_pos hE]; simp [hE]
          have HF := Lib.hid hfin; clear hfin
          rcases hkey with hj1 | ⟨hj1, hj2⟩
          all_goals
            go_wp2_with fail
            refine (roErr_c _ _ _ _ hro).mono ?_
            rintro e w' ⟨rfl, rfl⟩
            go_wp2_with fail
            refine (cuEnd_c _ _ _ _ HC.1).mono ?_
            rintro e w' ⟨rfl, m, rfl⟩
            rw [HF.out]
            have K5 := HC.2.1.drewN m
            generalize wr.drewN m = w5 at K5 ⊢
            go_wp2_with (refine (lives_c _).mono ?_; rintro e w' ⟨rfl, hk⟩)
            go_ret
            exact ⟨rfl, K5.trans hk (by simp)⟩
end Go.Proofs.Ytgohdhpokehflaa
