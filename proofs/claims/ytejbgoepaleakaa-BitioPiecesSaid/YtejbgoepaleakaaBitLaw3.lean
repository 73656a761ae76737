/- The walk of the law BitioPieces: it returns true at every input. -/
import Derived.Test.YtejbgoepaleakaaBitAll
import Derived.Test.YtejbgoepaleakaaOpen
namespace Go.Proofs.Ytejbgoepaleakaa
set_option linter.unusedVariables false
set_option linter.unusedSimpArgs false
open Go.ChangeShapes Go.WideShapes Go.ChangeAt Go.RowKit

theorem Is.cases {k : IntKind} {w : World} {v : Value} {l : List Int} (h : Is k w v l) : ∃ a cap, v = .slice a l.length cap ∧ l.length ≤ 9223372036854775807 ∧ (0 < l.length → ∃ b off, a = some ⟨b, off, none⟩ ∧ ∀ i (hi : i < l.length), w.cell? ⟨b, off + i, none⟩ = some (.int k l[i])) := by
  obtain ⟨a, cap, rfl, h1, h2, h3, h4, h5⟩ := h
  unfold maxLen at h2
  refine ⟨a, cap, rfl, by omega, fun hp => ?_⟩
  cases a with
  | none => have := h3 rfl; omega
  | some x =>
    obtain ⟨b, off, spot⟩ := x
    have hc := h4 _ rfl 0 hp
    have hspot : spot = none := by simpa [Addr.add] using World.cell?_spot hc
    subst hspot
    refine ⟨b, off, rfl, fun i hi => ?_⟩
    rw [← h4 _ rfl i hi]
    unfold Addr.add; split <;> simp_all
/-- a reader that has read p bits of l -/
def RdP (w : World) (r : Nat) (v : Value) (l : List UInt8) (p : Nat) : Prop := Rd w r v ⟨l, p, true, 0⟩
theorem RS.E_ok (l : List UInt8) (p : Nat) : (⟨l, p, true, 0⟩ : RS).E = 0 := rfl
theorem RS.left_ok (l : List UInt8) (p : Nat) : (⟨l, p, true, 0⟩ : RS).left = 8 * l.length - p := by unfold RS.left; rw [if_pos (RS.E_ok l p)]
theorem RdP.bits {l : List UInt8} {p n : Nat} (hn : n ≤ 32) (hp : p + n ≤ 8 * l.length) : (⟨l, p, true, 0⟩ : RS).bits n = (num l p n, ⟨l, p + n, true, 0⟩) := by
  unfold RS.bits
  rw [RS.left_ok, if_neg (by omega), if_neg (by rw [RS.E_ok]; simp), if_neg (by simp; omega)]
  simp
theorem bit_of_num (l : List UInt8) (p n k : Nat) (hk : k < n) : num l p n / 2 ^ k % 2 = num l (p + k) 1 := by
  have := num_cut l p n 1 k (by omega)
  simpa using this
theorem and_one (x : Nat) (k : Nat) (hx : x < 4294967296) : Go.bits .and .u32 ((x : Int) / 2 ^ k) 1 = ((x / 2 ^ k % 2 : Nat) : Int) := by
  have hd : x / 2 ^ k < 4294967296 := Nat.lt_of_le_of_lt (Nat.div_le_self _ _) hx
  rw [show ((x : Int) / 2 ^ k) = ((x / 2 ^ k : Nat) : Int) by simp, show (1 : Int) = ((1 : Nat) : Int) from rfl, u32_and_nat _ _ hd (by decide), Nat.and_one_is_mod]
def Two (W w : World) (r r2 : Nat) (v v2 : Value) (l : List UInt8) (p p2 : Nat) : Prop := RdP w r v l p ∧ RdP w r2 v2 l p2 ∧ Keep [] W w
set_option maxRecDepth 100000 in
set_option maxHeartbeats 4000000 in
theorem pieces_w (W : World) (v0 : Value) (l0 : List UInt8) (h0 : Bs W v0 l0) (v1 : Value) (zs : List Int) (h1 : Is .i64 W v1 zs) : Calls Try.prog 7 #[v0, v1] W fun e w' => e = .returned (.bool true) ∧ Keep [] W w' := by
  obtain ⟨a1, cap1, rfl, hzl, hpos⟩ := h1.cases
  go_enter Try.func7, Try.ntmps7
  go_wp2_with fail
  refine (cut_c W v0 l0 200 (by decide) h0).mono ?_; rintro e w' ⟨vb, rfl, hb, hvb, rfl⟩
  have hl100 : (l0.take 200).length ≤ 200 := by rw [List.length_take]; omega
  generalize l0.take 200 = l at hb hl100
  go_wp2_with fail
  refine (open_c W vb l (by omega) hb).mono ?_; rintro e w2 ⟨r, v, rfl, hr, hk2, hr2, hv2⟩
  have hb2 := hb.keep hk2 (by simp)
  go_wp2_with fail
  refine (open_c w2 vb l (by omega) hb2).mono ?_; rintro e w3 ⟨r', v', rfl, hr', hk3, hr3, hv3⟩
  have K3 : Keep [] W w3 := hk2.trans hk3 (by simp)
  have hrn := hr.keep hk3 (by simp) (by simp)
  have hne : r ≠ r' := by have := hr.1.lt; omega
  have hvlt := hr.2.1.lt
  have hvr : ∀ b, v.ownBlock = some b → b ≠ r' := fun b h => by have := hvlt b h; omega
  have hvr' : ∀ b, v'.ownBlock = some b → b ≠ r := fun b h => by have := hv3 b h; have := hr.1.lt; omega
  have hrW : W.heap.size ≤ r := hr2
  have hrW' : W.heap.size ≤ r' := by have := hk2.size; omega
  have HT : Two W w3 r r' v v' l 0 0 := ⟨hrn, hr', K3⟩
  have Hvr := Lib.hid hvr; have Hvr' := Lib.hid hvr'; have Hpos := Lib.hid hpos
  clear hvr hvr' hpos hv2 hv3 hvlt hr hr' hrn hk2 hk3 hb hb2 h0 h1 hr2 hr3 hvb K3
  go_wp2_with fail
  go_loopw [7] (fun i wr => ∃ (k p : Nat), k ≤ zs.length ∧ k ≤ 100 ∧ p ≤ 8 * l.length ∧ i = .int .i64 k ∧ Two W wr r r' v v' l p p) (fun i _ => 100 - (intOf i).toNat)
  case atStart => exact ⟨0, 0, by omega, by omega, by omega, rfl, HT⟩
  case round =>
    obtain ⟨k, p, hk, hk1, hp, rfl, hA, hB, K4⟩ := hrel
    by_cases hlt : k < zs.length
    · by_cases hlt2 : k < 100
      · obtain ⟨b1, off1, rfl, hcells⟩ := Hpos.out (by omega)
        have e0 := K4.cell (hcells k hlt) (by simp)
        generalize zs[k] = z at e0
        clear hcells
        obtain ⟨n, hn⟩ : ∃ n : Nat, max 0 (min z (max 0 (min (((⟨l, p, true, 0⟩ : RS).left : Nat) : Int) 32))) = n := ⟨(max 0 (min z (max 0 (min (((⟨l, p, true, 0⟩ : RS).left : Nat) : Int) 32)))).toNat, by omega⟩
        have hleft : (⟨l, p, true, 0⟩ : RS).left = 8 * l.length - p := RS.left_ok l p
        have hn32 : n ≤ 32 := by omega
        have hnl : p + n ≤ 8 * l.length := by omega
        have Hn := Lib.hid hn; clear hn hleft
        go_upto_region 6 with fail
        go_quiet (first
          | (go_at_call 22; exact Calls.quiet_of (left_c _ _ _ _ (Rd.drewN hA _)))
          | (go_at_call 38; exact quiet_left (within_c _ _ _ _ (by omega))))
        have hA2 := Rd.drewN hA nq
        have hB2 := Rd.drewN hB nq
        have K5 := K4.drewN nq
        generalize wr.drewN nq = w5 at hA2 hB2 K5 ⊢
        rw [Hn.out]
        clear hA hB K4 e0
        go_wp2_with fail
        have hbits := bits_c w5 r v _ n hA2
        rw [RdP.bits hn32 hnl] at hbits
        have Hb := Lib.hid hbits; clear hbits
        refine Hb.out.mono ?_; rintro e w6 ⟨rfl, hA6, hk6⟩
        have K6 : Keep [] W w6 := K5.trans hk6 (by simpa using hrW)
        have hB6 := hB2.keep hk6 (by simpa using Ne.symm hne) (fun b hb hm => Hvr'.out b hb (by simpa using hm))
        have HT6 : Two W w6 r r' v v' l (p + n) p := ⟨hA6, hB6, K6⟩
        have hx : num l p n < 4294967296 := Nat.lt_of_lt_of_le (num_lt l p n) (Nat.pow_le_pow_right (n := 2) (j := 32) (by decide) hn32)
        obtain ⟨x, hxe⟩ : ∃ x, x = num l p n := ⟨_, rfl⟩
        rw [← hxe] at hx ⊢
        have Hx := Lib.hid hxe
        clear hxe hA2 hB2 K5 hA6 hB6 K6 hk6
        go_wp2_with fail
        go_loopw [10] (fun i wr => ∃ j : Nat, j ≤ n ∧ i = .int .i64 j ∧ Two W wr r r' v v' l (p + n) (p + j)) (fun i _ => n - (intOf i).toNat)
        case atStart => exact ⟨0, by omega, rfl, HT6⟩
        case round =>
          obtain ⟨j, hj, rfl, hA7, hB7, K7⟩ := hrel
          by_cases hjn : j < n
          · have hbit := bit_c wr r' v' _ hB7
            rw [show ((⟨l, p + j, true, 0⟩ : RS).bits 1) = (num l (p + j) 1, ⟨l, p + j + 1, true, 0⟩) from RdP.bits (n := 1) (by decide) (by omega)] at hbit
            have hcmp : (((num l (p + j) 1 : Nat) : Int) != Go.bits .and .u32 ((x : Int) / 2 ^ j) 1) = false := by
              rw [and_one x j hx, Hx.out, bit_of_num l p n j hjn]; simp
            have Hb7 := Lib.hid hbit; have Hcmp := Lib.hid hcmp; clear hbit hcmp
            go_wp2_with fail
            refine Hb7.out.mono ?_; rintro e w8 ⟨rfl, hB8, hk8⟩
            have K8 : Keep [] W w8 := K7.trans hk8 (by simpa using hrW')
            have hA8 := Rd.keep hA7 hk8 (by simpa using hne) (fun b hb hm => Hvr.out b hb (by simpa using hm))
            have HT8 : Two W w8 r r' v v' l (p + n) (p + (j + 1)) := ⟨hA8, hB8, K8⟩
            clear hA7 hB7 K7 hB8 hk8 K8 hA8
            have hcmp := Hcmp.out
            go_wp2
            go_roundw
            case rel => exact ⟨j + 1, by omega, by go_num, HT8⟩
            case measure => simp [intOf]; omega
          · have HT8 : Two W wr r r' v v' l (p + n) (p + n) := ⟨hA7, by rw [show n = j by omega]; exact hB7, K7⟩
            clear hA7 hB7 K7
            go_wp2
            go_roundw
            case rel => exact ⟨k + 1, p + n, by omega, by omega, by omega, by go_num, HT8⟩
            case measure => simp [intOf]; omega
      · obtain ⟨b1, off1, rfl, hcells⟩ := Hpos.out (by omega)
        clear hcells
        go_wp2_with fail
        refine (left_c _ _ _ _ hA).mono ?_; rintro e w' ⟨rfl, m, rfl⟩
        go_wp2_with fail
        refine (left_c _ _ _ _ (Rd.drewN hB m)).mono ?_; rintro e w' ⟨rfl, m2, rfl⟩
        have he1 := err_c _ _ _ _ ((Rd.drewN hA m).drewN m2)
        have he2 := err_c _ _ _ _ ((Rd.drewN hB m).drewN m2)
        have K9 := (K4.drewN m).drewN m2
        generalize (wr.drewN m).drewN m2 = w9 at he1 he2 K9 ⊢
        have He1 := Lib.hid he1; have He2 := Lib.hid he2; clear he1 he2 hA hB K4
        go_wp2_with fail
        refine He1.out.mono ?_; rintro e w' ⟨rfl, rfl⟩
        rw [RS.E_ok]
        go_wp2_with fail
        refine He2.out.mono ?_; rintro e w' ⟨rfl, rfl⟩
        rw [RS.E_ok]
        go_wp2_with (refine (lives_c _).mono ?_; rintro e w' ⟨rfl, hk⟩)
        go_ret
        exact ⟨rfl, K9.trans hk (by simp)⟩
    · go_wp2_with fail
      refine (left_c _ _ _ _ hA).mono ?_; rintro e w' ⟨rfl, m, rfl⟩
      go_wp2_with fail
      refine (left_c _ _ _ _ (Rd.drewN hB m)).mono ?_; rintro e w' ⟨rfl, m2, rfl⟩
      have he1 := err_c _ _ _ _ ((Rd.drewN hA m).drewN m2)
      have he2 := err_c _ _ _ _ ((Rd.drewN hB m).drewN m2)
      have K9 := (K4.drewN m).drewN m2
      generalize (wr.drewN m).drewN m2 = w9 at he1 he2 K9 ⊢
      have He1 := Lib.hid he1; have He2 := Lib.hid he2; clear he1 he2 hA hB K4
      go_wp2_with fail
      refine He1.out.mono ?_; rintro e w' ⟨rfl, rfl⟩
      rw [RS.E_ok]
      go_wp2_with fail
      refine He2.out.mono ?_; rintro e w' ⟨rfl, rfl⟩
      rw [RS.E_ok]
      go_wp2_with (refine (lives_c _).mono ?_; rintro e w' ⟨rfl, hk⟩)
      go_ret
      exact ⟨rfl, K9.trans hk (by simp)⟩
end Go.Proofs.Ytejbgoepaleakaa
