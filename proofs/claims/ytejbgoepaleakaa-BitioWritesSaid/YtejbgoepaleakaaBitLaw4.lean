/- The walk of the law BitioBack: it returns true at every input. -/
import Derived.Test.YtejbgoepaleakaaBitWr2
import Derived.Test.YtejbgoepaleakaaBitAll
import Derived.Test.YtejbgoepaleakaaBitLaw3
import Derived.Test.YtejbgoepaleakaaBitBackMath
import Derived.Test.YtejbgoepaleakaaOpen
namespace Go.Proofs.Ytejbgoepaleakaa
set_option linter.unusedVariables false
set_option linter.unusedSimpArgs false
open Go.ChangeShapes Go.WideShapes Go.ChangeAt Go.RowKit

/-- n writings: kinds, numbers of bits, bits, bytes -/
structure WL where
  n : Nat
  K : Nat → Int
  N : Nat → Int
  X : Nat → Nat
  V : Nat → Value
  B : Nat → List UInt8
def isWrites (w : World) (v : Value) (x : WL) : Prop := x.n ≤ 9223372036854775807 ∧ ∃ a cap, v = .slice a x.n cap ∧ (0 < x.n → ∃ b off, a = some ⟨b, off, none⟩ ∧ ∀ i, i < x.n →
  w.cell? ⟨b, off + i * 4, none⟩ = some (.int .i64 (x.K i)) ∧ w.cell? ⟨b, off + i * 4 + 1, none⟩ = some (.int .i64 (x.N i)) ∧ w.cell? ⟨b, off + i * 4 + 2, none⟩ = some (.int .u32 (x.X i)) ∧ x.X i < 4294967296 ∧
  w.cell? ⟨b, off + i * 4 + 3, none⟩ = some (x.V i) ∧ Bs w (x.V i) (x.B i))
section
variable {H : Type} {enc : TypeId × Value → H} {W : World} {base base0 : Nat} {spare : Nat → Bool} {held : Bool} {v : Value} {d : DataW H} {p : List MemPlace}
theorem open_writes (hv : Value.okWide Try.prog W .any base0 45 v) (h : DataW.Trod enc Try.prog W base spare held 45 v d p) : ∃ x, isWrites W v x := by
  obtain ⟨n, C, hst, hf⟩ := open_sts Try.underlying45 Try.underlying52 (by kernel_rfl) (by kernel_rfl) hv h
  have k0 : ∀ i, i < n → C i 0 = .int .i64 (intOf (C i 0)) := fun i hi => by
    obtain ⟨f, y, hy⟩ := hf i hi 0 _ rfl; obtain ⟨z, hz, _⟩ := int_of_trod Try.underlying3 hy; rw [hz]; rfl
  have k1 : ∀ i, i < n → C i 1 = .int .i64 (intOf (C i 1)) := fun i hi => by
    obtain ⟨f, y, hy⟩ := hf i hi 1 _ rfl; obtain ⟨z, hz, _⟩ := int_of_trod Try.underlying3 hy; rw [hz]; rfl
  have k2 : ∀ i, i < n → C i 2 = .int .u32 ((intOf (C i 2)).toNat : Nat) ∧ (intOf (C i 2)).toNat < 4294967296 := fun i hi => by
    obtain ⟨f, y, hy⟩ := hf i hi 2 _ rfl; obtain ⟨z, hz, hw⟩ := int_of_trod Try.underlying33 hy
    have h : 0 ≤ z ∧ z ≤ 4294967295 := by simpa [Lit.wf, IntKind.min, IntKind.max, IntKind.bits, IntKind.signed] using hw
    rw [hz]; simp only [intOf]
    exact ⟨by rw [Int.toNat_of_nonneg h.1], by omega⟩
  have k3 : ∀ i, ∃ l, i < n → Bs W (C i 3) l := fun i => by
    by_cases hi : i < n
    · obtain ⟨f, y, hy⟩ := hf i hi 3 _ rfl; obtain ⟨l, hl⟩ := bs_of_trod hy; exact ⟨l, fun _ => hl⟩
    · exact ⟨[], fun h => absurd h hi⟩
  have hn : n ≤ 9223372036854775807 := by obtain ⟨a, cap, rfl, h1, h2, _⟩ := hst; unfold maxLen at h2; omega
  refine ⟨⟨n, fun i => intOf (C i 0), fun i => intOf (C i 1), fun i => (intOf (C i 2)).toNat, fun i => C i 3, fun i => Classical.choose (k3 i)⟩, hn, ?_⟩
  rcases hst.cases (by decide) with ⟨h0, a, cap, rfl, _⟩ | ⟨hp, b, off, cap, rfl, _, _, _, hc⟩
  · exact ⟨a, cap, by simp only [h0], fun h => by simp only [h0] at h; omega⟩
  · refine ⟨_, cap, rfl, fun _ => ⟨b, off, rfl, fun i hi => ⟨?_, ?_, ?_, (k2 i hi).2, hc i hi 3 (by decide), Classical.choose_spec (k3 i) hi⟩⟩⟩
    · rw [← k0 i hi]; exact hc i hi 0 (by decide)
    · rw [← k1 i hi]; exact hc i hi 1 (by decide)
    · rw [← (k2 i hi).1]; exact hc i hi 2 (by decide)
end

/-- the bits of the first k numbers -/
def flat (x : WL) : Nat → List Bool
  | 0 => []
  | k + 1 => flat x k ++ bitsOf (x.X k) (cln (x.N k))
theorem cln_le (n : Int) : cln n ≤ 32 := by unfold cln; omega
theorem flat_le (x : WL) (k : Nat) : (flat x k).length ≤ 32 * k := by
  induction k with
  | zero => simp [flat]
  | succ k ih => have := cln_le (x.N k); simp [flat, bitsOf_length]; omega
theorem flat_split (x : WL) (k m : Nat) (h : k ≤ m) : ∃ post, flat x m = flat x k ++ post := by
  induction m with
  | zero => obtain rfl : k = 0 := by omega
            exact ⟨[], by simp⟩
  | succ m ih =>
    by_cases hk : k = m + 1
    · subst hk; exact ⟨[], by simp⟩
    · obtain ⟨post, hp⟩ := ih (by omega)
      exact ⟨post ++ bitsOf (x.X m) (cln (x.N m)), by rw [flat, hp, List.append_assoc]⟩
def HasW (W w : World) (r : Nat) (bs : List Bool) : Prop := ∃ v, Wr w r v bs ∧ Keep [] W w ∧ ∀ b, v.ownBlock = some b → W.heap.size ≤ b
set_option maxRecDepth 100000 in
set_option maxHeartbeats 4000000 in
theorem back_w (W : World) (v0 : Value) (x : WL) (h0 : isWrites W v0 x) : Calls Try.prog 6 #[v0] W fun e w' => e = .returned (.bool true) ∧ Keep [] W w' := by
  obtain ⟨hn, a1, cap1, rfl, hpos⟩ := h0
  go_enter Try.func6, Try.ntmps6
  go_wp2_with fail
  refine (new_c W).mono ?_; rintro e w1 ⟨r, rfl, hw, hk, hrW⟩
  have HW : HasW W w1 r [] := ⟨_, hw, hk, by simp [Value.ownBlock]⟩
  have Hpos := Lib.hid hpos; clear hpos hw hk
  go_wp2_with fail
  go_loopw [4, 5] (fun t i wr => ∃ k : Nat, k ≤ x.n ∧ k ≤ 80 ∧ i = .int .i64 k ∧ t = .int .i64 (flat x k).length ∧ HasW W wr r (flat x k)) (fun _ i _ => 80 - (intOf i).toNat)
  case atStart => exact ⟨0, by omega, by omega, rfl, rfl, HW⟩
  case round =>
    obtain ⟨k, hk, hk8, rfl, rfl, v, hw, K1, hv⟩ := hrel
    have hfl := flat_le x k
    have key : (k < x.n ∧ k < 80) ∨ ¬ k < x.n ∨ (k < x.n ∧ ¬ k < 80) := by omega
    rcases key with ⟨hlt, hlt2⟩ | hlt | ⟨hlt, hlt2⟩
    · obtain ⟨b1, off1, rfl, hcells⟩ := Hpos.out (by omega)
      obtain ⟨_, e1, e2, hx, _⟩ := hcells k hlt
      have e1 := K1.cell e1 (by simp)
      have e2 := K1.cell e2 (by simp)
      clear hcells
      have hc := cln_le (x.N k)
      have hsum : (flat x (k + 1)).length = (flat x k).length + cln (x.N k) := by simp [flat, bitsOf_length]
      have hpt := Lib.hid (wput_c wr r v (flat x k) (x.X k) (cln (x.N k)) hx hw (by omega))
      have hcc : cln (cln (x.N k) : Nat) = cln (x.N k) := by unfold cln at hc ⊢; omega
      have Hsum := Lib.hid hsum; have Hcc := Lib.hid hcc; clear hsum hcc hw
      obtain ⟨c, hcd⟩ : ∃ c, c = cln (x.N k) := ⟨_, rfl⟩
      have hcz : max 0 (min (x.N k) 32) = (c : Int) := by rw [hcd]; unfold cln; omega
      rw [← hcd] at hc hpt Hsum Hcc
      have Hcz := Lib.hid hcz; have Hcd := Lib.hid hcd; clear hcz hcd
      generalize x.N k = nn at e1 Hcz
      generalize hxx : x.X k = xx at e2 hx hpt
      generalize (flat x k).length = len at hfl Hsum ⊢
      have Hxx := Lib.hid hxx; clear hxx
      go_wp2_with fail
      refine (within_c nn 0 32 _ (by decide)).mono ?_; rintro e w' ⟨rfl, rfl⟩
      rw [Hcz.out]
      go_wp2_with fail
      refine hpt.out.mono ?_; rintro e w2 ⟨v2, rfl, hw2, hk2, hv2⟩
      have K2 : Keep [] W w2 := K1.trans hk2 (by
        intro b hb; right; simp at hb
        rcases hb with rfl | hb
        · exact hrW
        · exact hv b hb)
      have HW2 : HasW W w2 r (flat x (k + 1)) := ⟨v2, by rw [flat, Hxx.out, ← Hcd.out]; rw [Hcc.out] at hw2; exact hw2, K2, fun b hb => by
        rcases hv2 b hb with h | h
        · exact hv b h
        · have := K1.size; omega⟩
      clear hw2 hk2 K2 hv2 hv K1 e1 e2
      go_wp2
      go_roundw
      case rel => exact ⟨k + 1, by omega, by omega, by go_num, by rw [Hsum.out]; go_num, HW2⟩
      case measure => simp [intOf]; omega
    all_goals
      have hkk : Hid (k = x.n ∨ k = 80) := by unfold Hid; omega
      have hwb := Lib.hid (wbytes_c wr r v (flat x k) hw (by omega))
      have hlen1 : ((flat x k).length : Int) ≤ 2560 := by omega
      clear hw hv
      go_wp2_with fail
      refine hwb.out.mono ?_; rintro e w2 ⟨vb, l, rfl, ho, hl, hk2, hvb⟩
      have K2 : Keep [] W w2 := K1.trans hk2 (by simp)
      have hl8 : 8 * l.length ≤ (flat x k).length + 7 ∧ (flat x k).length ≤ 8 * l.length := by
        have := congrArg List.length hl
        rw [toBits_length] at this
        simp [pad8] at this; omega
      have hop := Lib.hid (open_c w2 vb l (by omega) ho.bs)
      have Hl := Lib.hid hl; clear hl hk2 K1 hvb ho
      go_wp2_with fail
      refine hop.out.mono ?_; rintro e w3 ⟨q, v3, rfl, hr3, hk3, hq3, hv3⟩
      have K3 : Keep [] W w3 := K2.trans hk3 (by simp)
      have hqW : W.heap.size ≤ q := by have := K2.size; omega
      have hr3 : RdP w3 q v3 l (flat x 0).length := hr3
      clear hk3 hv3 hq3 K2
      go_wp2_with fail
      clear hlt
      go_loopw [8] (fun i wr => ∃ j : Nat, j ≤ k ∧ i = .int .i64 j ∧ RdP wr q v3 l (flat x j).length ∧ Keep [] W wr) (fun i _ => k - (intOf i).toNat)
      case atStart => exact ⟨0, by omega, rfl, hr3, K3⟩
      case round =>
        obtain ⟨j, hj, rfl, hrd, K4⟩ := hrel
        by_cases hjk : j < k
        · have hjn : j < x.n := by have := hkk.out; omega
          have hj8 : j < 80 := by have := hkk.out; omega
          obtain ⟨b1, off1, rfl, hcells⟩ := Hpos.out (by omega)
          obtain ⟨_, e1, e2, hx, _⟩ := hcells j hjn
          have eX := Lib.hid e2
          have e1 := K4.cell e1 (by simp)
          have e2 := K4.cell e2 (by simp)
          clear hcells
          obtain ⟨c, hcd⟩ : ∃ c, c = cln (x.N j) := ⟨_, rfl⟩
          have hc := cln_le (x.N j)
          rw [← hcd] at hc
          have hcz : max 0 (min (x.N j) 32) = (c : Int) := by rw [hcd]; unfold cln; omega
          obtain ⟨post, hpost⟩ := flat_split x (j + 1) k (by omega)
          have hseg : toBits l = flat x j ++ bitsOf (x.X j) c ++ (post ++ List.replicate ((8 - (flat x k).length % 8) % 8) false) := by
            rw [Hl.out, pad8, hpost, flat, hcd]; simp
          have hnum := num_seg l _ _ _ _ hseg
          have hpl : (flat x j).length + c ≤ 8 * l.length := by
            have := congrArg List.length hseg
            simp only [toBits_length, List.length_append, bitsOf_length] at this; omega
          have hf1 : (flat x (j + 1)).length = (flat x j).length + c := by simp [flat, bitsOf_length, hcd]
          have hlk := look_c wr q v3 _ c hrd
          rw [show (⟨l, (flat x j).length, true, 0⟩ : RS).look c = (x.X j % 2 ^ c, c) by
            unfold RS.look; rw [RS.left_ok, if_neg (by rw [RS.E_ok]; omega)]
            simp [hnum]; omega] at hlk
          have Hcz := Lib.hid hcz; have Hlk := Lib.hid hlk; have Hf1 := Lib.hid hf1; have Hnum := Lib.hid hnum
          clear hcz hlk hf1 hnum hseg hpost hcd
          generalize x.N j = nn at e1 Hcz
          generalize x.X j = xx at e2 hx Hlk Hnum eX
          generalize (flat x j).length = p at hrd hpl Hf1 Hlk Hnum
          have hmask := mask_low xx c hx hc
          have hmod : xx % 2 ^ c < 4294967296 := Nat.lt_of_le_of_lt (Nat.mod_le _ _) hx
          have Hmask := Lib.hid hmask; clear hmask
          obtain ⟨y, hy⟩ : ∃ y, y = xx % 2 ^ c := ⟨_, rfl⟩
          rw [← hy] at hmod Hlk Hnum Hmask
          have Hy := Lib.hid hy; clear hy
          go_wp2_with fail
          refine (within_c nn 0 32 _ (by decide)).mono ?_; rintro e w' ⟨rfl, rfl⟩
          rw [Hcz.out]
          go_wp2_with fail
          refine Hlk.out.mono ?_; rintro e w5 ⟨rfl, m, rfl⟩
          have hbt := bits_c _ q v3 _ c (Rd.drewN hrd m)
          rw [RdP.bits hc hpl, Hnum.out] at hbt
          have Hbt := Lib.hid hbt; have e2' := e2
          clear hbt hrd
          go_wp2_with fail
          refine Hbt.out.mono ?_; rintro e w6 ⟨rfl, hr6, hk6⟩
          have K6 : Keep [] W w6 := (K4.drewN m).trans hk6 (by simpa using hqW)
          have e3 := K6.cell eX.out (by simp)
          have HR6 : RdP w6 q v3 l (flat x (j + 1)).length ∧ Keep [] W w6 := ⟨by rw [Hf1.out]; exact hr6, K6⟩
          have hcmp : ((y : Int) != Go.bits .and .u64 (xx : Int) (IntKind.u64.wrap (IntKind.u64.wrap (2 ^ c) - 1))) = false := by rw [Hmask.out]; simp
          clear hr6 hk6 e1 e2 e2' K4 K6
          go_wp2
          go_roundw
          case rel => exact ⟨j + 1, by omega, by go_num, HR6.1, HR6.2⟩
          case measure => simp [intOf]; omega
        · obtain rfl : j = k := by omega
          have hkey : ¬ j < x.n ∨ (j < x.n ∧ ¬ j < 80) := by have := hkk.out; omega
          have hleft : (⟨l, (flat x j).length, true, 0⟩ : RS).left = 8 * l.length - (flat x j).length := RS.left_ok _ _
          have hle8 : 8 * l.length - (flat x j).length < 8 := by omega
          have hzero : num l (flat x j).length (8 * l.length - (flat x j).length) = 0 := by
            refine num_false l (flat x j) [] _ ?_
            rw [Hl.out, pad8]
            have := congrArg List.length Hl.out
            simp only [toBits_length, pad8, List.length_append, List.length_replicate] at this
            rw [List.append_nil]; congr 2; omega
          have Hleft := Lib.hid hleft; have Hz := Lib.hid hzero; clear hleft hzero
          have hsum8 : (flat x j).length + (8 * l.length - (flat x j).length) ≤ 8 * l.length := by omega
          generalize hlf : 8 * l.length - (flat x j).length = lf at hle8 Hleft Hz hsum8
          clear hlf
          rcases hkey with hj1 | ⟨hj1, hj2⟩
          all_goals
            go_wp2_with fail
            refine (left_c _ _ _ _ hrd).mono ?_; rintro e w5 ⟨rfl, m, rfl⟩
            rw [Hleft.out]
            have hr5 := Rd.drewN hrd m
            have K5 := K4.drewN m
            generalize wr.drewN m = w5 at hr5 K5 ⊢
            have hbt := bits_c _ q v3 _ lf hr5
            rw [RdP.bits (by omega) hsum8, Hz.out] at hbt
            have Hbt := Lib.hid hbt
            clear hbt hrd K4
            generalize (flat x j).length = p at hr5 Hbt hlen1 ⊢
            go_wp2_with fail
            refine (read_c _ _ _ _ hr5).mono ?_; rintro e w6 ⟨rfl, rfl⟩
            go_wp2_with fail
            refine Hbt.out.mono ?_; rintro e w6 ⟨rfl, hr6, hk6⟩
            have K6 : Keep [] W w6 := K5.trans hk6 (by simpa using hqW)
            have he := err_c _ _ _ _ hr6
            have He := Lib.hid he; clear he hr6 hr5 K5 hk6 Hbt
            go_wp2_with fail
            refine He.out.mono ?_; rintro e w' ⟨rfl, rfl⟩
            rw [RS.E_ok]
            go_wp2_with (refine (lives_c _).mono ?_; rintro e w' ⟨rfl, hk⟩)
            go_ret
            exact ⟨rfl, K6.trans hk (by simp)⟩
end Go.Proofs.Ytejbgoepaleakaa
