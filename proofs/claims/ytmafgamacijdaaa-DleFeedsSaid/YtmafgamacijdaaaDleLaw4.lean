/- The walk of DleFeeds. -/
import Derived.Test.YtmafgamacijdaaaDleLaw3
import Derived.Deep.RegionHeld3
namespace Go.Proofs.Ytmafgamacijdaaa
set_option linter.unusedVariables false
set_option linter.unusedSimpArgs false
set_option maxRecDepth 100000
open Go.ChangeShapes Go.WideShapes Go.ChangeAt Go.RowKit

theorem feed_grow (m : MS) (c : UInt8) : (m.feed c).2.o.b.length ≤ m.o.b.length + m.N + 3 := by
  have hlit : ∀ x, (m.o.lit x).2.b.length ≤ m.o.b.length + 1 := by
    intro x; unfold HS.lit; split
    · show m.o.b.length ≤ _; omega
    · show (m.o.b ++ [x]).length ≤ _; rw [List.length_append]; exact Nat.le_refl _
  have hcopy : ∀ d : Int, (m.o.copy d (m.N + 3 : Nat)).2.b.length ≤ m.o.b.length + (m.N + 3) := by
    intro d
    unfold HS.copy
    split
    · show m.o.b.length ≤ _; omega
    · split
      · show m.o.b.length ≤ _; omega
      · split
        · show m.o.b.length ≤ _; omega
        · show (cpy m.o.b d.toNat ((m.N + 3 : Nat) : Int).toNat).length ≤ _
          rw [cpy_len]; simp
  unfold MS.feed
  split
  · show m.o.b.length ≤ _; omega
  split
  · split
    · show m.o.b.length ≤ _; omega
    · have := hlit c; show (m.o.lit c).2.b.length ≤ _; omega
  split
  · split
    · have := hlit 144; show (m.o.lit 144).2.b.length ≤ _; omega
    · show m.o.b.length ≤ _; omega
  split
  · show m.o.b.length ≤ _; omega
  · have := hcopy (256 * (m.V / low13 m.f) + c.toNat + 1 : Nat); show (m.o.copy _ _).2.b.length ≤ _; omega
/-- a take, its slot said -/
theorem wpAnyH_takeD {P : Program} {ops : Array Oper} {Q : Exit → Act → World → Prop} {md : Region.Mode} {S : World → Prop} (i : Nat) (d : Option Tmp) {oi : Oper} {v : Value} {fuel : Nat} {listed : Array Bool} {a : Act} {w : World} (hi : ops[i]? = some oi) (hd : oi.dst = d)
    (hs : Region.noSelect ops = true) (hf : Region.free md ops listed i = true) (hr : (Region.ready md ops listed).contains i = true)
    (hQ : ∀ c a w, Q (.panic c) (a.put d v) w → Q (.panic c) a w) (hy : YieldsIf P ops S oi v a) (hS : S w)
    (h : wpAnyH P md ops Q S fuel (listed.setIfInBounds i true) (a.put d v) w) : wpAnyH P md ops Q S (fuel + 1) listed a w := by
  subst hd
  exact wpAnyH_take hi hs hf hr hQ hy hS h
/-- a condition that says more serves one that says less -/
theorem wpAnyH_imp {P : Program} {md : Region.Mode} {ops : Array Oper} {Q : Exit → Act → World → Prop} {S S2 : World → Prop} (h2 : ∀ w, S2 w → S w) :
    ∀ (fuel : Nat) (listed : Array Bool) (a : Act) (w : World), wpAnyH P md ops Q S2 fuel listed a w → wpAnyH P md ops Q S fuel listed a w
  | 0, _, _, _, h => h
  | fuel + 1, _, _, _, h => ⟨h.1, fun i hi => wpOp_mono (fun a' w' h' => ⟨h2 _ h'.1, wpAnyH_imp h2 fuel _ a' w' h'.2⟩) (h.2 i hi)⟩
set_option maxHeartbeats 20000000 in
theorem dlfeeds_w (W0 : World) (f0 : Int) (hf0 : (Lit.int .i64 f0).wf = true) (s0 : Int) (hs0 : (Lit.int .i64 s0).wf = true) (v0 : Value) (l0 : List UInt8) (h0 : Bs W0 v0 l0) : Calls Try.prog 3 #[.int .i64 f0, .int .i64 s0, v0] W0 fun e w' => e = .returned (.bool true) ∧ Keep [] W0 w' := by
  have hsz12 : -9223372036854775808 ≤ s0 ∧ s0 ≤ 9223372036854775807 := by simpa [Lit.wf, IntKind.min, IntKind.max, IntKind.bits, IntKind.signed] using hs0
  obtain ⟨hsz1, hsz⟩ := hsz12
  clear hf0 hs0
  by_cases hbad : f0 < 1 ∨ 4 < f0 ∨ s0 < 0
  · have HB1 := Lib.hid (fun w => dl_bad w f0 s0 hbad hsz1)
    have HB2 := Lib.hid (fun w => refm_bad w f0 s0 hbad)
    clear hbad hsz hsz1
    go_enter Try.func3, Try.ntmps3
    go_wp2_with fail
    refine (cut_c W0 v0 l0 60 (by decide) h0).mono ?_; rintro e w1 ⟨v1, rfl, h1, -, rfl⟩
    generalize l0.take 60 = b at h1
    obtain ⟨a1, c1, rfl, _⟩ := h1.shape
    clear h0
    go_wp2_with fail
    refine (HB1.out W0).mono ?_; rintro e w2 ⟨rfl, k2⟩
    go_wp2_with fail
    refine (HB2.out w2).mono ?_; rintro e w3 ⟨rfl, rfl⟩
    generalize b.length = ln at h1 ⊢
    clear h1
    go_wp2_with fail
    go_loopw [11] (fun iv wr => iv = .int .i64 0 ∧ Keep [] W0 wr) (fun iv _ => 0)
    case atStart => exact ⟨rfl, k2⟩
    case round =>
      obtain ⟨rfl, KK⟩ := hrel
      by_cases hz : 0 < ln
      · have t1 : decide (0 < ln) = true := by simpa using hz
        clear hz
        go_wp2_with fail
        refine (lives13_c _).mono ?_; rintro e w10 ⟨rfl, k10⟩
        go_wp2_with fail
        go_ret
        exact ⟨rfl, KK.trans k10 (by simp)⟩
      · have t1 : decide (0 < ln) = false := by simpa using hz
        clear hz
        go_wp2_with fail
        refine (lives13_c _).mono ?_; rintro e w10 ⟨rfl, k10⟩
        go_wp2_with fail
        go_ret
        exact ⟨rfl, KK.trans k10 (by simp)⟩
  · obtain ⟨f, rfl⟩ : ∃ f : Nat, f0 = f := ⟨f0.toNat, by omega⟩
    obtain ⟨sz, rfl⟩ : ∃ sz : Nat, s0 = sz := ⟨s0.toNat, by omega⟩
    have HND := Lib.hid (fun w => dl_new w f sz (by omega) (by omega) hsz)
    have HNR := Lib.hid (fun w => refm_new w f sz (by omega) (by omega) hsz)
    have hM0 : (⟨f, ⟨65536, sz, true, []⟩, 0, 0, 0⟩ : MS).o.b.length = 0 := rfl
    generalize (⟨f, ⟨65536, sz, true, []⟩, 0, 0, 0⟩ : MS) = M0 at HND HNR hM0
    clear hbad hsz
    go_enter Try.func3, Try.ntmps3
    go_wp2_with fail
    refine (cut_c W0 v0 l0 60 (by decide) h0).mono ?_; rintro e w1 ⟨v1, rfl, h1, -, rfl⟩
    have hlen : (l0.take 60).length ≤ 60 := by rw [List.length_take]; omega
    generalize l0.take 60 = b at h1 hlen
    obtain ⟨a1, c1, rfl, _⟩ := h1.shape
    clear h0
    go_wp2_with fail
    refine (HND.out W0).mono ?_; rintro e w3 ⟨q, bs, rfl, h3, k3, hbs⟩
    go_wp2_with fail
    refine (HNR.out w3).mono ?_; rintro e w4 ⟨rfl, h4, k4⟩
    have DB0 : DB W0 w4 q bs (w3.heap.size + 1) w3.heap.size (.slice none 0 0) M0 :=
      ⟨h3.keep k4 (by simp), h4, k3.trans k4 (by simp), hbs, ⟨by have := k3.size; omega, k3.size, fun hm => by have := h3.lt _ hm; omega, fun hm => by have := h3.lt _ hm; omega⟩, by simp [Value.ownBlock]⟩
    obtain ⟨x, hx⟩ : ∃ x, w3.heap.size + 1 = x := ⟨_, rfl⟩
    obtain ⟨o, ho⟩ : ∃ o, w3.heap.size = o := ⟨_, rfl⟩
    rw [hx, ho] at DB0
    rw [hx]
    clear hx ho h3 h4 k3 k4 hbs
    have HB2 := Lib.hid h1
    clear h1
    go_wp2_with fail
    go_loopw [11] (fun iv wr => ∃ (k : Nat) (bs' : List Nat) (v : Value) (m : MS), k ≤ b.length ∧ iv = .int .i64 k ∧ DB W0 wr q bs' x o v m ∧ m.o.b.length ≤ 400 * k) (fun iv _ => b.length - (intOf iv).toNat)
    case atStart => exact ⟨0, bs, _, M0, by omega, rfl, DB0, by omega⟩
    case round =>
      obtain ⟨k, bs', v, m, hk, rfl, HD, hmb⟩ := hrel
      by_cases hx : k < b.length
      · have t1 : decide (k < b.length) = true := by simpa using hx
        have hs : IntKind.i64.wrap ((k : Int) + 1) = ((k + 1 : Nat) : Int) := by rw [IntKind.wrap_i64]; omega
        obtain ⟨b0, o0, c0, e0, cellW⟩ := HB2.out.spot k hx
        obtain ⟨rfl, -⟩ : a1 = some ⟨b0, o0, none⟩ ∧ c1 = c0 := by simpa using e0
        obtain ⟨y, hy⟩ : ∃ y, b[k] = y := ⟨_, rfl⟩
        rw [hy] at cellW
        have hgr := feed_grow m y
        have hN : m.N ≤ 382 := HD.2.1.2.2.2.2.2.2.2.2.1
        have hmb2 : (m.feed y).2.o.b.length ≤ 400 * (k + 1) := by omega
        have HCW := Lib.hid cellW
        have D5 := HD.keep ((Keep.refl [] wr).drew)
        have HF5 := dl_feed wr.drew q bs' m y D5.1 (by omega)
        have HX := Lib.hid (fun w' (h : Mx w' x o v m) => refm_feed w' x o v m y h (by omega))
        generalize m.feed y = R at HF5 HX hmb2
        obtain ⟨er, m1⟩ := R
        dsimp only at HF5 HX hmb2
        have HF5 := Lib.hid HF5
        have hee : ((er : Int) != (er : Int)) = false := by simp
        obtain ⟨bf, hbf⟩ : ∃ bf, m1.full = bf := ⟨_, rfl⟩
        have hbb : (bf != bf) = false := by simp
        obtain ⟨br, hbr⟩ : ∃ br, decide (m1.st = 0) = br := ⟨_, rfl⟩
        have hbr2 : ((m1.st : Int) == 0) = br := by rw [← hbr]; cases e : decide (m1.st = 0) <;> simp at e ⊢ <;> omega
        have hrr : (br != br) = false := by simp
        have HBF := Lib.hid hbf; have HBR := Lib.hid hbr
        have hm1b : m1.o.b.length ≤ 100000 := by omega
        have cell5 := D5.2.2.1.cell HCW.out (by simp)
        clear e0 hy cellW hgr hN hbf hbr
        go_upto_region 9 with fail
        have HSS : Hid (∀ w', Keep [] W0 w' → (w'.cell? ⟨b0, o0 + k, none⟩ = some (.int .u8 y.toNat))) := fun w' kw => kw.cell HCW.out (by simp)
        refine wp_region_held_drew (S := fun w' => w'.cell? ⟨b0, o0 + k, none⟩ = some (.int .u8 y.toNat)) (by kernel_rfl) (HSS.out _ D5.2.2.1) (fun hHeld0 => ?_)
        refine wpAnyH_takeD 0 (some 46) (v := ?vv0) rfl rfl (by kernel_rfl) (by kernel_rfl) (by kernel_rfl) (fun _ _ _ h => h) (Or.inl ⟨by rfl, ?hy0⟩) (by assumption) ?rest0
        case hy0 =>
          intro w hSw
          try dsimp only at hSw
          go_simp
          try with_reducible rfl
        try simp only [Act.put, List.setIfInBounds_toArray, List.set_cons_zero, List.set_cons_succ]
        refine wpAnyH_takeD 1 (some 47) (v := ?vv1) rfl rfl (by kernel_rfl) (by kernel_rfl) (by kernel_rfl) (fun _ _ _ h => h) (Or.inl ⟨by rfl, ?hy1⟩) (by assumption) ?rest1
        case hy1 =>
          intro w hSw
          try dsimp only at hSw
          go_simp
          try with_reducible rfl
        try simp only [Act.put, List.setIfInBounds_toArray, List.set_cons_zero, List.set_cons_succ]
        refine wpAnyH_takeD 2 (some 48) (v := ?vv2) rfl rfl (by kernel_rfl) (by kernel_rfl) (by kernel_rfl) (fun _ _ _ h => h) (Or.inl ⟨by rfl, ?hy2⟩) (by assumption) ?rest2
        case hy2 =>
          intro w hSw
          try dsimp only at hSw
          go_simp
          try with_reducible rfl
        try simp only [Act.put, List.setIfInBounds_toArray, List.set_cons_zero, List.set_cons_succ]
        refine wpAnyH_takeD 3 (some 49) (v := ?vv3) rfl rfl (by kernel_rfl) (by kernel_rfl) (by kernel_rfl) (fun _ _ _ h => h) (Or.inl ⟨by rfl, ?hy3⟩) (by assumption) ?rest3
        case hy3 =>
          intro w hSw
          try dsimp only at hSw
          go_simp
          try with_reducible rfl
        try simp only [Act.put, List.setIfInBounds_toArray, List.set_cons_zero, List.set_cons_succ]
        refine wpAnyH_takeD 4 (some 50) (v := ?vv4) rfl rfl (by kernel_rfl) (by kernel_rfl) (by kernel_rfl) (fun _ _ _ h => h) (Or.inl ⟨by rfl, ?hy4⟩) (by assumption) ?rest4
        case hy4 =>
          intro w hSw
          try dsimp only at hSw
          go_simp
          try with_reducible rfl
        try simp only [Act.put, List.setIfInBounds_toArray, List.set_cons_zero, List.set_cons_succ]
        refine wpAnyH_takeD 6 (some 52) (v := ?vv6) rfl rfl (by kernel_rfl) (by kernel_rfl) (by kernel_rfl) (fun _ _ _ h => h) (Or.inl ⟨by rfl, ?hy6⟩) (by assumption) ?rest6
        case hy6 =>
          intro w hSw
          try dsimp only at hSw
          go_simp
          try with_reducible rfl
        try simp only [Act.put, List.setIfInBounds_toArray, List.set_cons_zero, List.set_cons_succ]
        refine wpAnyH_takeD 7 (some 53) (v := ?vv7) rfl rfl (by kernel_rfl) (by kernel_rfl) (by kernel_rfl) (fun _ _ _ h => h) (Or.inl ⟨by rfl, ?hy7⟩) (by assumption) ?rest7
        case hy7 =>
          intro w hSw
          try dsimp only at hSw
          go_simp
          try with_reducible rfl
        try simp only [Act.put, List.setIfInBounds_toArray, List.set_cons_zero, List.set_cons_succ]
        refine wpAnyH_takeD 8 (some 54) (v := ?vv8) rfl rfl (by kernel_rfl) (by kernel_rfl) (by kernel_rfl) (fun _ _ _ h => h) (Or.inl ⟨by rfl, ?hy8⟩) (by assumption) ?rest8
        case hy8 =>
          intro w hSw
          try dsimp only at hSw
          go_simp
          try with_reducible rfl
        try simp only [Act.put, List.setIfInBounds_toArray, List.set_cons_zero, List.set_cons_succ]
        refine wpAnyH_takeD 9 (some 55) (v := ?vv9) rfl rfl (by kernel_rfl) (by kernel_rfl) (by kernel_rfl) (fun _ _ _ h => h) (Or.inl ⟨by rfl, ?hy9⟩) (by assumption) ?rest9
        case hy9 =>
          intro w hSw
          try dsimp only at hSw
          go_simp
          try with_reducible rfl
        try simp only [Act.put, List.setIfInBounds_toArray, List.set_cons_zero, List.set_cons_succ]
        refine wpAnyH_takeD 10 (some 56) (v := ?vv10) rfl rfl (by kernel_rfl) (by kernel_rfl) (by kernel_rfl) (fun _ _ _ h => h) (Or.inl ⟨by rfl, ?hy10⟩) (by assumption) ?rest10
        case hy10 =>
          intro w hSw
          try dsimp only at hSw
          go_simp
          try with_reducible rfl
        try simp only [Act.put, List.setIfInBounds_toArray, List.set_cons_zero, List.set_cons_succ]
        refine wpAnyH_ready (rs := [5]) (by kernel_rfl) (by simp) ?_
        refine AllReadyH.cons rfl (fun K hK => ?_) AllReadyH.nil
        go_simp
        go_at_call 11
        with_reducible refine HF5.out.mono ?_
        rintro e w6 ⟨rfl, s6⟩
        obtain ⟨bs6, D6⟩ := D5.fed s6
        go_wp2_with fail
        refine hK.out _ _ (HSS.out _ D6.2.2.1) (fun hHeld => ?_)
        clear hK K hHeld0
        have hHeld0 := hHeld; clear hHeld
        try simp only [Act.put, List.setIfInBounds_toArray, List.set_cons_zero, List.set_cons_succ]
        refine wpAnyH_ready (rs := [11]) (by kernel_rfl) (by simp) ?_
        refine AllReadyH.cons rfl (fun K hK => ?_) AllReadyH.nil
        go_simp
        go_at_call 12
        with_reducible refine (HX.out _ D6.2.1).mono ?_
        rintro e w7 ⟨rfl, s7⟩
        obtain ⟨v7, D7⟩ := DB.both D6 s7
        go_wp2_with fail
        refine hK.out _ _ (HSS.out _ D7.2.2.1) (fun hHeld => ?_)
        clear hK K hHeld0
        have hHeld0 := hHeld; clear hHeld
        try simp only [Act.put, List.setIfInBounds_toArray, List.set_cons_zero, List.set_cons_succ]
        have HS2 : Hid (∀ w' bs', DB W0 w' q bs' x o v7 m1 → (w'.cell? ⟨b0, o0 + k, none⟩ = some (.int .u8 y.toNat) ∧ w'.cell? ⟨x, 1, none⟩ = some (.pointer (some ⟨o, 0, none⟩)) ∧ w'.cell? ⟨o, 3, none⟩ = some v7 ∧ w'.cell? ⟨x, 2, none⟩ = some (.int .i64 m1.st))) := fun w' bs' d => ⟨HSS.out _ d.2.2.1, d.2.1.1.cell 1 _ rfl, d.2.1.2.1.1.cell 3 _ rfl, d.2.1.1.cell 2 _ rfl⟩
        refine wpAnyH_imp (S2 := fun w' => w'.cell? ⟨b0, o0 + k, none⟩ = some (.int .u8 y.toNat) ∧ w'.cell? ⟨x, 1, none⟩ = some (.pointer (some ⟨o, 0, none⟩)) ∧ w'.cell? ⟨o, 3, none⟩ = some v7 ∧ w'.cell? ⟨x, 2, none⟩ = some (.int .i64 m1.st)) (fun _ h => h.1) _ _ _ _ ?_
        clear hHeld0
        have hHeld0 := HS2.out _ _ D7
        have HBY := Lib.hid (dl_bytes w7 q bs6 m1 D7.1 (by omega))
        refine wpAnyH_takeD 12 (some 58) (v := ?vv12) rfl rfl (by kernel_rfl) (by kernel_rfl) (by kernel_rfl) (fun _ _ _ h => h) (Or.inl ⟨by rfl, ?hy12⟩) (by assumption) ?rest12
        case hy12 =>
          intro w hSw
          try dsimp only at hSw
          go_simp
          try with_reducible rfl
        try simp only [Act.put, List.setIfInBounds_toArray, List.set_cons_zero, List.set_cons_succ]
        refine wpAnyH_takeD 13 (some 59) (v := ?vv13) rfl rfl (by kernel_rfl) (by kernel_rfl) (by kernel_rfl) (fun _ _ _ h => h) (Or.inl ⟨by rfl, ?hy13⟩) (by assumption) ?rest13
        case hy13 =>
          intro w hSw
          try dsimp only at hSw
          go_simp
          try with_reducible rfl
        try simp only [Act.put, List.setIfInBounds_toArray, List.set_cons_zero, List.set_cons_succ]
        refine wpAnyH_takeD 14 (some 60) (v := ?vv14) rfl rfl (by kernel_rfl) (by kernel_rfl) (by kernel_rfl) (fun _ _ _ h => h) (Or.inl ⟨by rfl, ?hy14⟩) (by assumption) ?rest14
        case hy14 =>
          intro w hSw
          try dsimp only at hSw
          go_simp
          try with_reducible rfl
        try simp only [Act.put, List.setIfInBounds_toArray, List.set_cons_zero, List.set_cons_succ]
        refine wpAnyH_takeD 16 (some 62) (v := ?vv16) rfl rfl (by kernel_rfl) (by kernel_rfl) (by kernel_rfl) (fun _ _ _ h => h) (Or.inl ⟨by rfl, ?hy16⟩) (by assumption) ?rest16
        case hy16 =>
          intro w hSw
          try dsimp only at hSw
          go_simp
          try with_reducible rfl
        try simp only [Act.put, List.setIfInBounds_toArray, List.set_cons_zero, List.set_cons_succ]
        refine wpAnyH_takeD 17 (some 63) (v := ?vv17) rfl rfl (by kernel_rfl) (by kernel_rfl) (by kernel_rfl) (fun _ _ _ h => h) (Or.inl ⟨by rfl, ?hy17⟩) (by assumption) ?rest17
        case hy17 =>
          intro w hSw
          try dsimp only at hSw
          go_simp
          try with_reducible rfl
        try simp only [Act.put, List.setIfInBounds_toArray, List.set_cons_zero, List.set_cons_succ]
        refine wpAnyH_takeD 18 (some 64) (v := ?vv18) rfl rfl (by kernel_rfl) (by kernel_rfl) (by kernel_rfl) (fun _ _ _ h => h) (Or.inl ⟨by rfl, ?hy18⟩) (by assumption) ?rest18
        case hy18 =>
          intro w hSw
          try dsimp only at hSw
          go_simp
          try with_reducible rfl
        try simp only [Act.put, List.setIfInBounds_toArray, List.set_cons_zero, List.set_cons_succ]
        refine wpAnyH_takeD 19 (some 65) (v := ?vv19) rfl rfl (by kernel_rfl) (by kernel_rfl) (by kernel_rfl) (fun _ _ _ h => h) (Or.inl ⟨by rfl, ?hy19⟩) (by assumption) ?rest19
        case hy19 =>
          intro w hSw
          try dsimp only at hSw
          go_simp
          try with_reducible rfl
        try simp only [Act.put, List.setIfInBounds_toArray, List.set_cons_zero, List.set_cons_succ]
        refine wpAnyH_takeD 20 (some 66) (v := ?vv20) rfl rfl (by kernel_rfl) (by kernel_rfl) (by kernel_rfl) (fun _ _ _ h => h) (Or.inl ⟨by rfl, ?hy20⟩) (by assumption) ?rest20
        case hy20 =>
          intro w hSw
          try dsimp only at hSw
          go_simp
          try with_reducible rfl
        try simp only [Act.put, List.setIfInBounds_toArray, List.set_cons_zero, List.set_cons_succ]
        refine wpAnyH_takeD 21 (some 67) (v := ?vv21) rfl rfl (by kernel_rfl) (by kernel_rfl) (by kernel_rfl) (fun _ _ _ h => h) (Or.inl ⟨by rfl, ?hy21⟩) (by assumption) ?rest21
        case hy21 =>
          intro w hSw
          try dsimp only at hSw
          go_simp
          try with_reducible rfl
        try simp only [Act.put, List.setIfInBounds_toArray, List.set_cons_zero, List.set_cons_succ]
        refine wpAnyH_takeD 22 (some 68) (v := ?vv22) rfl rfl (by kernel_rfl) (by kernel_rfl) (by kernel_rfl) (fun _ _ _ h => h) (Or.inl ⟨by rfl, ?hy22⟩) (by assumption) ?rest22
        case hy22 =>
          intro w hSw
          try dsimp only at hSw
          go_simp
          try with_reducible rfl
        try simp only [Act.put, List.setIfInBounds_toArray, List.set_cons_zero, List.set_cons_succ]
        refine wpAnyH_ready (rs := [15]) (by kernel_rfl) (by simp) ?_
        refine AllReadyH.cons rfl (fun K hK => ?_) AllReadyH.nil
        go_simp
        go_at_call 14
        with_reducible refine HBY.out.mono ?_
        rintro e w8 ⟨v8, rfl, h8, k8, o8⟩
        have D8 := D7.keep k8
        have s1 := same_c w8 v8 v7 m1.o.b m1.o.b h8 D8.2.1.2.1.2.1.bs
        simp only [decide_true] at s1
        have HS1 := Lib.hid s1
        clear s1
        go_wp2_with fail
        refine hK.out _ _ (HS2.out _ _ D8) (fun hHeld => ?_)
        clear hK K hHeld0
        have hHeld0 := hHeld; clear hHeld
        try simp only [Act.put, List.setIfInBounds_toArray, List.set_cons_zero, List.set_cons_succ]
        refine wpAnyH_ready (rs := [23]) (by kernel_rfl) (by simp) ?_
        refine AllReadyH.cons rfl (fun K hK => ?_) AllReadyH.nil
        go_simp
        go_at_call 13
        with_reducible refine HS1.out.mono ?_
        rintro e w9 ⟨rfl, n9, rfl⟩
        have D9 := D8.keep ((Keep.refl [] w8).drewN n9)
        generalize w8.drewN n9 = w9 at D9 ⊢
        have HFU := dl_full w9 q bs6 m1 D9.1
        rw [HBF.out] at HFU
        have HFU := Lib.hid HFU
        go_wp2_with fail
        refine hK.out _ _ (HS2.out _ _ D9) (fun hHeld => ?_)
        clear hK K hHeld0
        have hHeld0 := hHeld; clear hHeld
        try simp only [Act.put, List.setIfInBounds_toArray, List.set_cons_zero, List.set_cons_succ]
        refine wpAnyH_takeD 24 (some 70) (v := ?vv24) rfl rfl (by kernel_rfl) (by kernel_rfl) (by kernel_rfl) (fun _ _ _ h => h) (Or.inl ⟨by rfl, ?hy24⟩) (by assumption) ?rest24
        case hy24 =>
          intro w hSw
          try dsimp only at hSw
          go_simp
          try with_reducible rfl
        try simp only [Act.put, List.setIfInBounds_toArray, List.set_cons_zero, List.set_cons_succ]
        refine wpAnyH_takeD 25 (some 71) (v := ?vv25) rfl rfl (by kernel_rfl) (by kernel_rfl) (by kernel_rfl) (fun _ _ _ h => h) (Or.inl ⟨by rfl, ?hy25⟩) (by assumption) ?rest25
        case hy25 =>
          intro w hSw
          try dsimp only at hSw
          go_simp
          try with_reducible rfl
        try simp only [Act.put, List.setIfInBounds_toArray, List.set_cons_zero, List.set_cons_succ]
        refine wpAnyH_takeD 26 (some 72) (v := ?vv26) rfl rfl (by kernel_rfl) (by kernel_rfl) (by kernel_rfl) (fun _ _ _ h => h) (Or.inl ⟨by rfl, ?hy26⟩) (by assumption) ?rest26
        case hy26 =>
          intro w hSw
          try dsimp only at hSw
          go_simp
          try with_reducible rfl
        try simp only [Act.put, List.setIfInBounds_toArray, List.set_cons_zero, List.set_cons_succ]
        refine wpAnyH_takeD 27 (some 73) (v := ?vv27) rfl rfl (by kernel_rfl) (by kernel_rfl) (by kernel_rfl) (fun _ _ _ h => h) (Or.inl ⟨by rfl, ?hy27⟩) (by assumption) ?rest27
        case hy27 =>
          intro w hSw
          try dsimp only at hSw
          go_simp
          try with_reducible rfl
        try simp only [Act.put, List.setIfInBounds_toArray, List.set_cons_zero, List.set_cons_succ]
        refine wpAnyH_takeD 29 (some 75) (v := ?vv29) rfl rfl (by kernel_rfl) (by kernel_rfl) (by kernel_rfl) (fun _ _ _ h => h) (Or.inl ⟨by rfl, ?hy29⟩) (by assumption) ?rest29
        case hy29 =>
          intro w hSw
          try dsimp only at hSw
          go_simp
          try with_reducible rfl
        try simp only [Act.put, List.setIfInBounds_toArray, List.set_cons_zero, List.set_cons_succ]
        refine wpAnyH_ready (rs := [28]) (by kernel_rfl) (by simp) ?_
        refine AllReadyH.cons rfl (fun K hK => ?_) AllReadyH.nil
        go_simp
        go_at_call 15
        with_reducible refine HFU.out.mono ?_
        rintro e w10 ⟨rfl, n10, rfl⟩
        have D10 := D9.keep ((Keep.refl [] w9).drewN n10)
        generalize w9.drewN n10 = w10 at D10 ⊢
        have HFR := refm_full w10 x o v7 m1 D10.2.1
        rw [HBF.out] at HFR
        have HFR := Lib.hid HFR
        go_wp2_with fail
        refine hK.out _ _ (HS2.out _ _ D10) (fun hHeld => ?_)
        clear hK K hHeld0
        have hHeld0 := hHeld; clear hHeld
        try simp only [Act.put, List.setIfInBounds_toArray, List.set_cons_zero, List.set_cons_succ]
        refine wpAnyH_ready (rs := [30]) (by kernel_rfl) (by simp) ?_
        refine AllReadyH.cons rfl (fun K hK => ?_) AllReadyH.nil
        go_simp
        go_at_call 16
        with_reducible refine HFR.out.mono ?_
        rintro e w11 ⟨rfl, n11, rfl⟩
        have D11 := D10.keep ((Keep.refl [] w10).drewN n11)
        generalize w10.drewN n11 = w11 at D11 ⊢
        have HRE := dl_rest w11 q bs6 m1 D11.1
        rw [HBR.out] at HRE
        have HRE := Lib.hid HRE
        go_wp2_with fail
        refine hK.out _ _ (HS2.out _ _ D11) (fun hHeld => ?_)
        clear hK K hHeld0
        have hHeld0 := hHeld; clear hHeld
        try simp only [Act.put, List.setIfInBounds_toArray, List.set_cons_zero, List.set_cons_succ]
        refine wpAnyH_takeD 31 (some 77) (v := ?vv31) rfl rfl (by kernel_rfl) (by kernel_rfl) (by kernel_rfl) (fun _ _ _ h => h) (Or.inl ⟨by rfl, ?hy31⟩) (by assumption) ?rest31
        case hy31 =>
          intro w hSw
          try dsimp only at hSw
          go_simp
          try with_reducible rfl
        try simp only [Act.put, List.setIfInBounds_toArray, List.set_cons_zero, List.set_cons_succ]
        refine wpAnyH_takeD 32 (some 78) (v := ?vv32) rfl rfl (by kernel_rfl) (by kernel_rfl) (by kernel_rfl) (fun _ _ _ h => h) (Or.inl ⟨by rfl, ?hy32⟩) (by assumption) ?rest32
        case hy32 =>
          intro w hSw
          try dsimp only at hSw
          go_simp
          try with_reducible rfl
        try simp only [Act.put, List.setIfInBounds_toArray, List.set_cons_zero, List.set_cons_succ]
        refine wpAnyH_takeD 33 (some 79) (v := ?vv33) rfl rfl (by kernel_rfl) (by kernel_rfl) (by kernel_rfl) (fun _ _ _ h => h) (Or.inl ⟨by rfl, ?hy33⟩) (by assumption) ?rest33
        case hy33 =>
          intro w hSw
          try dsimp only at hSw
          go_simp
          try with_reducible rfl
        try simp only [Act.put, List.setIfInBounds_toArray, List.set_cons_zero, List.set_cons_succ]
        refine wpAnyH_takeD 34 (some 80) (v := ?vv34) rfl rfl (by kernel_rfl) (by kernel_rfl) (by kernel_rfl) (fun _ _ _ h => h) (Or.inl ⟨by rfl, ?hy34⟩) (by assumption) ?rest34
        case hy34 =>
          intro w hSw
          try dsimp only at hSw
          go_simp
          try with_reducible rfl
        try simp only [Act.put, List.setIfInBounds_toArray, List.set_cons_zero, List.set_cons_succ]
        refine wpAnyH_takeD 36 (some 82) (v := ?vv36) rfl rfl (by kernel_rfl) (by kernel_rfl) (by kernel_rfl) (fun _ _ _ h => h) (Or.inl ⟨by rfl, ?hy36⟩) (by assumption) ?rest36
        case hy36 =>
          intro w hSw
          try dsimp only at hSw
          go_simp
          try with_reducible rfl
        try simp only [Act.put, List.setIfInBounds_toArray, List.set_cons_zero, List.set_cons_succ]
        refine wpAnyH_takeD 37 (some 83) (v := ?vv37) rfl rfl (by kernel_rfl) (by kernel_rfl) (by kernel_rfl) (fun _ _ _ h => h) (Or.inl ⟨by rfl, ?hy37⟩) (by assumption) ?rest37
        case hy37 =>
          intro w hSw
          try dsimp only at hSw
          go_simp
          try with_reducible rfl
        try simp only [Act.put, List.setIfInBounds_toArray, List.set_cons_zero, List.set_cons_succ]
        refine wpAnyH_takeD 38 (some 84) (v := ?vv38) rfl rfl (by kernel_rfl) (by kernel_rfl) (by kernel_rfl) (fun _ _ _ h => h) (Or.inl ⟨by rfl, ?hy38⟩) (by assumption) ?rest38
        case hy38 =>
          intro w hSw
          try dsimp only at hSw
          go_simp
          try with_reducible rfl
        try simp only [Act.put, List.setIfInBounds_toArray, List.set_cons_zero, List.set_cons_succ]
        refine wpAnyH_takeD 39 (some 85) (v := ?vv39) rfl rfl (by kernel_rfl) (by kernel_rfl) (by kernel_rfl) (fun _ _ _ h => h) (Or.inl ⟨by rfl, ?hy39⟩) (by assumption) ?rest39
        case hy39 =>
          intro w hSw
          try dsimp only at hSw
          go_simp
          try with_reducible rfl
        try simp only [Act.put, List.setIfInBounds_toArray, List.set_cons_zero, List.set_cons_succ]
        refine wpAnyH_takeD 40 (some 86) (v := ?vv40) rfl rfl (by kernel_rfl) (by kernel_rfl) (by kernel_rfl) (fun _ _ _ h => h) (Or.inl ⟨by rfl, ?hy40⟩) (by assumption) ?rest40
        case hy40 =>
          intro w hSw
          try dsimp only at hSw
          go_simp
          try with_reducible rfl
        try simp only [Act.put, List.setIfInBounds_toArray, List.set_cons_zero, List.set_cons_succ]
        refine wpAnyH_ready (rs := [35]) (by kernel_rfl) (by simp) ?_
        refine AllReadyH.cons rfl (fun K hK => ?_) AllReadyH.nil
        go_simp
        go_at_call 17
        with_reducible refine HRE.out.mono ?_
        rintro e w12 ⟨rfl, n12, rfl⟩
        have D12 := D11.keep ((Keep.refl [] w11).drewN n12)
        generalize w11.drewN n12 = w12 at D12 ⊢
        go_wp2_with fail
        refine hK.out _ _ (HS2.out _ _ D12) (fun hHeld => ?_)
        clear hK K hHeld0
        have hHeld0 := hHeld; clear hHeld
        try simp only [Act.put, List.setIfInBounds_toArray, List.set_cons_zero, List.set_cons_succ]
        refine wpAnyH_takeD 41 (some 87) (v := ?vv41) rfl rfl (by kernel_rfl) (by kernel_rfl) (by kernel_rfl) (fun _ _ _ h => h) (Or.inl ⟨by rfl, ?hy41⟩) (by assumption) ?rest41
        case hy41 =>
          intro w hSw
          try dsimp only at hSw
          go_simp
          try with_reducible rfl
        try simp only [Act.put, List.setIfInBounds_toArray, List.set_cons_zero, List.set_cons_succ]
        refine wpAnyH_takeD 42 (some 88) (v := ?vv42) rfl rfl (by kernel_rfl) (by kernel_rfl) (by kernel_rfl) (fun _ _ _ h => h) (Or.inl ⟨by rfl, ?hy42⟩) (by assumption) ?rest42
        case hy42 =>
          intro w hSw
          try dsimp only at hSw
          go_simp
          try with_reducible rfl
        try simp only [Act.put, List.setIfInBounds_toArray, List.set_cons_zero, List.set_cons_succ]
        refine wpAnyH_done (by kernel_rfl) ?_ _
        all_goals
          go_wp2_with fail
          go_roundw
          case rel => exact ⟨k + 1, bs6, v7, m1, by omega, rfl, by first | exact D12 | exact D12.keep ((Keep.refl [] _).drew), by omega⟩
          case measure => simp [intOf]; omega
      · have t1 : decide (k < b.length) = false := by simpa using hx
        clear hx
        go_wp2_with fail
        refine (lives13_c _).mono ?_; rintro e w10 ⟨rfl, k10⟩
        go_wp2_with fail
        go_ret
        exact ⟨rfl, HD.2.2.1.trans k10 (by simp)⟩
end Go.Proofs.Ytmafgamacijdaaa
