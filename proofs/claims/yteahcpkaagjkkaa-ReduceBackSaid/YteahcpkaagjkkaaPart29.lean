/- Texts put together: RedDec RedEnc Red -/
import Derived.Test.YteahcpkaagjkkaaPart4
import Derived.Test.YteahcpkaagjkkaaPart17
import Derived.Test.YteahcpkaagjkkaaPart27
import Derived.Test.YteahcpkaagjkkaaPart26
import Derived.Test.YteahcpkaagjkkaaPart30
import Derived.Test.YteahcpkaagjkkaaPart3
namespace Go.Proofs.Yteahcpkaagjkkaa
set_option linter.unusedVariables false
set_option linter.unusedSimpArgs false
set_option maxRecDepth 100000
open Go.ChangeShapes Go.WideShapes Go.ChangeAt Go.RowKit

theorem SVn.keep {w w' : World} {V : Value} {f : Nat → List UInt8} {N : Nat} {S : List Nat} (h : SVn w V f N) (k : Keep S w w') (hS : ∀ x ∈ S, x < N) : SVn w' V f N := by
  obtain ⟨cs, h1, h2, h3⟩ := h
  refine ⟨cs, h1, h2, fun c hc => ?_⟩
  obtain ⟨v, a, b, d⟩ := h3 c hc
  exact ⟨v, a, b.keep k (fun x hx hm => by have := d x hx; have := hS x hm; omega), d⟩
theorem SVn.off {w : World} {V : Value} {f : Nat → List UInt8} {N : Nat} (h : SVn w V f N) (S : List Nat) (hS : ∀ x ∈ S, x < N) : SVo w V f S := by
  obtain ⟨cs, h1, h2, h3⟩ := h
  refine ⟨cs, h1, h2, fun c hc => ?_⟩
  obtain ⟨v, a, b, d⟩ := h3 c hc
  exact ⟨v, a, b, fun _ x hx hm => by have := d x hx; have := hS x hm; omega⟩
theorem SVn.one {w : World} {cs : Array Value} {f : Nat → List UInt8} {N : Nat} (h : SVn w (.agg cs) f N) : cs.size = 256 ∧ ∀ u ∈ cs.toList, u.oneCell' = true := by
  obtain ⟨cs', h0, h1, h3⟩ := h
  obtain rfl : cs = cs' := by simpa using h0
  refine ⟨h1, fun u hu => ?_⟩
  obtain ⟨i, hi, rfl⟩ := List.getElem_of_mem hu
  have hi2 : i < 256 := by simp at hi; omega
  obtain ⟨vc, g1, g2, _⟩ := h3 i hi2
  obtain ⟨a, cp, rfl, _⟩ := g2.shape
  have : cs.toList[i] = .slice a (f i).length cp := by
    have := Array.getElem?_eq_some_iff.1 g1
    simpa using this.2
  rw [this]; rfl
/-- what feed answers: how many were fed, what is wrong, the machine, the reader -/
def feed14L (s : Nat → List UInt8) : Nat → MS → RS → UInt8 → Nat → Nat × Nat × MS × RS
  | 0, m, r, _, _ => (0, 99, m, r)
  | F + 1, m, r, p, n =>
    if m.full then (n, 0, m, r)
    else if (get14 (s p.toNat) r).2.1 ≠ 0 then (0, (get14 (s p.toNat) r).2.1, m, (get14 (s p.toNat) r).2.2)
    else if (m.feed (get14 (s p.toNat) r).1).1 ≠ 0 then (0, (m.feed (get14 (s p.toNat) r).1).1, (m.feed (get14 (s p.toNat) r).1).2, (get14 (s p.toNat) r).2.2)
    else feed14L s F (m.feed (get14 (s p.toNat) r).1).2 (get14 (s p.toNat) r).2.2 (get14 (s p.toNat) r).1 (n + 1)
def feed14 (b : List UInt8) (m : MS) : Nat × Nat × MS × RS :=
  if (gs14 ⟨b, 0, true, 0⟩).1 ≠ 0 then (0, (gs14 ⟨b, 0, true, 0⟩).1, m, (gs14 ⟨b, 0, true, 0⟩).2.2)
  else feed14L (gs14 ⟨b, 0, true, 0⟩).2.1 (8 * b.length + 1) m (gs14 ⟨b, 0, true, 0⟩).2.2 0 0
def fedEnd (X : Nat × Nat × MS × RS) : List UInt8 × Nat × Nat :=
  if X.2.1 ≠ 0 then ([], 0, X.2.1) else if 8 ≤ X.2.2.2.left then ([], 0, 5) else (X.2.2.1.o.b, X.1, 0)
theorem feed14L_dec (s : Nat → List UInt8) (F : Nat) (m : MS) (r : RS) (p : UInt8) (n : Nat) : dec14L s F m r p n = fedEnd (feed14L s F m r p n) := by
  induction F generalizing m r p n with
  | zero => rfl
  | succ F ih =>
    rw [dec14L, feed14L]
    by_cases h1 : m.full = true
    · rw [if_pos h1, if_pos h1]; unfold fedEnd; simp
    · rw [if_neg h1, if_neg h1]
      by_cases h2 : (get14 (s p.toNat) r).2.1 ≠ 0
      · rw [if_pos h2, if_pos h2]; unfold fedEnd; rw [if_pos h2]
      · rw [if_neg h2, if_neg h2]
        by_cases h3 : (m.feed (get14 (s p.toNat) r).1).1 ≠ 0
        · rw [if_pos h3, if_pos h3]; unfold fedEnd; rw [if_pos h3]
        · rw [if_neg h3, if_neg h3]; exact ih _ _ _ _
theorem feed14_dec (b : List UInt8) (f size : Nat) (h1 : 1 ≤ f) (h4 : f ≤ 4) (hs : size ≠ 0) : dec14 b f size = fedEnd (feed14 b ⟨f, ⟨65536, size, true, []⟩, 0, 0, 0⟩) := by
  unfold dec14 feed14
  rw [if_neg (by omega), if_neg (by omega), Int.toNat_natCast, Int.toNat_natCast]
  by_cases h : (gs14 ⟨b, 0, true, 0⟩).1 ≠ 0
  · rw [if_pos h, if_pos h]; unfold fedEnd; rw [if_pos h]
  · rw [if_neg h, if_neg h]; exact feed14L_dec _ _ _ _ _ _
set_option maxHeartbeats 4000000 in
theorem red_feed (w : World) (q r : Nat) (bs : List Nat) (vr : Value) (b : List UInt8) (m0 : MS) (hD : Dm w q bs m0) (hRd : Rd w r vr ⟨b, 0, true, 0⟩) (hl : b.length ≤ 100000) (hm0 : m0.o.b = []) (hrb : ∀ z ∈ bs, z < r) (hvr : ∀ z, vr.ownBlock = some z → ∀ y ∈ bs, y < z) :
    Calls Try.prog 19 #[.pointer (some ⟨q, 0, none⟩), .pointer (some ⟨r, 0, none⟩)] w fun e w' => ∃ bk, e = .returned (.tuple #[.int .i64 (feed14 b m0).1, .int .i64 (feed14 b m0).2.1]) ∧ Keep (r :: bs) w w' ∧ ((feed14 b m0).2.1 = 0 → Dm w' q bk (feed14 b m0).2.2.1 ∧ Rd w' r vr (feed14 b m0).2.2.2 ∧ (feed14 b m0).2.2.1.o.b.length ≤ 400000000) := by
  have hzv := (zero_of_info (P := Try.prog) fsetsInfo).1
  have hzs : zset.size = 256 := by simp [zset]
  generalize zset = Z at hzv hzs
  have HZS := Lib.hid hzs
  clear hzs
  obtain ⟨R, hR⟩ : ∃ R, feed14 b m0 = R := ⟨_, rfl⟩
  rw [hR]
  unfold feed14 at hR
  have hblt : ∀ z ∈ bs, z < w.heap.size := hD.lt
  have hrlt := hRd.1.lt
  have hvrlt := hRd.2.1.lt
  have HGS := Lib.hid (fol_getsets w r vr _ hRd)
  have hgE := gs14_E ⟨b, 0, true, 0⟩
  have hlen := gs14_len ⟨b, 0, true, 0⟩
  obtain ⟨G, hG⟩ : ∃ G, gs14 ⟨b, 0, true, 0⟩ = G := ⟨_, rfl⟩
  rw [hG] at HGS hgE hR hlen
  obtain ⟨e0, S, st⟩ := G
  dsimp only at HGS hgE hR hlen
  have HR3 := Lib.hid hR
  have HM0 := Lib.hid hm0; have HRB := Lib.hid hrb; have HVR := Lib.hid hvr
  clear hR hG hRd hm0 hrb hvr
  go_enter Try.func19, Try.ntmps19
  go_wp2_with fail
  refine HGS.out.mono ?_; rintro e w3 ⟨V, rfl, hR3, k3, hSV⟩
  have K3 : Keep (r :: bs) w w3 := (Keep.refl _ _).trans k3 (fun z hz => .inl (by simp at hz; simp [hz]))
  have hD3 := hD.keep k3 (by intro z hz hm; have := HRB.out z hz; have : z = r := by simpa using hm
                             omega)
  have HSV := Lib.hid hSV
  obtain ⟨cs, rfl, hcs, _⟩ := hSV
  obtain ⟨hcs1, hone⟩ := HSV.out.one
  have hbz := Blk.new w3 Z 66
  have hst := Blk.storeC (P := Try.prog) hbz cs (by rw [hcs1, HZS.out]) hone
  have hbc := hbz.setRow cs
  have KB3 : Keep [] w3 ((w3.alloc (.cells Z 66)).setRow w3.heap.size cs) := ((Keep.refl [] w3).alloc _).trans (Keep.setRow _) (by simp)
  have K4 : Keep (r :: bs) w ((w3.alloc (.cells Z 66)).setRow w3.heap.size cs) := K3.trans KB3 (by simp)
  clear HGS hD hcs hbz K3
  by_cases he : e0 = 0
  · have y1 : ((e0 : Int) != 0) = false := by rw [he]; rfl
    obtain ⟨hE0, hl0, hmd⟩ := hgE he
    have hR := HR3.out
    rw [if_neg (by simpa using he)] at hR
    have HRE := Lib.hid hR
    subst he
    clear hR HR3 hgE
    go_wp2_with fail
    obtain ⟨g, hg⟩ : ∃ g, w3.heap.size = g := ⟨_, rfl⟩
    rw [hg] at hst hbc KB3 K4 ⊢
    have hz3 := k3.size
    have HGG : Hid (r < g ∧ (∀ z ∈ bs, z < g) ∧ (∀ z, vr.ownBlock = some z → z < g) ∧ (∀ z ∈ bs, z < r) ∧ (∀ z, vr.ownBlock = some z → ∀ y ∈ bs, y < z)) :=
      ⟨by omega, fun z hz => by have := hblt z hz; omega, fun z hz => by have := hvrlt z hz; omega, HRB.out, HVR.out⟩
    generalize (w3.alloc (.cells Z 66)).setRow g cs = w4 at hbc KB3 K4 ⊢
    have hR4 := hR3.keep KB3 (by simp) (by simp)
    have hD4 := hD3.keep KB3 (by simp)
    have HS4 := Lib.hid (HSV.out.keep KB3 (by simp))
    have HBC := Lib.hid hbc
    have hw4 : g < w4.heap.size := hbc.lt
    clear hst hbc KB3 hg hR3 hD3 HSV HRB HVR
    have HNN : Hid (r < w.heap.size ∧ ∀ z ∈ bs, z < w.heap.size) := ⟨hrlt, hblt⟩
    have hbk : ∀ z ∈ bs, z ∈ bs ∨ w4.heap.size ≤ z := fun z hz => .inl hz
    have HW4 := Lib.hid hw4
    have HW3 : Hid (w.heap.size ≤ w3.heap.size) := hz3
    have hm0 := HM0.out
    have hmz : m0.o.b.length ≤ 400 * 0 := by rw [hm0]; simp
    clear hblt hvrlt hz3 hrlt k3 hw4 hm0 HM0
    go_loopw [8, 9] (fun nv lv wr => ∃ (m : MS) (bk : List Nat) (s' : RS) (p : UInt8) (n F : Nat), lv = .int .u8 p.toNat ∧ nv = .int .i64 n ∧ Dm wr q bk m ∧ Rd wr r vr s' ∧ Keep (r :: bs) w4 wr ∧ (∀ z ∈ bk, z ∈ bs ∨ w4.heap.size ≤ z) ∧ Hid (feed14L S F m s' p n = R) ∧ F + n = 8 * b.length + 1 ∧ 2 * n ≤ s'.pos ∧ s'.l = b ∧ m.o.b.length ≤ 400 * n) (fun nv _ _ => 8 * b.length + 1 - (intOf nv).toNat)
    case atStart => exact ⟨_, bs, st, 0, 0, 8 * b.length + 1, rfl, rfl, hD4, hR4, Keep.refl _ _, hbk, HRE.out, by omega, Nat.zero_le _, hl0, hmz⟩
    case round =>
      obtain ⟨m, bk, s', p, n, F, rfl, rfl, hDm, hRr, KK, hbk2, HI, hFn, hpos, hsl, hmb⟩ := hrel
      have hp8 : s'.pos ≤ 8 * b.length := by have := hRr.2.2.1.1; rw [hsl] at this; exact this
      obtain ⟨F', rfl⟩ : ∃ F', F = F' + 1 := ⟨F - 1, by omega⟩
      have hI := HI.out
      rw [feed14L] at hI
      have HFU := dl_full wr q bk m hDm
      obtain ⟨bf, hbf⟩ : ∃ bf, m.full = bf := ⟨_, rfl⟩
      rw [hbf] at HFU hI
      have HFU := Lib.hid HFU
      have HM := Lib.hid hDm; have HRD := Lib.hid hRr; have HK := Lib.hid KK; have HBK := Lib.hid hbk2
      clear HI hbf hDm hRr KK hbk2
      cases bf with
      | true =>
        rw [if_pos rfl] at hI
        have HI2 := Lib.hid hI
        clear hI
        go_wp2_with fail
        refine HFU.out.mono ?_; rintro e w5 ⟨rfl, n5, rfl⟩
        have hR5 := HRD.out.drewN n5
        have hM5 := HM.out.drewN n5
        have K5 := HK.out.drewN n5
        generalize wr.drewN n5 = w5 at hR5 hM5 K5 ⊢
        have K05 : Keep (r :: bs) w w5 := K4.trans K5 (fun z hz => .inl hz)
        clear HFU HRD HM
        go_wp2_with fail
        go_ret2
        exact ⟨bk, by rw [← HI2.out]; rfl, K05, fun _ => by rw [← HI2.out]; exact ⟨hM5, hR5, by dsimp only; omega⟩⟩
      | false =>
        rw [if_neg (by simp)] at hI
        have HI2 := Lib.hid hI
        clear hI
        go_wp2_with fail
        refine HFU.out.mono ?_; rintro e w5 ⟨rfl, n5, rfl⟩
        have hR5 := HRD.out.drewN n5
        have hM5 := HM.out.drewN n5
        have K5 := HK.out.drewN n5
        generalize wr.drewN n5 = w5 at hR5 hM5 K5 ⊢
        have hgg := HGG.out
        have hnn := HNN.out
        have hSV5 := HS4.out.keep K5 (fun z hz => by
          rcases List.mem_cons.1 hz with h | h
          · rw [h]; exact hnn.1
          · exact hnn.2 z h)
        have hB5 := HBC.out.keep K5 (fun hm => by
          rcases List.mem_cons.1 hm with h | h
          · omega
          · have := hgg.2.1 g h; omega)
        have hld := Blk.load hB5 _ Try.underlying66 rfl (by rw [hcs1]; kernel_rfl)
        have HG := fol_get w5 r vr s' (.agg cs) S p hR5 (hSV5.off [r] (by simpa using hnn.1))
        rw [take32 (hlen _)] at HG
        have hgc := get14_cost (S p.toNat) s' (hlen _)
        obtain ⟨GG, hGG⟩ : ∃ GG, get14 (S p.toNat) s' = GG := ⟨_, rfl⟩
        have hI := HI2.out
        rw [hGG] at HG hgc hI
        obtain ⟨c, eg, s2⟩ := GG
        dsimp only at HG hgc hI
        have HG := Lib.hid HG; have HI3 := Lib.hid hI
        clear hI HI2 hGG hR5 HFU hgg hnn hSV5 hB5
        go_wp2_with fail
        refine wp_loadA _ _ rfl g rfl cs hld ?_
        go_wp2_with fail
        refine HG.out.mono ?_; rintro e w6 ⟨rfl, hR6, k6⟩
        have hgg := HGG.out
        have hw4 := HW4.out
        have hM6 := hM5.keep k6 (fun z hz hm => by
          have hzr : z = r := by simpa using hm
          rcases HBK.out z hz with h | h
          · have := hgg.2.2.2.1 z h; omega
          · omega)
        have K6 : Keep (r :: bs) w4 w6 := K5.trans k6 (fun z hz => .inl (by simp at hz; simp [hz]))
        have K06 : Keep (r :: bs) w w6 := K4.trans K6 (fun z hz => .inl hz)
        clear hM5 K5 k6 HG hld hgg hw4
        by_cases heg : eg = 0
        · have y3 : ((eg : Int) != 0) = false := by rw [heg]; rfl
          obtain ⟨g1, g2, g3, g4, g5, g6⟩ := hgc heg
          have hI := HI3.out
          rw [if_neg (by simpa using heg)] at hI
          have hN : m.N ≤ 382 := by obtain ⟨_, _, _, _, _, _, ok, _⟩ := hM6; exact ok.2.2.2.2.1
          have hgr := feed_grow m c
          have HFD := dl_feed w6 q bk m c hM6 (by omega)
          generalize m.feed c = MM at HFD hI hgr
          obtain ⟨ef, m2⟩ := MM
          dsimp only at HFD hI hgr
          have HFD := Lib.hid HFD; have HI4 := Lib.hid hI
          clear hI HI3 hgc heg hM6
          go_wp2_with fail
          refine HFD.out.mono ?_; rintro e w7 ⟨rfl, bk2, hM7, k7, hb7⟩
          have hgg := HGG.out
          have hw4 := HW4.out
          have hbk7 : ∀ z ∈ bk, z ∈ bs ∨ w4.heap.size ≤ z := HBK.out
          have hR7 : Rd w7 r vr s2 := hR6.keep k7 (fun hm => by
            rcases hbk7 r hm with h | h
            · have := hgg.2.2.2.1 r h; omega
            · omega) (fun y hy hm => by
            rcases hbk7 y hm with h | h
            · have := hgg.2.2.2.2 y hy y h; omega
            · have := hgg.2.2.1 y hy; omega)
          have K7 : Keep (r :: bs) w4 w7 := K6.trans k7 (fun z hz => by
            rcases hbk7 z hz with h | h
            · exact .inl (by simp [h])
            · exact .inr h)
          have K07 : Keep (r :: bs) w w7 := K4.trans K7 (fun z hz => .inl hz)
          have hb8 : ∀ z ∈ bk2, z ∈ bs ∨ w4.heap.size ≤ z := fun z hz => by
            rcases hb7 z hz with h | h
            · exact hbk7 z h
            · have := K6.size; exact .inr (by omega)
          clear HFD k7 hb7 hbk7 hgg hw4
          by_cases hef : ef = 0
          · have y4 : ((ef : Int) != 0) = false := by rw [hef]; rfl
            have hI := HI4.out
            rw [if_neg (by simpa using hef)] at hI
            have hs9 : IntKind.i64.wrap ((n : Int) + 1) = ((n + 1 : Nat) : Int) := by rw [IntKind.wrap_i64]; omega
            have HI5 := Lib.hid hI
            have HM7 := Lib.hid hM7; have HR7 := Lib.hid hR7
            clear hI HI4 hef hM7 hR7 hR6
            go_wp2_with fail
            go_roundw
            case rel => exact ⟨m2, bk2, s2, c, n + 1, F', rfl, by first | rfl | simp, HM7.out, HR7.out, K7, hb8, HI5.out, by omega, by omega, g5.trans hsl, by omega⟩
            case measure => simp [intOf]; omega
          · have y4 : ((ef : Int) != 0) = true := by simp; omega
            have hI := HI4.out
            rw [if_pos (by simpa using hef)] at hI
            have HEF := Lib.hid hef
            have HI5 := Lib.hid hI
            clear hI HI4 hef hM7 hR7 hR6
            go_wp2_with fail
            go_ret2
            exact ⟨bs, by rw [← HI5.out]; rfl, K07, fun h => by rw [← HI5.out] at h; exact absurd h HEF.out⟩
        · have y3 : ((eg : Int) != 0) = true := by simp; omega
          have hI := HI3.out
          rw [if_pos (by simpa using heg)] at hI
          have HEG := Lib.hid heg
          have HI4 := Lib.hid hI
          clear hI HI3 hgc heg hM6 hR6
          go_wp2_with fail
          go_ret2
          exact ⟨bs, by rw [← HI4.out]; rfl, K06, fun h => by rw [← HI4.out] at h; exact absurd h HEG.out⟩
  · have y1 : ((e0 : Int) != 0) = true := by simp; omega
    have hR := HR3.out
    rw [if_pos (by simpa using he)] at hR
    have HR4 := Lib.hid hR
    clear hR HR3 hgE
    go_wp2_with fail
    go_ret2
    exact ⟨bs, by rw [← HR4.out]; rfl, K4, fun h => absurd (by rw [← HR4.out] at h; exact h) he⟩
theorem bytes_nilRd (b : List UInt8) : (⟨b, 0, true, 0⟩ : RS).left = 8 * b.length := by simp [RS.left, RS.E]
set_option maxHeartbeats 4000000 in
theorem red_decode_ok (w : World) (v : Value) (b : List UInt8) (f size : Nat) (hb : Bs w v b) (hl : b.length ≤ 100000) (h1 : 1 ≤ f) (h4 : f ≤ 4) (hs : (size : Int) ≤ 9223372036854775807) :
    Calls Try.prog 10 #[v, .int .i64 f, .int .i64 size] w fun e w' => ∃ v', e = .returned (.tuple #[v', .int .i64 (dec14 b f size).2.1, .int .i64 (dec14 b f size).2.2]) ∧ Bs w' v' (dec14 b f size).1 ∧ Keep [] w w' := by
  have HM := Lib.hid (dl_new w f size h1 h4 hs)
  obtain ⟨R, hR⟩ : ∃ R, dec14 b f size = R := ⟨_, rfl⟩
  rw [hR]
  have HR := Lib.hid hR
  clear hR
  have HF := Lib.hid (feed14_dec b f size h1 h4)
  obtain ⟨av, cv, rfl, _, _⟩ := hb.shape
  have HB := Lib.hid hb
  clear hb
  go_enter Try.func10, Try.ntmps10
  go_wp2_with fail
  refine HM.out.mono ?_; rintro e w1 ⟨q, bs, rfl, hD, k1, hbs⟩
  clear HM
  have HOP := Lib.hid (open_c w1 _ b (by omega) (HB.out.keep k1 (by simp)))
  go_wp2_with fail
  refine HOP.out.mono ?_; rintro e w2 ⟨r, vr, rfl, hRd, k2, hr, hvr⟩
  have hblt : ∀ z ∈ bs, z < w1.heap.size := hD.lt
  have hD2 := hD.keep k2 (by simp)
  have K2 : Keep [] w w2 := k1.trans k2 (by simp)
  have hz1 := k1.size
  clear HOP hD
  by_cases hz : size = 0
  · have z1 : decide ((0 : Int) < (size : Int)) = false := by simp; omega
    have z1' : decide (0 < size) = false := by simp; omega
    have HL := Lib.hid (left_c w2 r _ _ hRd)
    rw [bytes_nilRd] at HL
    have hR := HR.out
    unfold dec14 at hR
    rw [if_neg (by omega), if_pos (by omega)] at hR
    by_cases hb0 : b.length = 0
    · have y1 : decide ((8 : Int) ≤ ((8 * b.length : Nat) : Int)) = false := by simp; omega
      have y1' : decide (8 ≤ 8 * b.length) = false := by simp; omega
      rw [if_pos hb0] at hR
      have HR2 := Lib.hid hR
      have HBY := fun n => dl_bytes (w2.drewN n) q bs _ (hD2.drewN n) (by simp)
      have HBY := Lib.hid HBY
      clear hR HR hb0 HF hRd hz hD2
      generalize 8 * b.length = L8 at *
      go_wp2_with fail
      refine HL.out.mono ?_; rintro e w3 ⟨rfl, n3, rfl⟩
      go_wp2_with fail
      refine (HBY.out n3).mono ?_; rintro e w7 ⟨v7, rfl, h7, k7, _⟩
      go_wp2_with fail
      go_ret3
      exact ⟨v7, by rw [← HR2.out]; rfl, by rw [← HR2.out]; exact h7, (K2.drewN n3).trans k7 (by simp)⟩
    · have y1 : decide ((8 : Int) ≤ ((8 * b.length : Nat) : Int)) = true := by simp; omega
      have y1' : decide (8 ≤ 8 * b.length) = true := by simp; omega
      rw [if_neg hb0] at hR
      have HR2 := Lib.hid hR
      clear hR HR hb0 HF hRd hz hD2
      generalize 8 * b.length = L8 at *
      go_wp2_with fail
      refine HL.out.mono ?_; rintro e w3 ⟨rfl, n3, rfl⟩
      go_wp2_with fail
      go_ret3
      exact ⟨.slice none 0 0, by rw [← HR2.out]; rfl, by rw [← HR2.out]; exact Bs.nil _, K2.drewN n3⟩
  · have z1 : decide ((0 : Int) < (size : Int)) = true := by simp; omega
    have z1' : decide (0 < size) = true := by simp; omega
    have hR := HF.out hz
    rw [HR.out] at hR
    have HFD := red_feed w2 q r bs vr b _ hD2 hRd hl rfl (fun z hzz => by have := hblt z hzz; omega) (fun z hzz y hy => by have := hblt y hy; have := hvr z hzz; omega)
    obtain ⟨X, hX⟩ : ∃ X, feed14 b ⟨f, ⟨65536, size, true, []⟩, 0, 0, 0⟩ = X := ⟨_, rfl⟩
    rw [hX] at hR HFD
    obtain ⟨n, e0, m, s⟩ := X
    have HFD := Lib.hid HFD
    have KOK : Hid (∀ w', Keep (r :: bs) w2 w' → Keep [] w w') := fun w' k => K2.trans k (fun z hz => by
      rcases List.mem_cons.1 hz with h | h
      · exact .inr (by omega)
      · exact .inr (hbs z h))
    have HR2 := Lib.hid hR
    clear hR HR HF hX hRd hD2 hz hblt hvr hr hz1 hbs k1 k2
    go_wp2_with fail
    refine HFD.out.mono ?_; rintro e w3 ⟨bk, rfl, k3, h3⟩
    have K3 := KOK.out _ k3
    clear HFD k3
    by_cases he : e0 = 0
    · have y1 : ((e0 : Int) == 0) = true := by rw [he]; rfl
      have y2 : ((e0 : Int) != 0) = false := by rw [he]; rfl
      obtain ⟨hM, hRd, hml⟩ := h3 he
      have HL := Lib.hid (left_c w3 r _ _ hRd)
      have hR := HR2.out
      unfold fedEnd at hR
      rw [if_neg (by simpa using he)] at hR
      dsimp only at hR
      subst he
      clear hRd h3 HR2
      by_cases h8 : 8 ≤ s.left
      · have q1 : decide ((8 : Int) ≤ (s.left : Int)) = true := by simp; omega
        have q1' : decide (8 ≤ s.left) = true := by simpa using h8
        rw [if_pos h8] at hR
        have HI3 := Lib.hid hR
        clear hR h8 hM
        go_wp2_with fail
        refine HL.out.mono ?_; rintro e w6 ⟨rfl, n6, rfl⟩
        go_wp2_with fail
        go_ret3
        exact ⟨.slice none 0 0, by rw [HI3.out]; rfl, by rw [HI3.out]; exact Bs.nil _, K3.drewN n6⟩
      · have q1 : decide ((8 : Int) ≤ (s.left : Int)) = false := by simp; omega
        have q1' : decide (8 ≤ s.left) = false := by simpa using h8
        rw [if_neg h8] at hR
        have HI3 := Lib.hid hR
        have HBY := Lib.hid (fun n => dl_bytes (w3.drewN n) q bk m (hM.drewN n) (by omega))
        clear hR h8 hM
        go_wp2_with fail
        refine HL.out.mono ?_; rintro e w6 ⟨rfl, n6, rfl⟩
        go_wp2_with fail
        refine (HBY.out n6).mono ?_; rintro e w7 ⟨v7, rfl, h7, k7, _⟩
        go_wp2_with fail
        go_ret3
        exact ⟨v7, by rw [HI3.out]; rfl, by rw [HI3.out]; exact h7, (K3.drewN n6).trans k7 (by simp)⟩
    · have y1 : ((e0 : Int) == 0) = false := by rw [beq_eq_false_iff_ne]; omega
      have y2 : ((e0 : Int) != 0) = true := by simp; omega
      have hR := HR2.out
      unfold fedEnd at hR
      rw [if_pos (by simpa using he)] at hR
      have HI3 := Lib.hid hR
      clear hR h3 HR2
      go_wp2_with fail
      go_ret3
      exact ⟨.slice none 0 0, by rw [HI3.out]; rfl, by rw [HI3.out]; exact Bs.nil _, K3⟩
end Go.Proofs.Yteahcpkaagjkkaa
namespace Go.Proofs.Yteahcpkaagjkkaa
set_option linter.unusedVariables false
set_option linter.unusedSimpArgs false
set_option maxRecDepth 100000
open Go.ChangeShapes Go.WideShapes Go.ChangeAt Go.RowKit

set_option maxHeartbeats 4000000 in
theorem red_encode_ok (w : World) (v : Value) (b : List UInt8) (f : Nat) (hb : Bs w v b) (hl : b.length ≤ 100000) (h1 : 1 ≤ f) (h2 : f ≤ 4) :
    Calls Try.prog 14 #[v, .int .i64 f] w fun e w' => ∃ v', e = .returned (.tuple #[v', .int .i64 0]) ∧ Bs w' v' (enc14 f b) ∧ Keep [] w w' := by
  obtain ⟨av, cv, rfl, _, _⟩ := hb.shape
  have HE := Lib.hid (dl_encode w _ b f hb hl h1 h2)
  have hnl := enc13_nil f h1 h2 b
  have hle := (enc_tell f h1 h2 b).2
  have hd : enc14 f b = if (enc13 f b).length = 0 then [] else ofBits (bits14 (enc13 f b)) := rfl
  have hzv := (zero_of_info (P := Try.prog) fsetsInfo).1
  have hzs : zset.size = 256 := by simp [zset]
  generalize zset = Z at hzv hzs
  have HZS := Lib.hid hzs
  clear hzs
  obtain ⟨R, hR⟩ : ∃ R, enc14 f b = R := ⟨_, rfl⟩
  rw [hR] at hd ⊢
  generalize enc13 f b = c at HE hle hd hnl
  have HD := Lib.hid hd
  clear hd hR
  go_enter Try.func14, Try.ntmps14
  go_wp2_with fail
  refine HE.out.mono ?_; rintro e w1 ⟨vc, rfl, hcb, k1⟩
  obtain ⟨ac, cc, rfl, _, _⟩ := hcb.shape
  by_cases h0 : c.length = 0
  · have hb0 := hnl h0
    have z1 : ((b.length : Int) == 0) = true := by rw [hb0]; rfl
    have z1' : (b.length == 0) = true := by rw [hb0]; rfl
    have hR2 := HD.out
    rw [if_pos h0] at hR2
    have HR := Lib.hid hR2
    clear hR2 HD h0 hb0 hnl
    go_wp2_with fail
    go_ret2
    exact ⟨.slice none 0 0, rfl, by rw [HR.out]; exact Bs.nil _, k1⟩
  · have hb0 : b.length ≠ 0 := by omega
    have z1 : ((b.length : Int) == 0) = false := by rw [beq_eq_false_iff_ne]; omega
    have z1' : (b.length == 0) = false := by rw [beq_eq_false_iff_ne]; exact hb0
    have hR2 := HD.out
    rw [if_neg h0] at hR2
    have HR := Lib.hid hR2
    have hc0 : 0 < c.length := by omega
    clear hR2 HD h0 hb0 hnl
    go_wp2_with fail
    refine (fol_best w1 _ c hcb (by omega)).mono ?_; rintro e w2 ⟨V, rfl, hS, k2⟩
    have HCB := Lib.hid (hcb.keep k2 (by simp))
    have K02 : Keep [] w w2 := k1.trans k2 (by simp)
    have HS := Lib.hid hS
    obtain ⟨cs, rfl, hcs⟩ := hS
    have hbz := Blk.new w2 Z 66
    have hst := Blk.storeC (P := Try.prog) hbz cs (by rw [hcs.1, HZS.out]) hcs.one
    have hbc := hbz.setRow cs
    have hcs1 := hcs.1
    have KB3 : Keep [] w2 ((w2.alloc (.cells Z 66)).setRow w2.heap.size cs) := ((Keep.refl [] w2).alloc _).trans (Keep.setRow _) (by simp)
    clear hcs hbz hcb k1 k2
    go_wp2_with fail
    obtain ⟨g, hg⟩ : ∃ g, w2.heap.size = g := ⟨_, rfl⟩
    rw [hg] at hst hbc KB3 ⊢
    generalize (w2.alloc (.cells Z 66)).setRow g cs = w3 at hbc KB3 ⊢
    have hw3 := hbc.lt
    have HS3 := Lib.hid (HS.out.keep KB3)
    have HC3 := Lib.hid (HCB.out.keep KB3 (by simp))
    have K03 : Keep [] w w3 := K02.trans KB3 (by simp)
    have HSO : Hid (∀ ww S, Keep [] w3 ww → (∀ x ∈ S, w3.heap.size ≤ x) → SVo ww (.agg cs) (one12 c) S) := fun ww S k hs => HS3.out.off ww k hs
    have HBC := Lib.hid hbc
    have HZ3 := Lib.hid hw3
    clear hst hbc KB3 hg HS HCB K02 HS3 hw3
    refine (new_c w3).mono ?_; rintro e w4 ⟨r, rfl, hW, k4, hr⟩
    have hB4 := HBC.out.keep k4 (by simp)
    have hld := Blk.load hB4 _ Try.underlying66 rfl (by rw [hcs1]; kernel_rfl)
    have hoff : ∀ x ∈ r :: (Value.slice none 0 0).ownBlock.toList, w3.heap.size ≤ x := by
      intro x hx
      have : x = r := by simpa [Value.ownBlock] using hx
      omega
    have HPS := Lib.hid (fol_putsets w4 r _ [] (.agg cs) (one12 c) hW (HSO.out w4 _ k4 hoff) (by simp))
    clear hoff
    have HRR := Lib.hid hr
    clear hW hB4 hr
    go_wp2_with fail
    refine wp_loadA _ _ rfl g rfl cs hld ?_
    go_wp2_with fail
    refine HPS.out.mono ?_; rintro e w5 ⟨v5, rfl, h5, k5, b5⟩
    rw [List.nil_append] at h5
    have K35 : Keep [] w3 w5 := k4.trans k5 (fun z hz => by
      have : z = r := by simpa [Value.ownBlock] using hz
      have := HRR.out; exact .inr (by omega))
    have B5 : ∀ b, v5.ownBlock = some b → w3.heap.size ≤ b := fun b hb => by
      rcases b5 b hb with h | h
      · simp [Value.ownBlock] at h
      · have := k4.size; omega
    clear HPS k5 b5 hld
    go_wp2_with fail
    go_loopw [10, 35] (fun lv iv wr => ∃ (k : Nat) (vw : Value), k ≤ c.length ∧ lv = .int .u8 ((c.take k).getLastD 0).toNat ∧ iv = .int .i64 k ∧ Wr wr r vw (fss (one12 c) 256 ++ fputs (one12 c) 0 (c.take k)) ∧ Keep [] w3 wr ∧ (∀ b, vw.ownBlock = some b → w3.heap.size ≤ b)) (fun _ iv _ => c.length - (intOf iv).toNat)
    case atStart => exact ⟨0, v5, Nat.zero_le _, rfl, rfl, by rw [List.take_zero, fputs, List.append_nil]; exact h5, K35, B5⟩
    case round =>
      obtain ⟨k, vw, hk, rfl, rfl, hRw, KK, hvb⟩ := hrel
      have hfl : (fss (one12 c) 256 ++ fputs (one12 c) 0 (c.take k)).length ≤ 67072 + 9 * c.length := by
        have h1 := fss_le (one12 c) 256
        have h2 := fputs_le (one12 c) 0 (c.take k)
        rw [List.length_take] at h2
        rw [List.length_append]; omega
      by_cases hx : k < c.length
      · have q1 : decide (k < c.length) = true := by simpa using hx
        have hs9 : IntKind.i64.wrap ((k : Int) + 1) = ((k + 1 : Nat) : Int) := by rw [IntKind.wrap_i64]; omega
        obtain ⟨b0, o0, cp0, e0, cellW⟩ := HC3.out.spot k hx
        obtain ⟨rfl, -⟩ : ac = some ⟨b0, o0, none⟩ ∧ cc = cp0 := by simpa using e0
        have hsn := fputs_snoc (one12 c) 0 c k hx
        have hls := last_snoc c k hx 0
        obtain ⟨y, hy⟩ : ∃ y, c[k] = y := ⟨_, rfl⟩
        rw [hy] at cellW hsn hls
        obtain ⟨P, hP⟩ : ∃ P, (c.take k).getLastD 0 = P := ⟨_, rfl⟩
        rw [hP] at hsn ⊢
        have HSN := Lib.hid hsn; have HLS := Lib.hid hls
        have cell := KK.cell cellW (by simp)
        have hB := HBC.out.keep KK (by simp)
        have hld := Blk.load hB _ Try.underlying66 rfl (by rw [hcs1]; kernel_rfl)
        have hoff : ∀ x ∈ r :: vw.ownBlock.toList, w3.heap.size ≤ x := by
          intro x hx
          rcases List.mem_cons.1 hx with h | h
          · have := HRR.out; omega
          · exact hvb x (by simpa using h)
        have HPT := Lib.hid (fol_put wr r vw _ (.agg cs) (one12 c) P y hRw (HSO.out wr _ KK hoff) (by omega))
        have KKH := Lib.hid KK; have HVB := Lib.hid hvb
        clear hsn hls hy hP hRw cellW e0 hfl KK hvb hoff hB
        go_wp2_with fail
        refine wp_loadA _ _ rfl g rfl cs hld ?_
        go_wp2_with fail
        refine HPT.out.mono ?_; rintro e w6 ⟨v6, rfl, h6, k6, b6⟩
        have K36 : Keep [] w3 w6 := KKH.out.trans k6 (fun z hz => .inr (by
          have := HRR.out
          rcases List.mem_cons.1 hz with h | h
          · omega
          · have := HVB.out z (by simpa using h); omega))
        have B6 : ∀ b, v6.ownBlock = some b → w3.heap.size ≤ b := fun b hb => by
          rcases b6 b hb with h | h
          · exact HVB.out b h
          · have := KKH.out.size; omega
        rw [List.append_assoc] at h6
        clear HPT k6 b6 cell hld
        go_wp2_with fail
        go_roundw
        case rel => exact ⟨k + 1, v6, by omega, by rw [HLS.out], by first | rfl | simp, by rw [HSN.out]; exact h6, K36, B6⟩
        case measure => simp [intOf]; omega
      · have q1 : decide (k < c.length) = false := by simpa using hx
        have hkc : k = c.length := by omega
        subst hkc
        rw [List.take_length] at hRw hfl ⊢
        have HBY := Lib.hid (wbytes_c wr r vw _ hRw (by omega))
        have KKH := Lib.hid KK
        clear hx hRw hfl KK
        go_wp2_with fail
        refine HBY.out.mono ?_; rintro e w6 ⟨v6, l6, rfl, h6, t6, k6, _⟩
        go_wp2_with fail
        go_ret2
        have hl6 : l6 = ofBits (bits14 c) := toBits_inj _ _ (by rw [t6, toBits_ofBits]; rfl)
        refine ⟨v6, rfl, ?_, (K03.trans KKH.out (by simp)).trans k6 (by simp)⟩
        rw [HR.out, ← hl6]; exact h6.bs
end Go.Proofs.Yteahcpkaagjkkaa
namespace Go.Proofs.Yteahcpkaagjkkaa
set_option linter.unusedVariables false
set_option linter.unusedSimpArgs false
set_option maxRecDepth 100000
open Go.ChangeShapes Go.WideShapes Go.ChangeAt Go.RowKit

/-- what Encode answers by any number: bytes, what is wrong -/
def enc14I (b : List UInt8) (f : Int) : List UInt8 × Nat := if f < 1 ∨ 4 < f then ([], 2) else (enc14 f.toNat b, 0)
theorem red_decode_bad (w : World) (v : Value) (b : List UInt8) (f size : Int) (hb : Bs w v b) (h : f < 1 ∨ 4 < f ∨ size < 0) (hsz : -9223372036854775808 ≤ size) : Calls Try.prog 10 #[v, .int .i64 f, .int .i64 size] w fun e w' => ∃ v', e = .returned (.tuple #[v', .int .i64 0, .int .i64 2]) ∧ Bs w' v' [] ∧ Keep [] w w' := by
  have HM := Lib.hid (dl_bad w f size h hsz)
  clear h hb
  go_enter Try.func10, Try.ntmps10
  go_wp2_with fail
  refine HM.out.mono ?_; rintro e w1 ⟨rfl, k1⟩
  go_wp2_with fail
  go_ret3
  exact ⟨.slice none 0 0, rfl, Bs.nil _, k1⟩
theorem red_encode_bad (w : World) (v : Value) (b : List UInt8) (f : Int) (hb : Bs w v b) (h : f < 1 ∨ 4 < f) : Calls Try.prog 14 #[v, .int .i64 f] w fun e w' => ∃ v', e = .returned (.tuple #[v', .int .i64 2]) ∧ Bs w' v' [] ∧ Keep [] w w' := by
  have HM := Lib.hid (dl_encode_bad w v b f hb h)
  clear h hb
  go_enter Try.func14, Try.ntmps14
  go_wp2_with fail
  refine HM.out.mono ?_; rintro e w1 ⟨v1, rfl, h1, k1⟩
  obtain ⟨ac, cc, rfl, _, _⟩ := h1.shape
  go_wp2_with fail
  go_ret2
  exact ⟨.slice none 0 0, rfl, Bs.nil _, k1⟩
theorem red_decode (w : World) (v : Value) (b : List UInt8) (f size : Int) (hb : Bs w v b) (hl : b.length ≤ 100000) (hf : (Lit.int .i64 f).wf = true) (hs : (Lit.int .i64 size).wf = true) : Calls Try.prog 10 #[v, .int .i64 f, .int .i64 size] w fun e w' => ∃ v', e = .returned (.tuple #[v', .int .i64 (dec14 b f size).2.1, .int .i64 (dec14 b f size).2.2]) ∧ Bs w' v' (dec14 b f size).1 ∧ Keep [] w w' := by
  have hs2 : -9223372036854775808 ≤ size ∧ size ≤ 9223372036854775807 := by simpa [Lit.wf, IntKind.min, IntKind.max, IntKind.bits, IntKind.signed] using hs
  by_cases h : f < 1 ∨ 4 < f ∨ size < 0
  · have hd : dec14 b f size = ([], 0, 2) := by unfold dec14; rw [if_pos h]
    rw [hd]
    exact red_decode_bad w v b f size hb h hs2.1
  · obtain ⟨n, rfl⟩ : ∃ n : Nat, f = n := ⟨f.toNat, by omega⟩
    obtain ⟨m, rfl⟩ : ∃ m : Nat, size = m := ⟨size.toNat, by omega⟩
    exact red_decode_ok w v b n m hb hl (by omega) (by omega) hs2.2
theorem red_encode (w : World) (v : Value) (b : List UInt8) (f : Int) (hb : Bs w v b) (hl : b.length ≤ 100000) : Calls Try.prog 14 #[v, .int .i64 f] w fun e w' => ∃ v', e = .returned (.tuple #[v', .int .i64 (enc14I b f).2]) ∧ Bs w' v' (enc14I b f).1 ∧ Keep [] w w' := by
  unfold enc14I
  by_cases h : f < 1 ∨ 4 < f
  · rw [if_pos h]
    exact red_encode_bad w v b f hb h
  · rw [if_neg h]
    obtain ⟨n, rfl⟩ : ∃ n : Nat, f = n := ⟨f.toNat, by omega⟩
    exact red_encode_ok w v b n hb hl (by omega) (by omega)
end Go.Proofs.Yteahcpkaagjkkaa
