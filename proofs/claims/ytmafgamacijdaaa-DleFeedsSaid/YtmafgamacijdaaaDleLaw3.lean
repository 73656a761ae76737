/- The walk of DleBack. -/
import Derived.Test.YtmafgamacijdaaaDleLaw1
import Derived.Test.YtmafgamacijdaaaWithin
namespace Go.Proofs.Ytmafgamacijdaaa
set_option linter.unusedVariables false
set_option linter.unusedSimpArgs false
set_option maxRecDepth 100000
open Go.ChangeShapes Go.WideShapes Go.ChangeAt Go.RowKit

theorem all_get (m : MS) (l : List UInt8) (k : Nat) (hk : k < l.length) (h : (m.all l).1 = 0) : (m.all (l.take k)).1 = 0 ∧ ((m.all (l.take k)).2.feed l[k]).1 = 0 ∧ (m.all (l.take (k + 1))).2 = ((m.all (l.take k)).2.feed l[k]).2 := by
  induction l generalizing m k with
  | nil => simp at hk
  | cons c t ih =>
    simp only [MS.all] at h
    by_cases e : (m.feed c).1 = 0
    · rw [if_pos e] at h
      cases k with
      | zero => refine ⟨rfl, e, ?_⟩; simp only [List.take_succ_cons, List.take_zero, MS.all]; rw [if_pos e]; rfl
      | succ k =>
        have := ih (m.feed c).2 k (by simpa using hk) h
        simp only [List.take_succ_cons, MS.all, if_pos e, List.getElem_cons_succ]
        exact this
    · rw [if_neg e] at h; exact absurd h e
theorem feed_full (m : MS) (c : UInt8) (h : (m.feed c).1 = 0) : m.full = false := by
  cases e : m.full with
  | false => rfl
  | true => unfold MS.feed at h; rw [e, if_pos rfl] at h; cases h
theorem HS.lit_le (s : HS) (c : UInt8) (h : s.b.length ≤ s.most) : (s.lit c).2.b.length ≤ (s.lit c).2.most ∧ (s.lit c).2.most = s.most := by
  unfold HS.lit
  split
  · exact ⟨h, rfl⟩
  · exact ⟨by show (s.b ++ [c]).length ≤ s.most; rw [List.length_append]; simp; omega, rfl⟩
theorem HS.copy_le (s : HS) (d n : Int) (h : s.b.length ≤ s.most) : (s.copy d n).2.b.length ≤ (s.copy d n).2.most ∧ (s.copy d n).2.most = s.most := by
  unfold HS.copy
  split
  · exact ⟨h, rfl⟩
  · split
    · exact ⟨h, rfl⟩
    · split
      · exact ⟨h, rfl⟩
      · rename_i a b c
        refine ⟨?_, rfl⟩
        show (cpy s.b d.toNat n.toNat).length ≤ s.most
        rw [cpy_len]; omega
theorem feed_le (m : MS) (c : UInt8) (h : m.o.b.length ≤ m.o.most) : (m.feed c).2.o.b.length ≤ (m.feed c).2.o.most ∧ (m.feed c).2.o.most = m.o.most := by
  unfold MS.feed
  split
  · exact ⟨h, rfl⟩
  split
  · split
    · exact ⟨h, rfl⟩
    · exact HS.lit_le _ _ h
  split
  · split
    · exact HS.lit_le _ _ h
    · exact ⟨h, rfl⟩
  split
  · exact ⟨h, rfl⟩
  · exact HS.copy_le _ _ _ h
/-- the program's machine and the document's, in the same state, all of a call's own -/
def DB (W w : World) (q : Nat) (bs : List Nat) (x o : Nat) (v : Value) (m : MS) : Prop :=
  Dm w q bs m ∧ Mx w x o v m ∧ Keep [] W w ∧ (∀ b ∈ bs, W.heap.size ≤ b) ∧ (W.heap.size ≤ x ∧ W.heap.size ≤ o ∧ x ∉ bs ∧ o ∉ bs) ∧ (∀ b, v.ownBlock = some b → W.heap.size ≤ b ∧ b ∉ bs)
theorem DB.keep {W w w' : World} {q : Nat} {bs : List Nat} {x o : Nat} {v : Value} {m : MS} (h : DB W w q bs x o v m) (k : Keep [] w w') : DB W w' q bs x o v m :=
  ⟨h.1.keep k (by simp), h.2.1.keep k (by simp) (by simp) (by simp), h.2.2.1.trans k (by simp), h.2.2.2⟩
/-- one of two fed: the program's -/
theorem DB.fed {W w w' : World} {q : Nat} {bs : List Nat} {x o : Nat} {v : Value} {m m1 : MS} (h : DB W w q bs x o v m) (s : DmStep w w' q bs m1) :
    ∃ bs', Dm w' q bs' m1 ∧ Mx w' x o v m ∧ Keep [] W w' ∧ (∀ b ∈ bs', W.heap.size ≤ b) ∧ (W.heap.size ≤ x ∧ W.heap.size ≤ o ∧ x ∉ bs' ∧ o ∉ bs') ∧ (∀ b, v.ownBlock = some b → W.heap.size ≤ b ∧ b ∉ bs') := by
  obtain ⟨a, b, c, d, e, f⟩ := h
  obtain ⟨bs', s1, s2, s3⟩ := s
  have hx := b.1.lt
  have ho := b.2.1.1.lt
  have hv := fun z hz => b.2.1.2.1.lt (b := z) hz
  refine ⟨bs', s1, b.keep s2 e.2.2.1 e.2.2.2 (fun z hz => (f z hz).2), c.trans s2 (fun z hz => .inr (d z hz)), fun z hz => ?_, ⟨e.1, e.2.1, fun hm => ?_, fun hm => ?_⟩, fun z hz => ⟨(f z hz).1, fun hm => ?_⟩⟩
  · rcases s3 z hz with h | h
    · exact d z h
    · have := c.size; omega
  · rcases s3 x hm with h | h
    · exact e.2.2.1 h
    · omega
  · rcases s3 o hm with h | h
    · exact e.2.2.2 h
    · omega
  · rcases s3 z hm with h | h
    · exact (f z hz).2 h
    · have := hv z hz; omega
/-- both fed -/
theorem DB.both {W w w' : World} {q : Nat} {bs : List Nat} {x o : Nat} {v : Value} {m m1 : MS}
    (h : Dm w q bs m1 ∧ Mx w x o v m ∧ Keep [] W w ∧ (∀ b ∈ bs, W.heap.size ≤ b) ∧ (W.heap.size ≤ x ∧ W.heap.size ≤ o ∧ x ∉ bs ∧ o ∉ bs) ∧ (∀ b, v.ownBlock = some b → W.heap.size ≤ b ∧ b ∉ bs)) (s : MxTo w w' x o v m1) : ∃ v', DB W w' q bs x o v' m1 := by
  obtain ⟨a, b, c, d, e, f⟩ := h
  obtain ⟨v', s1, s2, s3⟩ := s
  refine ⟨v', a.keep s2 (fun z hz hm => ?_), s1, c.trans s2 (fun z hz => .inr ?_), d, e, fun z hz => ?_⟩
  · rcases List.mem_cons.1 hm with h | h
    · rw [h] at hz; exact e.2.2.1 hz
    · rcases List.mem_cons.1 h with h | h
      · rw [h] at hz; exact e.2.2.2 hz
      · exact (f z (by simpa using h)).2 hz
  · rcases List.mem_cons.1 hz with h | h
    · rw [h]; exact e.1
    · rcases List.mem_cons.1 h with h | h
      · rw [h]; exact e.2.1
      · exact (f z (by simpa using h)).1
  · rcases s3 z hz with h | h
    · exact f z h
    · refine ⟨by have := c.size; omega, fun hm => ?_⟩
      have := a.lt z hm; omega
set_option maxHeartbeats 4000000 in
theorem dlback_w (W0 : World) (v0 : Value) (l0 : List UInt8) (h0 : Bs W0 v0 l0) (f0 : Int) (hf0 : (Lit.int .i64 f0).wf = true) : Calls Try.prog 5 #[v0, .int .i64 f0] W0 fun e w' => e = .returned (.bool true) ∧ Keep [] W0 w' := by
  obtain ⟨f, hf⟩ : ∃ f : Nat, max 1 (min f0 4) = (f : Int) := ⟨(max 1 (min f0 4)).toNat, by omega⟩
  have hf1 : 1 ≤ f := by omega
  have hf2 : f ≤ 4 := by omega
  have HW2 := Lib.hid (fun w => within_c f0 1 4 w (by decide))
  rw [hf] at HW2
  clear hf hf0
  go_enter Try.func5, Try.ntmps5
  go_wp2_with fail
  refine (cut_c W0 v0 l0 2000 (by decide) h0).mono ?_; rintro e w1 ⟨v1, rfl, h1, -, rfl⟩
  have hlen : (l0.take 2000).length ≤ 2000 := by rw [List.length_take]; omega
  generalize l0.take 2000 = b at h1 hlen
  clear h0
  go_wp2_with fail
  refine (HW2.out _).mono ?_; rintro e w1 ⟨rfl, rfl⟩
  obtain ⟨a1, c1, rfl, _⟩ := h1.shape
  obtain ⟨⟨V, N, htell⟩, hle⟩ := enc_tell f hf1 hf2 b
  have hstart : at13 f b 0 0 0 = ⟨f, ⟨65536, b.length, true, []⟩, 0, 0, 0⟩ := by unfold at13; rw [List.take_zero]
  rw [hstart] at htell
  have HEN := Lib.hid (dl_encode W0 _ b f h1 (by omega) hf1 hf2)
  have HND := Lib.hid (fun w => dl_new w f b.length hf1 hf2 (by omega))
  have HNR := Lib.hid (fun w => refm_new w f b.length hf1 hf2 (by omega))
  have hfull : (at13 f b b.length V N).full = true := by unfold at13 MS.full; simp
  have hbb : (at13 f b b.length V N).o.b = b := by unfold at13; exact List.take_length
  have hst0 : (at13 f b b.length V N).o.b.length ≤ 2000 := by rw [hbb]; exact hlen
  generalize at13 f b b.length V N = MZ at htell hfull hbb hst0
  generalize enc13 f b = E at htell hle HEN
  have hmost : (⟨f, ⟨65536, b.length, true, []⟩, 0, 0, 0⟩ : MS).o.b.length ≤ (⟨f, ⟨65536, b.length, true, []⟩, 0, 0, 0⟩ : MS).o.most := Nat.zero_le _
  have hmost2 : (⟨f, ⟨65536, b.length, true, []⟩, 0, 0, 0⟩ : MS).o.most = b.length := rfl
  generalize (⟨f, ⟨65536, b.length, true, []⟩, 0, 0, 0⟩ : MS) = M0 at htell HND HNR hmost hmost2
  have HTELL := Lib.hid htell; have HFULL := Lib.hid hfull; have HBB := Lib.hid hbb; have HMOST := Lib.hid hmost; have HMOST2 := Lib.hid hmost2
  clear htell hfull hbb hstart hmost hmost2 hf1 hf2
  go_wp2_with fail
  refine HEN.out.mono ?_; rintro e w2 ⟨v2, rfl, h2, k2⟩
  have b2 := h1.keep k2 (by simp)
  obtain ⟨a2, c2, rfl, _⟩ := h2.shape
  go_wp2_with fail
  refine (HND.out w2).mono ?_; rintro e w3 ⟨q, bs, rfl, h3, k3, hbs⟩
  go_wp2_with fail
  refine (HNR.out w3).mono ?_; rintro e w4 ⟨rfl, h4, k4⟩
  have DB0 : DB w2 w4 q bs (w3.heap.size + 1) w3.heap.size (.slice none 0 0) M0 :=
    ⟨h3.keep k4 (by simp), h4, k3.trans k4 (by simp), hbs, ⟨by have := k3.size; omega, k3.size, fun hm => by have := h3.lt _ hm; omega, fun hm => by have := h3.lt _ hm; omega⟩, by simp [Value.ownBlock]⟩
  obtain ⟨x, hx⟩ : ∃ x, w3.heap.size + 1 = x := ⟨_, rfl⟩
  obtain ⟨o, ho⟩ : ∃ o, w3.heap.size = o := ⟨_, rfl⟩
  rw [hx, ho] at DB0
  rw [hx]
  clear hx ho h3 h4 k3 k4 hbs
  have q1 : IntKind.i64.wrap (2 * (b.length : Int)) = 2 * b.length := by rw [IntKind.wrap_i64]; omega
  have q2 : decide (2 * (b.length : Int) < (E.length : Int)) = false := by simp; omega
  have HB2 := Lib.hid b2; have HE2 := Lib.hid h2
  have hElen : E.length ≤ 4000 := by omega
  clear b2 h2 h1 hle
  go_wp2_with fail
  go_loopw [11] (fun iv wr => ∃ (k : Nat) (bs' : List Nat) (v : Value), k ≤ E.length ∧ iv = .int .i64 k ∧ DB w2 wr q bs' x o v (M0.all (E.take k)).2 ∧ Hid ((M0.all (E.take k)).2.o.b.length ≤ (M0.all (E.take k)).2.o.most ∧ (M0.all (E.take k)).2.o.most = b.length)) (fun iv _ => E.length - (intOf iv).toNat)
  case atStart => exact ⟨0, bs, _, by omega, rfl, DB0, ⟨HMOST.out, HMOST2.out⟩⟩
  case round =>
    obtain ⟨k, bs', v, hk, rfl, HD, HM⟩ := hrel
    by_cases hx : k < E.length
    · have t1 : decide (k < E.length) = true := by simpa using hx
      have hs : IntKind.i64.wrap ((k : Int) + 1) = ((k + 1 : Nat) : Int) := by rw [IntKind.wrap_i64]; omega
      obtain ⟨g1, g2, g3⟩ := all_get M0 E k hx (by rw [HTELL.out])
      obtain ⟨b0, o0, c0, e0, cellW⟩ := HE2.out.spot k hx
      obtain ⟨rfl, -⟩ : a2 = some ⟨b0, o0, none⟩ ∧ c2 = c0 := by simpa using e0
      obtain ⟨y, hy⟩ : ∃ y, E[k] = y := ⟨_, rfl⟩
      rw [hy] at cellW g2 g3
      have hm := HM.out
      have hfl := feed_le (M0.all (E.take k)).2 y hm.1
      have hnf := feed_full _ _ g2
      have hM3 : Hid ((M0.all (E.take (k + 1))).2.o.b.length ≤ (M0.all (E.take (k + 1))).2.o.most ∧ (M0.all (E.take (k + 1))).2.o.most = b.length) := by unfold Hid; rw [g3]; exact ⟨hfl.1, by rw [hfl.2]; exact hm.2⟩
      have HG3 := Lib.hid g3
      obtain ⟨m, hmm⟩ : ∃ m, (M0.all (E.take k)).2 = m := ⟨_, rfl⟩
      obtain ⟨m1, hm1⟩ : ∃ m1, (M0.all (E.take (k + 1))).2 = m1 := ⟨_, rfl⟩
      rw [hmm, hm1] at HG3
      rw [hmm] at HD hm g2 hnf
      rw [hm1] at hM3
      have HM1 := Lib.hid hm1
      have HCW := Lib.hid cellW
      have HG2 := Lib.hid g2
      have HFU := Lib.hid (dl_full wr q bs' m HD.1)
      rw [hnf] at HFU
      have hbl : m.o.b.length ≤ 2000 := by omega
      have cell := HD.2.2.1.cell cellW (by simp)
      clear e0 hy cellW g1 g2 g3 hfl hnf hmm hm1 hm HM
      go_wp2_with fail
      refine HFU.out.mono ?_; rintro e w5 ⟨rfl, n5, rfl⟩
      have D5 := HD.keep ((Keep.refl [] wr).drewN n5)
      generalize wr.drewN n5 = w5 at D5 ⊢
      have cell5 := D5.2.2.1.cell HCW.out (by simp)
      have HF5 := dl_feed w5 q bs' m y D5.1 (by omega)
      rw [HG2.out, ← HG3.out] at HF5
      have HF5 := Lib.hid HF5
      clear cell HD
      go_wp2_with fail
      refine HF5.out.mono ?_; rintro e w6 ⟨rfl, s6⟩
      obtain ⟨bs6, D6⟩ := D5.fed s6
      have cell6 := D6.2.2.1.cell HCW.out (by simp)
      have HF6 := refm_feed w6 x o v m y D6.2.1 (by omega)
      rw [HG2.out, ← HG3.out] at HF6
      have HF6 := Lib.hid HF6
      go_wp2_with fail
      refine HF6.out.mono ?_; rintro e w7 ⟨rfl, s7⟩
      obtain ⟨v7, D7⟩ := DB.both D6 s7
      go_wp2_with fail
      go_roundw
      case rel => exact ⟨k + 1, bs6, v7, by omega, rfl, by rw [HM1.out]; exact D7, by rw [HM1.out]; exact hM3⟩
      case measure => simp [intOf]; omega
    · have t1 : decide (k < E.length) = false := by simpa using hx
      have hkE : E.take k = E := List.take_of_length_le (by omega)
      rw [hkE, HTELL.out] at HD
      dsimp only at HD
      have HFU := Lib.hid (dl_full wr q bs' MZ HD.1)
      rw [HFULL.out] at HFU
      clear hx hkE HM
      go_wp2_with fail
      refine HFU.out.mono ?_; rintro e w5 ⟨rfl, n5, rfl⟩
      have D5 := HD.keep ((Keep.refl [] wr).drewN n5)
      generalize wr.drewN n5 = w5 at D5 ⊢
      have HFR := Lib.hid (refm_full w5 x o v MZ D5.2.1)
      rw [HFULL.out] at HFR
      go_wp2_with fail
      refine HFR.out.mono ?_; rintro e w6 ⟨rfl, n6, rfl⟩
      have D6 := D5.keep ((Keep.refl [] w5).drewN n6)
      generalize w5.drewN n6 = w6 at D6 ⊢
      have HBY := Lib.hid (dl_bytes w6 q bs' MZ D6.1 (by omega))
      rw [HBB.out] at HBY
      go_wp2_with fail
      refine HBY.out.mono ?_; rintro e w7 ⟨v7, rfl, h7, k7, o7⟩
      have D7 := D6.keep k7
      have s1 := same_c w7 v7 _ b b h7 (HB2.out.keep D7.2.2.1 (by simp))
      simp only [decide_true] at s1
      have HS1 := Lib.hid s1; clear s1
      go_wp2_with fail
      refine HS1.out.mono ?_; rintro e w8 ⟨rfl, n8, rfl⟩
      have D8 := D7.keep ((Keep.refl [] w7).drewN n8)
      generalize w7.drewN n8 = w8 at D8 ⊢
      have x1 := D8.2.1.1.cell 1 _ rfl
      have x3 := D8.2.1.2.1.1.cell 3 _ rfl
      have hv8 := D8.2.1.2.1.2.1.bs
      rw [HBB.out] at hv8
      have s2 := same_c w8 v _ b b hv8 (HB2.out.keep D8.2.2.1 (by simp))
      simp only [decide_true] at s2
      have HS2 := Lib.hid s2; clear s2
      obtain ⟨av, cv, rfl, _⟩ := hv8.shape
      go_wp2_with fail
      refine HS2.out.mono ?_; rintro e w9 ⟨rfl, n9, rfl⟩
      have K9 : Keep [] w2 (w8.drewN n9) := D8.2.2.1.drewN n9
      generalize w8.drewN n9 = w9 at K9 ⊢
      go_wp2_with fail
      refine (lives13_c w9).mono ?_; rintro e w10 ⟨rfl, k10⟩
      go_wp2_with fail
      go_ret
      exact ⟨rfl, (k2.trans K9 (by simp)).trans k10 (by simp)⟩
end Go.Proofs.Ytmafgamacijdaaa
