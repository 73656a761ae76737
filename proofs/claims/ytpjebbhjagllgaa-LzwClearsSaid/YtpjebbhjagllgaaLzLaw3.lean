/- Contract of played, and the walk of the law LzwGrows: it returns true at every input. -/
import Derived.Test.YtpjebbhjagllgaaLzLaw1
import Derived.Test.YtpjebbhjagllgaaLzOpen
import Derived.Test.YtpjebbhjagllgaaLzMath2
import Derived.Test.YtpjebbhjagllgaaPart
namespace Go.Proofs.Ytpjebbhjagllgaa
set_option linter.unusedVariables false
set_option linter.unusedSimpArgs false
open Go.ChangeShapes Go.WideShapes Go.ChangeAt Go.RowKit

/-- k calls gave out no code above 256 + k -/
def Rch (s : LT) (k : Nat) : Prop := s.last ≤ 256 + k ∧ ∀ r ∈ s.rows, r.code ≤ 256 + k
theorem Rch.new : Rch LT.new 0 := ⟨Nat.le_refl _, fun r h => by simp [LT.new] at h⟩
theorem Rch.clear {s : LT} {k : Nat} (h : Rch s k) : Rch s.clear (k + 1) := ⟨by show 256 ≤ _; omega, fun r hr => by have := h.2 r (List.mem_filter.1 hr).1; omega⟩
theorem Rch.add {s : LT} {k : Nat} (h : Rch s k) (hok : s.ok) (p : Int) (c : UInt8) : Rch (s.add p c).2 (k + 1) := by
  unfold LT.add
  split
  · exact ⟨by have := h.1; show s.last ≤ _; omega, fun r hr => by have := h.2 r hr; omega⟩
  · next hn =>
    rcases s.next_cases hok with h1 | ⟨n, h1, h2, h3, h4, h5⟩
    · exact absurd (.inl (by omega)) hn
    · have hle : n ≤ 256 + (k + 1) := by
        rcases Nat.lt_or_ge (256 + (k + 1)) n with hlt | hge
        · have h6 := h5 (256 + (k + 1)) (by have := h.1; omega) hlt
          rcases atI_cases s.rows ((256 + (k + 1) : Nat) : Int) with h7 | ⟨i, _, h8, h9⟩
          · omega
          · have := h.2 _ (mem_rw' s.rows i h8); omega
        · exact hge
      dsimp only
      rw [h1, Int.toNat_natCast]
      refine ⟨hle, fun r hr => ?_⟩
      rcases (ins_mem _ _ _).1 hr with h6 | rfl
      · have := h.2 r h6; omega
      · exact hle
set_option maxRecDepth 100000 in
set_option maxHeartbeats 2000000 in
theorem played_c (W : World) (v0 : Value) (x : DzL) (N : Nat) (hN : N ≤ 1000) (h0 : isDzs W v0 x) : Calls Try.prog 16 #[v0, .int .i64 N] W fun e w' => ∃ q bs s, e = .returned (.pointer (some ⟨q, 0, none⟩)) ∧ LTab w' q bs s ∧ Rch s N ∧ Keep [] W w' ∧ ∀ b ∈ bs, W.heap.size ≤ b := by
  obtain ⟨hn, a, cap, rfl, hcells⟩ := h0
  have HCE : Hid (∀ w' i, Keep [] W w' → i < x.n → ∃ b off, a = some ⟨b, off, none⟩ ∧ w'.cell? ⟨b, off + i * 3, none⟩ = some (.int .i64 (x.K i)) ∧ w'.cell? ⟨b, off + i * 3 + 1, none⟩ = some (.int .i64 (x.P i)) ∧ w'.cell? ⟨b, off + i * 3 + 2, none⟩ = some (.int .u8 ((x.C i).toNat)) ∧ (Lit.int .i64 (x.P i)).wf = true) := fun w' i k hi => by
    obtain ⟨b, off, rfl, _, hc⟩ := hcells (by omega)
    obtain ⟨c1, c2, c3, c4, c5⟩ := hc i hi
    exact ⟨b, off, rfl, k.cellW c1, k.cellW c2, k.cellW c3, c5⟩
  clear hcells
  go_enter Try.func16, Try.ntmps16
  go_wp2_with fail
  refine (lz_new W).mono ?_; rintro e w1 ⟨q, bs, rfl, ht1, k1, hb1⟩
  have P0 : Hid (∃ s bs, LTab w1 q bs s ∧ Rch s 0 ∧ Keep [] W w1 ∧ ∀ b ∈ bs, W.heap.size ≤ b) := ⟨_, bs, ht1, Rch.new, k1, hb1⟩
  clear ht1 k1 hb1
  go_wp2_with fail
  go_loopw [6] (fun iv wr => ∃ i : Nat, i ≤ x.n ∧ i ≤ N ∧ iv = .int .i64 i ∧ Hid (∃ s bs, LTab wr q bs s ∧ Rch s i ∧ Keep [] W wr ∧ ∀ b ∈ bs, W.heap.size ≤ b)) (fun iv _ => N - (intOf iv).toNat)
  case atStart => exact ⟨0, by omega, by omega, rfl, P0⟩
  case round =>
    clear P0
    obtain ⟨i, hi, hi2, rfl, ⟨s, bs, ht, hr, hk, hb⟩⟩ := hrel
    by_cases hlt : i < x.n
    · by_cases hlt2 : i < N
      · have hiz : (i : Int) < x.n := by omega
        have hiz2 : (i : Int) < N := by omega
        obtain ⟨b, off, rfl, e0, e1, e2, hwf⟩ := HCE.out wr i hk hlt
        have HK := Lib.hid hk
        have HR := Lib.hid hr
        have HB := Lib.hid hb
        by_cases hk1 : x.K i = 1
        · rw [hk1] at e0
          have HCL := Lib.hid (lz_clear wr q bs s ht)
          clear hk hr hb ht hwf hk1
          go_wp2_with fail
          refine HCL.out.mono ?_; rintro e wA ⟨rfl, bsA, htA, kA, hbA⟩
          have PN : Hid (∃ s bs, LTab wA q bs s ∧ Rch s (i + 1) ∧ Keep [] W wA ∧ ∀ b ∈ bs, W.heap.size ≤ b) := ⟨_, bsA, htA, HR.out.clear, HK.out.trans kA (fun x hx => .inr (HB.out x hx)), fun b hb => by
            rcases hbA b hb with h | h
            · exact HB.out b h
            · exact Nat.le_trans HK.out.size h⟩
          clear htA kA hbA HCL e0 e1 e2
          go_wp2_with fail
          go_roundw
          case rel => exact ⟨i + 1, by omega, by omega, by go_num, PN⟩
          case measure => simp [intOf]; omega
        · have d1 : (x.K i == 1) = false := by rw [beq_eq_false_iff_ne]; exact hk1
          have HAD := Lib.hid (fun w' (k : Keep [] wr w') => lz_add w' q bs s (x.P i) (x.C i) hwf (ht.keep k (by simp)))
          have hok := ht.ok
          have HRA := Lib.hid (hr.add hok (x.P i) (x.C i))
          clear hk hr hb ht hwf hk1 hok
          generalize x.K i = K at *
          generalize x.P i = p at *
          generalize x.C i = c at *
          go_wp2_with fail
          go_still_tail 11, (by kernel_rfl)
          change wpList _ _ _ _ _ wr.drew
          go_wp2_with fail
          refine (HAD.out _ ((Keep.refl [] wr).drew)).mono ?_; rintro e wA ⟨rfl, bsA, htA, kA, hbA⟩
          have PN : Hid (∃ s bs, LTab wA q bs s ∧ Rch s (i + 1) ∧ Keep [] W wA ∧ ∀ b ∈ bs, W.heap.size ≤ b) := ⟨_, bsA, htA, HRA.out, HK.out.drew.trans kA (fun x hx => .inr (HB.out x hx)), fun b hb => by
            rcases hbA b hb with h | h
            · exact HB.out b h
            · exact Nat.le_trans HK.out.size h⟩
          clear htA kA hbA HAD HRA e0 e1 e2
          go_wp2_with fail
          go_roundw
          case rel => exact ⟨i + 1, by omega, by omega, by go_num, PN⟩
          case measure => simp [intOf]; omega
      · obtain rfl : i = N := by omega
        have HP : Hid (∃ bs s, LTab wr q bs s ∧ Rch s i ∧ Keep [] W wr ∧ ∀ b ∈ bs, W.heap.size ≤ b) := ⟨bs, s, ht, hr, hk, hb⟩
        clear ht hr hk hb
        go_wp2_with fail
        go_ret
        obtain ⟨bs, s, h⟩ := HP.out
        exact ⟨q, bs, s, rfl, h⟩
    · have HP : Hid (∃ bs s, LTab wr q bs s ∧ Rch s N ∧ Keep [] W wr ∧ ∀ b ∈ bs, W.heap.size ≤ b) := ⟨bs, s, ht, ⟨by have := hr.1; omega, fun r h => by have := hr.2 r h; omega⟩, hk, hb⟩
      clear ht hr hk hb
      go_wp2_with fail
      go_ret
      obtain ⟨bs, s, h⟩ := HP.out
      exact ⟨q, bs, s, rfl, h⟩
theorem add_no {s : LT} {p : Int} (hn : s.next < 0 ∨ ¬ parOk p) (c : UInt8) : s.add p c = (-1, s) := by unfold LT.add; rw [if_pos hn]
set_option maxRecDepth 100000 in
set_option maxHeartbeats 4000000 in
theorem lzgrows_w (W : World) (v0 : Value) (x : DzL) (h0 : isDzs W v0 x) (p : Int) (wp : (Lit.int .i64 p).wf = true) (c0 : Int) (wc : (Lit.int .u8 c0).wf = true) (o : Int) (wo : (Lit.int .i64 o).wf = true) : Calls Try.prog 4 #[v0, .int .i64 p, .int .u8 c0, .int .i64 o] W fun e w' => e = .returned (.bool true) ∧ Keep [] W w' := by
  have hcb : 0 ≤ c0 ∧ c0 ≤ 255 := by simpa [Lit.wf, IntKind.min, IntKind.max, IntKind.bits, IntKind.signed] using wc
  obtain ⟨c, rfl⟩ : ∃ c : UInt8, c0 = c.toNat := ⟨UInt8.ofNat c0.toNat, by rw [UInt8.toNat_ofNat', Nat.mod_eq_of_lt (by omega)]; omega⟩
  have HWP := Lib.hid wp
  have HWO := Lib.hid wo
  have HPL := Lib.hid (played_c W v0 x 200 (by omega) h0)
  clear h0 wp wo wc hcb
  go_enter Try.func4, Try.ntmps4
  go_wp2_with fail
  refine HPL.out.mono ?_; rintro e w1 ⟨q, bs, s, rfl, ht, _, k1, hb⟩
  have hok := ht.ok
  have hrl := hok.len
  have HL := Lib.hid (fun w' (k : Keep [] w1 w') => ht.keep k (by simp))
  have HK1 := Lib.hid k1
  have HB := Lib.hid hb
  have HNX := Lib.hid (lz_next w1 q bs s ht)
  clear HPL ht hb k1
  go_wp2_with fail
  refine HNX.out.mono ?_; rintro e w2 ⟨rfl, k2⟩
  have HT1 := Lib.hid (lz_text w2 q bs s p HWP.out (HL.out w2 k2))
  clear HNX
  go_wp2_with fail
  refine HT1.out.mono ?_; rintro e w3 ⟨va, rfl, hva, k3, fa⟩
  have K3 := k2.andThen k3
  have HT2 := Lib.hid (lz_text w3 q bs s o HWO.out (HL.out w3 K3))
  have hz2 : w1.heap.size ≤ w2.heap.size := k2.size
  clear HT1 k2
  go_wp2_with fail
  refine HT2.out.mono ?_; rintro e w4 ⟨vb, rfl, hvb, k4, fb⟩
  have K4 := K3.andThen k4
  have ht4 := HL.out w4 K4
  have HAD := Lib.hid (lz_add w4 q bs s p c HWP.out ht4)
  have hlt := ht4.lt.2
  have hbs1 : ∀ b ∈ bs, b < w1.heap.size := (HL.out w1 (Keep.refl _ _)).lt.2
  have hva4 := hva.keep k4 (by simp)
  have hz3 : w2.heap.size ≤ w3.heap.size := k3.size
  have HBS : Hid (∀ b ∈ bs, W.heap.size ≤ b) := HB.out
  have HVA : Hid (∀ w', Keep bs w4 w' → Bs w' va ((s.text p).getD [])) := fun w' k => hva4.keep k (fun b hb hm => by have h1 := fa b hb; have h2 := hbs1 b hm; omega)
  have HVB : Hid (∀ w', Keep bs w4 w' → Bs w' vb ((s.text o).getD [])) := fun w' k => hvb.keep k (fun b hb hm => by have h1 := fb b hb; have h2 := hbs1 b hm; omega)
  have K14 : Hid (Keep [] W w4) := HK1.out.andThen K4
  clear hva hva4 hvb fa fb hlt hbs1 ht4 hz2 hz3 k3 k4 K3 K4 HT2 HB HK1
  by_cases hno : s.next < 0 ∨ ¬ parOk p
  · rw [add_no hno c] at HAD
    have hfour : s.next < 0 ∨ p < 0 ∨ 8191 < p ∨ p = 256 := by
      rcases hno with h | h
      · exact .inl h
      · unfold parOk at h; omega
    clear hno
    generalize s.next = nx at *
    generalize (s.text p).isSome = t1 at *
    generalize (s.text o).isSome = t2 at *
    go_wp2_with fail
    refine HAD.out.mono ?_; rintro e w5 ⟨rfl, bs5, ht5, k5, _⟩
    have K5 : Hid (Keep [] W w5) := K14.out.trans k5 (fun x hx => .inr (HBS.out x hx))
    clear ht5 k5 HAD
    have hsplit : decide (nx < 0) = true ∨ (decide (nx < 0) = false ∧ decide (p < 0) = true) ∨ (decide (nx < 0) = false ∧ decide (p < 0) = false ∧ decide (p > 8191) = true) ∨ (decide (nx < 0) = false ∧ decide (p < 0) = false ∧ decide (p > 8191) = false ∧ (p == 256) = true) := by
      simp only [decide_eq_true_eq, decide_eq_false_iff_not, beq_iff_eq]; omega
    clear hfour
    rcases hsplit with h1 | ⟨h1, h2⟩ | ⟨h1, h2, h3⟩ | ⟨h1, h2, h3, h4⟩
    all_goals
      go_wp2_with fail
      refine (lives10_c _).mono ?_; rintro e w6 ⟨rfl, k6⟩
      go_wp2_with fail
      go_ret
      exact ⟨rfl, K5.out.andThen k6⟩
  · have hp : parOk p := by
      by_cases hp : parOk p
      · exact hp
      · exact absurd (.inr hp) hno
    obtain ⟨n, hn⟩ : ∃ n : Nat, s.next = n := by
      rcases s.next_cases hok with h1 | ⟨n, h1, _⟩
      · exact absurd (.inl (by omega)) hno
      · exact ⟨n, h1⟩
    obtain ⟨hadd, _, hn1, hn2⟩ := LT.add_yes hok p c n hn hp
    have hnew := fun t => text_new hok p c n hn hp t
    have hold := fun t => text_old hok p c n hn hp o t
    have e1 : (s.add p c).1 = n := by rw [hadd]
    rw [e1] at HAD
    rw [hn]
    clear hno hp hadd e1 hok
    generalize (s.add p c).2 = s' at *
    go_wp2_with fail
    refine HAD.out.mono ?_; rintro e w5 ⟨rfl, bs5, ht5, k5, _⟩
    have K5 : Hid (Keep [] W w5) := K14.out.trans k5 (fun x hx => .inr (HBS.out x hx))
    have va5 := HVA.out w5 k5
    have vb5 := HVB.out w5 k5
    have HL5 := Lib.hid (fun w' (k : Keep [] w5 w') => ht5.keep k (by simp))
    have HTN := Lib.hid (lz_text w5 q bs5 s' n (wf_of n (by omega) (by omega)) ht5)
    have hnn : ((n : Int) != n) = false := by simp
    clear k5 HAD HVA HVB ht5
    go_wp2_with fail
    refine HTN.out.mono ?_; rintro e w6 ⟨vu, rfl, hvu, k6, _⟩
    have va6 := va5.keep k6 (by simp)
    have vb6 := vb5.keep k6 (by simp)
    have K6 := K5.out.andThen k6
    have HTO := Lib.hid (fun w' (k : Keep [] w6 w') => lz_text w' q bs5 s' o HWO.out (HL5.out w' (k6.andThen k)))
    clear va5 vb5 HTN
    have HK6 := Lib.hid K6
    have HVB6 := Lib.hid (fun w' (k : Keep [] w6 w') => vb6.keep k (by simp))
    clear K6 vb6 HL5 K5
    have hfirst : ∃ t1 : Bool, (s.text p).isSome = t1 ∧ (t1 = true → ∃ t, s.text p = some t ∧ s'.text n = some (t ++ [c])) := by
      cases hpt : s.text p with
      | none => exact ⟨false, rfl, fun h => nomatch h⟩
      | some t => exact ⟨true, rfl, fun _ => ⟨t, rfl, hnew t hpt⟩⟩
    have hsecond : (s.text o = none) ∨ ∃ t, s.text o = some t ∧ s'.text o = some t := by
      cases hot : s.text o with
      | none => exact .inl rfl
      | some t => exact .inr ⟨t, rfl, hold t hot⟩
    obtain ⟨t1, ht1, hyes⟩ := hfirst
    rw [ht1]
    cases t1 with
    | false =>
      clear hyes ht1 hnew hold hvu va6
      rcases hsecond with hno | ⟨t, hs1, hs2⟩
      · rw [hno]
        generalize (s'.text n).isSome = t3 at *
        go_wp2_with fail
        refine (HTO.out w6 (Keep.refl [] w6)).mono ?_; rintro e w7 ⟨v7, rfl, hv7, k7, _⟩
        have K7 := HK6.out.andThen k7
        generalize (s'.text o).isSome = t4 at *
        clear hv7 HTO HVB6 hno
        go_wp2_with fail
        refine (lives10_c _).mono ?_; rintro e w8 ⟨rfl, k8⟩
        go_wp2_with fail
        go_ret
        exact ⟨rfl, K7.andThen k8⟩
      · rw [hs1]
        rw [hs2] at HTO
        rw [hs1] at HVB6
        generalize (s'.text n).isSome = t3 at *
        go_wp2_with fail
        refine (HTO.out w6 (Keep.refl [] w6)).mono ?_; rintro e w7 ⟨v7, rfl, hv7, k7, _⟩
        have K7 := HK6.out.andThen k7
        have HSM := Lib.hid (same_c w7 v7 vb t t hv7 (HVB6.out w7 k7))
        rw [decide_eq_true rfl] at HSM
        clear hv7 HTO HVB6 hs1 hs2
        go_wp2_with fail
        refine HSM.out.mono ?_; rintro e w8 ⟨rfl, m, rfl⟩
        go_wp2_with fail
        refine (lives10_c _).mono ?_; rintro e w9 ⟨rfl, k9⟩
        go_wp2_with fail
        go_ret
        exact ⟨rfl, (K7.drewN m).andThen k9⟩
    | true =>
      obtain ⟨t, hpt, hnt⟩ := hyes rfl
      have hlen : t.length ≤ 9000 := by
        have := txF_len _ _ _ _ _ hpt
        simp at this; omega
      rw [hnt] at hvu ⊢
      rw [hpt] at va6
      clear hyes ht1 hnew hold hpt hnt
      have HCP := Lib.hid (copy_c w6 va t (by omega) va6)
      have HVU := Lib.hid (fun S w' (k : Keep S w6 w') hS => hvu.keep (S := S) k hS)
      have hul := hvu.lt (by simp)
      clear va6 hvu
      go_wp2_with fail
      refine HCP.out.mono ?_; rintro e w7 ⟨vc, rfl, hc7, k7, fc⟩
      have kA : Keep [] w7 (w7.alloc (.cells #[.int .u8 (c.toNat)] 5)) := (Keep.refl [] w7).alloc _
      have hcA := hc7.keep kA (by simp)
      have hlit := Bs.new1 w7 c
      clear HCP hc7
      go_wp2_with (at_builtin; (refine wpList_appendBg (.tmp 78) (.tmp 80) rfl rfl vc t rfl hcA (.slice (some ⟨w7.heap.size, 0, none⟩) 1 1) [c] rfl hlit (by simp; omega) ?_); (intro v8 w8 ho8 hk8 hb8 hz8))
      have k7A := k7.andThen kA
      have k68 : Keep [] w6 w8 := k7A.trans hk8 (fun x hx => .inr (fc x (by simpa using hx)))
      have hu8 := HVU.out vc.ownBlock.toList w8 ((k7A.mono (by simp)).trans hk8 (fun x hx => .inl hx)) (fun b hb hm => by have h1 := hul b hb; have h2 := fc b (by simpa using hm); omega)
      have HSM8 := Lib.hid (same_c w8 vu v8 (t ++ [c]) (t ++ [c]) hu8 ho8.bs)
      rw [decide_eq_true rfl] at HSM8
      have HK8 := Lib.hid (HK6.out.andThen k68)
      have HTO8 := Lib.hid (fun m => HTO.out (w8.drewN m) (k68.drewN m))
      have HVB8 := Lib.hid (fun w' (k : Keep [] w8 w') => HVB6.out w' (k68.andThen k))
      clear HTO HVB6 HVU hul fc k7 kA hcA hlit ho8 hk8 hb8 hz8 k7A k68 hu8 HK6
      refine HSM8.out.mono ?_; rintro e w9 ⟨rfl, m, rfl⟩
      clear HSM8
      rcases hsecond with hno | ⟨t', hs1, hs2⟩
      · rw [hno]
        go_wp2_with fail
        refine (HTO8.out m).mono ?_; rintro e wT ⟨v7, rfl, hv7, k7, _⟩
        have K7 := (HK8.out.drewN m).andThen k7
        generalize (s'.text o).isSome = t4 at *
        clear hv7 HTO8 HVB8 hno
        go_wp2_with fail
        refine (lives10_c _).mono ?_; rintro e wE ⟨rfl, k8⟩
        go_wp2_with fail
        go_ret
        exact ⟨rfl, K7.andThen k8⟩
      · rw [hs1]
        rw [hs2] at HTO8
        rw [hs1] at HVB8
        go_wp2_with fail
        refine (HTO8.out m).mono ?_; rintro e wT ⟨v7, rfl, hv7, k7, _⟩
        have K7 := (HK8.out.drewN m).andThen k7
        have HSM := Lib.hid (same_c wT v7 vb t' t' hv7 (HVB8.out wT (((Keep.refl [] w8).drewN m).andThen k7)))
        rw [decide_eq_true rfl] at HSM
        clear hv7 HTO8 HVB8 hs1 hs2
        go_wp2_with fail
        refine HSM.out.mono ?_; rintro e wS ⟨rfl, m2, rfl⟩
        go_wp2_with fail
        refine (lives10_c _).mono ?_; rintro e wE ⟨rfl, k9⟩
        go_wp2_with fail
        go_ret
        exact ⟨rfl, (K7.drewN m2).andThen k9⟩
end Go.Proofs.Ytpjebbhjagllgaa
