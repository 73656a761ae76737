/- Texts put together: Tok8 TokLaw1 -/
import Derived.Test.YtjbjgcanbkpmdaaPart8
import Derived.Test.YtjbjgcanbkpmdaaPart19
namespace Go.Proofs.Ytjbjgcanbkpmdaa
set_option linter.unusedVariables false
set_option linter.unusedSimpArgs false
open Go.ChangeShapes Go.WideShapes Go.ChangeAt Go.RowKit

theorem wf_nat (n : Nat) (h : n ≤ 9223372036854775807) : (Lit.int .i64 (n : Int)).wf = true := by simp [Lit.wf, IntKind.min, IntKind.max, IntKind.bits, IntKind.signed]; omega
theorem pcs_wf (d : Int) (hd : (Lit.int .i64 d).wf = true) (most : Nat) (hm : most ≤ 9223372036854775807) (n : Nat) : ∀ t ∈ pcs d most n, t.wf := by
  induction n using Nat.strongRecOn with
  | _ n ih =>
    by_cases h : n = 0 ∨ most = 0
    · rw [pcs, dif_pos h]; simp
    · rw [pcs, dif_neg h]
      intro t ht
      rcases List.mem_cons.1 ht with h1 | h1
      · subst h1; exact ⟨hd, wf_nat _ (by omega)⟩
      · exact ih (n - most) (by omega) t h1
/-- one token told -/
theorem tell_c (w : World) (q : Nat) (bs : List Nat) (s : HS) (t : Tk) (h : Ho w q bs s) (ht : t.wf) (hl : s.b.length + sz1 t ≤ 140737488350000) : Calls Try.prog 31 #[.pointer (some ⟨q, 0, none⟩), .agg t.cells.toArray] w fun e w' => e = .returned (.int .i64 (s.tk t).1) ∧ HoStep w w' q bs (s.tk t).2 := by
  obtain ⟨c, d, l⟩ := t
  have hd := ht.1
  have hll := ht.2
  have hK := (Keep.refl [] w).alloc (.cells #[.int .u8 c.toNat, .int .i64 d, .int .i64 l] 40)
  have hHo := h.keep hK (by simp)
  have HB := Lib.hid hK
  have hsz : w.heap.size ≤ (w.alloc (.cells #[.int .u8 c.toNat, .int .i64 d, .int .i64 l] 40)).heap.size := by simp
  have HSZ := Lib.hid hsz
  clear hK hsz
  show Calls Try.prog 31 #[_, .agg #[.int .u8 c.toNat, .int .i64 d, .int .i64 l]] w _
  unfold HS.tk
  show Calls _ _ _ _ fun e w' => e = .returned (.int .i64 ((if l = 0 then s.lit c else s.copy d l).1 : Nat)) ∧ HoStep w w' q bs (if l = 0 then s.lit c else s.copy d l).2
  by_cases h0 : l = 0
  · rw [if_pos h0]
    have HC := Lib.hid (hs_lit _ q bs s c hHo (by unfold sz1 at hl; rw [if_pos h0] at hl; exact hl))
    subst h0
    clear hl hd hll ht hHo h
    go_enter Try.func31, Try.ntmps31
    go_wp2_with fail
    refine HC.out.mono ?_; rintro e w2 ⟨rfl, hst⟩
    obtain ⟨bs', h1, h2, h3⟩ := hst
    have HR : Hid (HoStep w w2 q bs (s.lit c).2) := ⟨bs', h1, HB.out.nil.trans h2 (fun x hx => .inl hx), fun b hb => (h3 b hb).imp id (fun h => Nat.le_trans HSZ.out h)⟩
    clear h1 h2 h3 HC
    go_wp2_with fail
    go_ret
    exact ⟨rfl, HR.out⟩
  · rw [if_neg h0]
    have HC := Lib.hid (hs_copy _ q bs s d l hHo hd hll (by unfold sz1 at hl; rw [if_neg h0] at hl; simp only at hl; split <;> omega))
    have hb : (l == 0) = false := by simpa using h0
    clear hl hd hll ht hHo h h0
    go_enter Try.func31, Try.ntmps31
    go_wp2_with fail
    refine HC.out.mono ?_; rintro e w2 ⟨rfl, hst⟩
    obtain ⟨bs', h1, h2, h3⟩ := hst
    have HR : Hid (HoStep w w2 q bs (s.copy d l).2) := ⟨bs', h1, HB.out.nil.trans h2 (fun x hx => .inl hx), fun b hb => (h3 b hb).imp id (fun h => Nat.le_trans HSZ.out h)⟩
    clear h1 h2 h3 HC
    go_wp2_with fail
    go_ret
    exact ⟨rfl, HR.out⟩
set_option maxRecDepth 100000 in
set_option maxHeartbeats 2000000 in
theorem tok_expand (w : World) (v : Value) (ts : List Tk) (win most : Int) (nou : Bool) (h : Ts w v ts) (hw : (Lit.int .i64 win).wf = true) (hm : (Lit.int .i64 most).wf = true) (hs : sumT ts ≤ 140737488350000) :
    Calls Try.prog 17 #[v, .int .i64 win, .int .i64 most, .bool nou] w fun e w' => ∃ v', e = .returned (.tuple #[v', .int .i64 (expT ts win most nou).1]) ∧ Bs w' v' (expT ts win most nou).2 ∧ Keep [] w w' := by
  have HI := Lib.hid (fun w' (k : Keep [] w w') i hi => (h.keep k (by simp)).at i hi)
  have HWF := Lib.hid h.wf
  have HSM := Lib.hid hs
  have hm' : -9223372036854775808 ≤ most ∧ most ≤ 9223372036854775807 := by simp [Lit.wf, IntKind.min, IntKind.max, IntKind.bits, IntKind.signed] at hm; omega
  obtain ⟨a, cap, rfl, hl⟩ := h.sh
  have HN := Lib.hid (hs_new w win most nou (by omega) (by omega))
  obtain ⟨R, hR⟩ : ∃ R, expT ts win most nou = R := ⟨_, rfl⟩
  rw [hR]
  have HR := Lib.hid hR
  clear h hs hw hm hm' hR
  go_enter Try.func17, Try.ntmps17
  go_wp2_with fail
  refine HN.out.mono ?_; rintro e w1 ⟨p, er, rfl, k1, n1, n2⟩
  have HK1 := Lib.hid k1; have HN1 := Lib.hid n1; have HN2 := Lib.hid n2
  clear k1 n1 n2
  by_cases hb : hsBad win most
  · obtain ⟨rfl, rfl⟩ := HN1.out hb
    have HE : Hid (R = (2, [])) := by
      rw [Hid, ← HR.out]; unfold expT; rw [if_pos (show winBad win most from hb)]
    clear HN1 HN2 HN HR hb
    go_wp2_with fail
    go_ret2
    exact ⟨_, by rw [HE.out]; rfl, by rw [HE.out]; exact Bs.nil _, HK1.out⟩
  · obtain ⟨rfl, q, bs, rfl, ho, hbs⟩ := HN2.out hb
    obtain ⟨s0, hs0⟩ : ∃ s0 : HS, (⟨win.toNat, most.toNat, nou, []⟩ : HS) = s0 := ⟨_, rfl⟩
    have HE : Hid (R = if (tellT s0 ts).1 = 0 then (0, (tellT s0 ts).2.b) else ((tellT s0 ts).1, [])) := by
      rw [Hid, ← HR.out, ← hs0]; unfold expT; rw [if_neg (show ¬ winBad win most from hb)]
    have HL0 : Hid (s0.b.length = 0) := by rw [Hid, ← hs0]; rfl
    rw [hs0] at ho
    have HH := Lib.hid ho; have HBS := Lib.hid hbs
    clear HN1 HN2 HN HR hb ho hbs hs0
    go_wp2_with fail
    go_loopw [27] (fun i wr => ∃ (k : Nat) (s : HS) (bs' : List Nat), k ≤ ts.length ∧ i = .int .i64 k ∧ Hid (tellT s0 (ts.take k) = (0, s)) ∧ Hid (Ho wr q bs' s) ∧ Hid (Keep [] w wr) ∧ Hid (∀ b ∈ bs', w.heap.size ≤ b)) (fun i _ => ts.length - (intOf i).toNat)
    case atStart => exact ⟨0, s0, bs, by omega, rfl, by simp [tellT, Hid], HH, HK1, HBS⟩
    case round =>
      obtain ⟨k, s, bs', hk, rfl, HT, HO, HK, HB⟩ := hrel
      by_cases hlt : k < ts.length
      · have z1 : (k : Int) < (ts.length : Int) := by omega
        obtain ⟨b, off, cap1, hv, e1, e2, e3⟩ := HI.out wr HK.out k hlt
        simp only [Value.slice.injEq] at hv
        obtain ⟨rfl, h2, rfl⟩ := hv
        clear h2
        have HCU : Hid (tellT s0 (ts.take (k + 1)) = s.tk ts[k]) := by
          have := tellT_cut s0 ts k hlt (by rw [HT.out])
          rw [HT.out] at this; exact this
        have HSZ : Hid (s.b.length + sz1 ts[k] ≤ 140737488350000) := by
          have h1 := tellT_size (s := s0) (ts := ts.take k) (by rw [HT.out])
          rw [HT.out] at h1
          have h2 := sumT_take ts k hlt
          have h3 := sumT_le ts (k + 1)
          have := HSM.out; have := HL0.out
          show _ ≤ _
          simp only at h1
          omega
        have HW := Lib.hid (HWF.out _ (List.getElem_mem hlt))
        generalize ts[k] = t at e1 e2 e3 HCU HSZ HW
        have hA : Keep [] wr (wr.alloc (.cells #[.int .u8 t.lit.toNat, .int .i64 t.dist, .int .i64 t.len] 40)) := (Keep.refl [] wr).alloc _
        have HTL : Hid (Calls Try.prog 31 #[.pointer (some ⟨q, 0, none⟩), .agg #[.int .u8 t.lit.toNat, .int .i64 t.dist, .int .i64 t.len]] (wr.alloc (.cells #[.int .u8 t.lit.toNat, .int .i64 t.dist, .int .i64 t.len] 40)) fun e w' => e = .returned (.int .i64 (s.tk t).1) ∧ HoStep (wr.alloc (.cells #[.int .u8 t.lit.toNat, .int .i64 t.dist, .int .i64 t.len] 40)) w' q bs' (s.tk t).2) := tell_c _ q bs' s t (HO.out.keep hA (by simp)) HW.out HSZ.out
        have HKA := Lib.hid (HK.out.alloc (.cells #[.int .u8 t.lit.toNat, .int .i64 t.dist, .int .i64 t.len] 40))
        clear hA HSZ HW
        obtain ⟨er, her⟩ : ∃ er : Nat, (s.tk t).1 = er := ⟨_, rfl⟩
        obtain ⟨s2, hs2⟩ : ∃ s2 : HS, (s.tk t).2 = s2 := ⟨_, rfl⟩
        rw [her, hs2] at HTL
        rw [show s.tk t = (er, s2) from Prod.ext her hs2] at HCU
        clear her hs2
        go_wp2_with fail
        refine HTL.out.mono ?_; rintro e w2 ⟨rfl, bs2, h1, h2, h3⟩
        have HO2 := Lib.hid h1
        have HK2 : Hid (Keep [] w w2) := HKA.out.trans h2 (fun x hx => .inr (HB.out x hx))
        have HB2 : Hid (∀ b ∈ bs2, w.heap.size ≤ b) := fun b hb => by
          rcases h3 b hb with h | h
          · exact HB.out b h
          · exact Nat.le_trans HKA.out.size h
        clear h1 h2 h3 HTL HKA HO HK HB
        by_cases h0 : er = 0
        · subst h0
          go_wp2_with fail
          go_roundw
          case rel => exact ⟨k + 1, s2, bs2, by omega, by go_num, HCU, HO2, HK2, HB2⟩
          case measure => simp [intOf]; omega
        · have he : ((er : Int) != 0) = true := by simp; omega
          have HE2 : Hid (R = (er, [])) := by
            have h1 := tellT_err s0 ts (k + 1) (by rw [HCU.out]; exact h0)
            rw [Hid, HE.out, h1, HCU.out, if_neg h0]
          clear h0 HE
          go_wp2_with fail
          go_ret2
          exact ⟨_, by rw [HE2.out]; rfl, by rw [HE2.out]; exact Bs.nil _, HK2.out⟩
      · obtain rfl : k = ts.length := by omega
        have HE2 : Hid (R = (0, s.b)) := by
          have h1 := HT.out
          rw [List.take_length] at h1
          rw [Hid, HE.out, h1, if_pos rfl]
        have HSL : Hid (s.b.length ≤ 140737488350000) := by
          have h1 := tellT_size (s := s0) (ts := ts) (by have := HT.out; rw [List.take_length] at this; rw [this])
          have h2 := HT.out
          rw [List.take_length] at h2
          rw [h2] at h1
          have := HSM.out; have := HL0.out
          show _ ≤ _
          simp only at h1
          omega
        have HBY := Lib.hid (hs_bytes wr q bs' s HO.out HSL.out)
        clear HE HT
        go_wp2_with fail
        refine HBY.out.mono ?_; rintro e w2 ⟨v2, rfl, o2, k2, b2⟩
        obtain ⟨ax, nx, cx, rfl⟩ := o2.shape
        have HK2 : Hid (Keep [] w w2) := HK.out.trans k2 (by simp)
        have HO2 := Lib.hid o2.bs
        clear k2 b2 o2 HBY
        go_wp2_with fail
        go_ret2
        exact ⟨_, by rw [HE2.out]; rfl, by rw [HE2.out]; exact HO2.out, HK2.out⟩
end Go.Proofs.Ytjbjgcanbkpmdaa
namespace Go.Proofs.Ytjbjgcanbkpmdaa
set_option linter.unusedVariables false
set_option linter.unusedSimpArgs false
open Go.ChangeShapes Go.WideShapes Go.ChangeAt Go.RowKit

theorem Ts.lit (w : World) (ts : List Tk) (cs : Array Value) (n : Nat) (hc : cs.toList = tcells ts) (hn : ts.length = n) (hl : n ≤ maxLen) (hz : ∀ t ∈ ts, t.wf) : Ts (w.alloc (.cells cs 40)) (.slice (some ⟨w.heap.size, 0, none⟩) n n) ts := by
  subst hn
  refine ⟨some ⟨w.heap.size, 0, none⟩, ts.length, rfl, Nat.le_refl _, hl, (fun h => nomatch h), fun x hx j hj => ?_, hz⟩
  obtain rfl : (⟨w.heap.size, 0, none⟩ : Addr) = x := by simpa using hx
  rw [show (⟨w.heap.size, 0, none⟩ : Addr).add j = ⟨w.heap.size, j, none⟩ by cases j <;> simp [Addr.add]]
  obtain ⟨u, hu⟩ : ∃ u, (tcells ts)[j]? = some u := ⟨_, List.getElem?_eq_getElem (by rw [tcells_len]; exact hj)⟩
  rw [hu]
  exact (Blk.new w cs 40).cell j _ (by rw [← Array.getElem?_toList, hc]; exact hu)
theorem lives8_exp : expT [⟨7, 0, 0⟩, ⟨0, 1, 2⟩] 9 9 false = (0, [7, 7, 7]) := by decide
end Go.Proofs.Ytjbjgcanbkpmdaa
