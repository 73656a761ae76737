/- Contracts of token's calls: run, addCopy, Runs, size, Size, tell, Expand. -/
import Derived.Test.YtkjikcdobnegaaaTokRun
import Derived.Test.YtkjikcdobnegaaaRefTok2
import Derived.Test.YtkjikcdobnegaaaHst
namespace Go.Proofs.Ytkjikcdobnegaaa
set_option linter.unusedVariables false
set_option linter.unusedSimpArgs false
open Go.ChangeShapes Go.WideShapes Go.ChangeAt Go.RowKit

theorem wf_nat (n : Nat) (h : n ≤ 9223372036854775807) : (Lit.int .i64 (n : Int)).wf = true := by simp [Lit.wf, IntKind.min, IntKind.max, IntKind.bits, IntKind.signed]; omega
/-- how many of a text's first bytes are equal -/
theorem run_c (w : World) (v : Value) (b : List UInt8) (hb1 : 1 ≤ b.length) (hb : b.length ≤ 100000) (h : Bs w v b) : Calls Try.prog 15 #[v] w fun e w' => ∃ n : Nat, e = .returned (.int .i64 n) ∧ 1 ≤ n ∧ n ≤ b.length ∧ (∀ i, i < n → b.getD i 0 = b.getD 0 0) ∧ (n < b.length → b.getD n 0 ≠ b.getD 0 0) ∧ ∃ m, w' = w.drewN m := by
  obtain ⟨h1, _⟩ | ⟨_, g, off, cap, rfl, hl1, hl2, hg, hc⟩ := h.cases
  · rw [h1] at hb1; simp at hb1
  have HC := Lib.hid hc
  have e0 := hc 0 hb1
  rw [Nat.add_zero] at e0
  have g0 : b.getD 0 0 = b[0] := by rw [List.getD_eq_getElem?_getD, List.getElem?_eq_getElem hb1]; rfl
  have hz0 : (0 : Int) < (b.length : Int) := by omega
  clear hc h
  have HG := Lib.hid g0
  clear g0
  go_enter Try.func15, Try.ntmps15
  go_wp2_with fail
  go_loopw [3] (fun i wr => ∃ n : Nat, i = .int .i64 n ∧ 1 ≤ n ∧ n ≤ b.length ∧ Hid (∀ i, i < n → b.getD i 0 = b.getD 0 0) ∧ ∃ m, wr = w.drewN m) (fun i _ => b.length - (intOf i).toNat)
  case atStart => exact ⟨1, rfl, by omega, by omega, (fun i hi => by rw [show i = 0 by omega]), 0, rfl⟩
  case round =>
    obtain ⟨n, rfl, hn1, hn2, HE, m, rfl⟩ := hrel
    by_cases hlt : n < b.length
    · have z1 : (n : Int) < (b.length : Int) := by omega
      have e1 := HC.out n hlt
      have g1 : b.getD n 0 = b[n] := by simp [hlt]
      by_cases hne : b[n] = b[0]
      · have HN : Hid (∀ i, i < n + 1 → b.getD i 0 = b.getD 0 0) := fun i hi => by
          by_cases h : i < n
          · exact HE.out i h
          · rw [show i = n by omega, g1, HG.out, hne]
        rw [hne] at e1
        generalize (b[0]).toNat = x0 at e0 e1
        clear g1 hne HE
        go_wp2_with fail
        go_quiet (fail)
        go_wp2_with fail
        go_roundw
        case rel => exact ⟨n + 1, by go_num, by omega, by omega, HN, _, rfl⟩
        case measure => simp [intOf]; omega
      · have HN : Hid (b.getD n 0 ≠ b.getD 0 0) := by unfold Hid; rw [g1, HG.out]; exact hne
        have hne' : ((b[n]).toNat : Int) ≠ ((b[0]).toNat : Int) := fun h => hne (UInt8.toNat_inj.1 (by omega))
        generalize (b[0]).toNat = x0 at e0 hne'
        generalize (b[n]).toNat = x1 at e1 hne'
        have hb1 : ((x1 : Int) == (x0 : Int)) = false := by rw [beq_eq_false_iff_ne]; exact hne'
        clear g1 hne hne'
        go_wp2_with fail
        go_quiet (fail)
        go_wp2_with fail
        go_ret
        exact ⟨n, rfl, hn1, hn2, HE.out, fun _ => HN.out, _, World.drewN_drewN _ _ _⟩
    · have z1 : decide ((n : Int) < (b.length : Int)) = false := by simp; omega
      have z2 : decide (n < b.length) = false := by simp; omega
      have HQ : Hid (¬ n < b.length) := hlt
      clear hlt
      go_wp2_with fail
      go_quiet (fail)
      go_wp2_with fail
      go_ret
      exact ⟨n, rfl, hn1, hn2, HE.out, fun h => absurd h HQ.out, _, World.drewN_drewN _ _ _⟩
theorem pcs_wf (d : Int) (hd : (Lit.int .i64 d).wf = true) (most : Nat) (hm : most ≤ 9223372036854775807) (n : Nat) : ∀ t ∈ pcs d most n, t.wf := by
  induction n using Nat.strongRecOn with
  | _ n ih =>
    by_cases h : n = 0 ∨ most = 0
    · rw [pcs, dif_pos h]; simp
    · rw [pcs, dif_neg h]
      intro t ht
      rcases List.mem_cons.1 ht with h1 | h1
      · subst h1; exact ⟨hd, wf_nat _ (by omega)⟩
      · exact ih (n - most) (by omega) t h1
set_option maxHeartbeats 2000000 in
/-- a copy put behind tokens, in pieces -/
theorem addcopy_c (w : World) (v : Value) (ts : List Tk) (d : Int) (n most : Nat) (hd : (Lit.int .i64 d).wf = true) (hm : 1 ≤ most) (hm2 : most ≤ 9223372036854775807) (hn : n ≤ 400000) (hl : ts.length + n ≤ 900000) (h : OwnT w v ts) :
    Calls Try.prog 16 #[v, .int .i64 d, .int .i64 n, .int .i64 most] w fun e w' => ∃ v', e = .returned v' ∧ OwnT w' v' (ts ++ pcs d most n) ∧ Keep v.ownBlock.toList w w' ∧ (∀ b, v'.ownBlock = some b → v.ownBlock = some b ∨ w.heap.size ≤ b) := by
  obtain ⟨a0, n0, c0, hv⟩ : ∃ a n c, v = .slice a n c := by obtain ⟨a, c, e, _⟩ := h.ts; exact ⟨_, _, _, e⟩
  subst hv
  have HO := Lib.hid h
  have HD := Lib.hid hd
  have HM := Lib.hid hm2
  have HL := Lib.hid hl
  obtain ⟨V, hV⟩ : ∃ V : Option Nat, (Value.slice a0 n0 c0).ownBlock = V := ⟨_, rfl⟩
  rw [hV]
  have HV := Lib.hid hV
  clear h hd hm2 hl hV
  go_enter Try.func16, Try.ntmps16
  go_wp2_with fail
  go_loopw [0, 2] (fun ov i wr => ∃ (r : Nat) (ts' : List Tk) (a7 : Option Addr) (n7 c7 : Nat), r ≤ n ∧ i = .int .i64 r ∧ ov = .slice a7 n7 c7 ∧ Hid (OwnT wr (.slice a7 n7 c7) ts') ∧ Hid (ts' ++ pcs d most r = ts ++ pcs d most n) ∧ Hid (ts'.length + r ≤ 900000) ∧ Hid (Keep V.toList w wr) ∧ Hid (∀ x, (Value.slice a7 n7 c7).ownBlock = some x → V = some x ∨ w.heap.size ≤ x)) (fun _ i _ => (intOf i).toNat)
  case atStart => exact ⟨n, ts, a0, n0, c0, by omega, rfl, rfl, HO, rfl, HL.out, Keep.refl _ _, fun x hx => .inl (by rw [← HV.out]; exact hx)⟩
  case round =>
    obtain ⟨r, ts', a7, n7, c7, hr, rfl, rfl, HT, HE, HS, HK, HB⟩ := hrel
    by_cases h0 : r = 0
    · subst h0
      have HE2 : Hid (ts' = ts ++ pcs d most n) := by have := HE.out; rw [pcs_zero, List.append_nil] at this; exact this
      have t : decide ((0 : Int) < 0) = false := rfl
      clear HE
      go_wp2_with fail
      go_ret
      exact ⟨_, rfl, by rw [← HE2.out]; exact HT.out, HK.out, HB.out⟩
    · have t1 : (r : Int) > 0 := by omega
      obtain ⟨j, hj⟩ : ∃ j : Nat, min r most = j := ⟨_, rfl⟩
      have hj2 : min (r : Int) (most : Int) = (j : Int) := by omega
      have hj3 : j ≤ r := by omega
      have hj5 : 1 ≤ j := by omega
      have hw1 : IntKind.i64.wrap ((r : Int) - (j : Int)) = ((r - j : Nat) : Int) := by rw [IntKind.wrap_i64]; omega
      have HST : Hid ((ts' ++ [(⟨0, d, (j : Int)⟩ : Tk)]) ++ pcs d most (r - j) = ts ++ pcs d most n) := by
        have := HE.out
        rw [pcs_step d most r (by omega) hm, hj] at this
        unfold Hid
        rw [← this]
        have e : r - j = r - most := by omega
        rw [e]; simp
      have hwt : (⟨0, d, (j : Int)⟩ : Tk).wf := ⟨HD.out, wf_nat _ (by have := HM.out; omega)⟩
      have HWT := Lib.hid hwt
      have hS : ∀ A, Blk ((wr.alloc A).alloc (.cells (⟨0, d, (j : Int)⟩ : Tk).cells.toArray 39)) (wr.heap.size + 1) (⟨0, d, (j : Int)⟩ : Tk).cells.toArray 39 := fun A => by
        have := Blk.new (wr.alloc A) (⟨0, d, (j : Int)⟩ : Tk).cells.toArray 39
        simpa using this
      have hS1 : Blk (wr.alloc (.cells (⟨0, d, (j : Int)⟩ : Tk).cells.toArray 39)) wr.heap.size (⟨0, d, (j : Int)⟩ : Tk).cells.toArray 39 := Blk.new _ _ _
      have HSS := Lib.hid hS
      have HSS1 := Lib.hid hS1
      have HS' : Hid (ts'.length ≤ 1000000) := by have := HS.out; show _ ≤ _; omega
      clear hS hS1 hwt hj h0 HE
      go_wp2_with (at_builtin; (refine wpList_appendT (.tmp 15) (.tmp 19) rfl rfl (.slice a7 n7 c7) ts' rfl (HT.out.keep ((Keep.refl [] wr).alloc _) (by simp)) wr.heap.size (⟨0, d, (j : Int)⟩ : Tk) rfl HSS1.out HWT.out HS'.out ?_); (intro v8 w8 o8 k8 b8 z8); (obtain ⟨g8, c8, hv8⟩ := o8.blk z8); (subst hv8))
      have HK8 : Hid (Keep V.toList w w8) := (HK.out.alloc _).trans k8 (fun x hx => (HB.out x (by simpa using hx)).imp (fun h => by simp [h]) id)
      have HB8 : Hid (∀ b, (Value.slice (some ⟨g8, 0, none⟩) (ts' ++ [(⟨0, d, (j : Int)⟩ : Tk)]).length c8).ownBlock = some b → V = some b ∨ w.heap.size ≤ b) := fun b hb => by
        rcases b8 b hb with h | h
        · exact HB.out b h
        · right; have := HK.out.size; rw [h]; simp; omega
      have HO8 := Lib.hid o8
      have HS8 : Hid ((ts' ++ [(⟨0, d, (j : Int)⟩ : Tk)]).length + (r - j) ≤ 900000) := by have := HS.out; unfold Hid; simp; omega
      clear o8 k8 b8 z8 HT HK HB HS HSS HSS1 HS' HWT
      rw [show (ts' ++ [(⟨0, d, (j : Int)⟩ : Tk)]).length = ts'.length + 1 by simp] at HO8 HB8
      generalize (ts' ++ [(⟨0, d, (j : Int)⟩ : Tk)]) = ts8 at HO8 HS8 HST
      generalize ts'.length + 1 = m8 at HO8 HB8 ⊢
      go_roundw
      case rel => exact ⟨r - j, ts8, _, _, _, by omega, by go_num, rfl, HO8, HST, HS8, HK8, HB8⟩
      case measure => simp [intOf]; omega
set_option maxRecDepth 100000 in
set_option maxHeartbeats 4000000 in
/-- a text's runs -/
theorem tok_runs (w : World) (v : Value) (b : List UInt8) (hb : b.length ≤ 100000) (h : Bs w v b) : Calls Try.prog 6 #[v] w fun e w' => ∃ v', e = .returned v' ∧ Ts w' v' (runs b) ∧ Keep [] w w' := by
  obtain ⟨a0, c0, hv, _⟩ := h.shape
  subst hv
  have HB0 := Lib.hid h
  have HLB := Lib.hid hb
  clear h hb
  obtain ⟨n0, hn0⟩ : ∃ n, n = b.length := ⟨_, rfl⟩
  rw [← hn0] at HB0 ⊢
  have HN0 := Lib.hid hn0
  clear hn0
  go_enter Try.func6, Try.ntmps6
  go_wp2_with fail
  go_loopw [0, 3] (fun bv ov wr => ∃ (k : Nat) (a1 : Option Addr) (n1 c1 : Nat) (a7 : Option Addr) (n7 c7 : Nat), bv = .slice a1 n1 c1 ∧ n1 = b.length - k ∧ k ≤ b.length ∧ Hid (k = 0 ∨ k = b.length ∨ b.getD k 0 ≠ b.getD (k - 1) 0) ∧ Hid (∀ w', Keep [] w w' → Bs w' (.slice a1 n1 c1) (b.drop k)) ∧ ov = .slice a7 n7 c7 ∧ Hid (OwnT wr (.slice a7 n7 c7) (rn b k)) ∧ Hid (Keep [] w wr) ∧ Hid (∀ x, (Value.slice a7 n7 c7).ownBlock = some x → w.heap.size ≤ x)) (fun bv _ _ => match bv with | .slice _ n _ => n | _ => 0)
  case atStart =>
    refine ⟨0, a0, n0, c0, none, 0, 0, rfl, HN0.out, by omega, .inl rfl, (fun w' k' => ?_), rfl, OwnT.nil w, Keep.refl _ _, fun x hx => by simp [Value.ownBlock] at hx⟩
    rw [List.drop_zero]
    have := HB0.out
    exact this.keep k' (by simp)
  case round =>
    obtain ⟨k, a1, n1, c1, a7, n7, c7, rfl, hn1, hk, HR, HD, rfl, HO, HK, HB⟩ := hrel
    have HN1 := Lib.hid hn1
    have HKL := Lib.hid hk
    have hlr := Lib.hid (rn_all b k hk).len
    by_cases h0 : n1 = 0
    · have HE : Hid (rn b k = runs b) := by unfold Hid runs; rw [show k = b.length by omega]
      subst h0
      have t : decide ((0 : Int) < 0) = false := rfl
      clear hn1 hk HN1 HKL
      go_wp2_with fail
      go_ret
      exact ⟨_, rfl, by rw [← HE.out]; exact HO.out.ts, HK.out⟩
    · have t : (n1 : Int) > 0 := by omega
      have t' : (0 : Int) < (n1 : Int) := by omega
      have hkl : k < b.length := by omega
      have HC := Lib.hid (fun w' (k' : Keep [] w w') => run_c w' _ (b.drop k) (by rw [List.length_drop]; omega) (by rw [List.length_drop]; have := HLB.out; omega) (HD.out w' k'))
      have HRS : Hid (k = 0 ∨ b.getD k 0 ≠ b.getD (k - 1) 0) := by
        rcases HR.out with h | h | h
        · exact .inl h
        · omega
        · exact .inr h
      have HKLT := Lib.hid hkl
      clear hn1 hk h0 hkl HR
      go_wp2_with fail
      refine (HC.out _ HK.out).mono ?_; rintro e w1 ⟨n, rfl, r1, r2, r3, r4, m, rfl⟩
      rw [List.length_drop] at r2 r4
      have hg : ∀ i, (b.drop k).getD i 0 = b.getD (k + i) 0 := fun i => by simp [List.getD_eq_getElem?_getD, List.getElem?_drop]
      have hrun : rn b (k + n) = (rn b k ++ [⟨b.getD k 0, 0, 0⟩]) ++ pcs 1 258 (n - 1) := by
        have := rn_run b k (n - 1) HRS.out (fun i hi => by have := r3 i (by omega); rw [hg, hg] at this; exact this)
        rw [show k + n = k + 1 + (n - 1) by omega, this]; simp
      have hnext : k + n = b.length ∨ b.getD (k + n) 0 ≠ b.getD (k + n - 1) 0 := by
        by_cases h : n < b.length - k
        · right
          have h1 := r4 h
          have h2 := r3 (n - 1) (by omega)
          rw [hg, hg] at h1
          rw [hg, hg] at h2
          rw [show k + n - 1 = k + (n - 1) by omega, h2]; exact h1
        · left; omega
      obtain ⟨g, off, cp, hv, e0⟩ := Bs.spot (HD.out wr HK.out) 0 (by rw [List.length_drop]; have := HKLT.out; omega)
      simp only [Value.slice.injEq] at hv
      obtain ⟨hv1, hv2, hv3⟩ := hv
      subst hv1 hv3
      clear hv2
      rw [Nat.add_zero, show (b.drop k)[0]'(by rw [List.length_drop]; have := HKLT.out; omega) = b.getD k 0 from by rw [List.getElem_drop, List.getD_eq_getElem?_getD, List.getElem?_eq_getElem (by have := HKLT.out; omega)]; rfl] at e0
      have HRUN := Lib.hid hrun; have HNX := Lib.hid hnext
      have HR1 := Lib.hid r1
      have HR2 : Hid (n ≤ n1) := by have := HN1.out; show _ ≤ _; omega
      have HCC := Lib.hid e0
      clear hrun hnext r2 r3 r4 hg HC
      have HF : ∃ c : UInt8, c = b.getD k 0 := ⟨_, rfl⟩
      obtain ⟨c, hc⟩ := HF
      rw [← hc] at e0 HRUN
      clear hc
      have HOm := Lib.hid (HO.out.keep ((Keep.refl [] wr).drewN m) (by simp))
      have HKm := Lib.hid (HK.out.drewN m)
      have e0m : (wr.drewN m).cell? ⟨g, off, none⟩ = some (.int .u8 c.toNat) := e0
      generalize wr.drewN m = w2 at HOm HKm e0m ⊢
      clear e0
      have hS1 : Blk (w2.alloc (.cells (⟨c, 0, 0⟩ : Tk).cells.toArray 39)) w2.heap.size (⟨c, 0, 0⟩ : Tk).cells.toArray 39 := Blk.new _ _ _
      have HSS1 := Lib.hid hS1
      have hwt : (⟨c, 0, 0⟩ : Tk).wf := ⟨wf0, wf0⟩
      have HWT := Lib.hid hwt
      have HS' : Hid ((rn b k).length ≤ 1000000) := by have := hlr.out; have := HLB.out; have := HKLT.out; show _ ≤ _; omega
      obtain ⟨nm, hnm⟩ : ∃ nm, nm = n - 1 := ⟨_, rfl⟩
      have hwr : IntKind.i64.wrap ((n : Int) - 1) = (nm : Int) := by rw [IntKind.wrap_i64]; have := HR2.out; have := HN1.out; have := HLB.out; omega
      rw [← hnm] at HRUN
      have HNM := Lib.hid hnm
      clear hS1 hwt hnm r1
      obtain ⟨p, hp, hpb, hpo⟩ := Bs.from (HD.out w (Keep.refl _ _)) n n rfl (by rw [List.length_drop]; have := HR2.out; have := HN1.out; omega)
      rw [List.drop_drop] at hpb
      obtain ⟨ap, cp2, hpe, _⟩ := hpb.shape
      rw [List.length_drop] at hpe
      obtain ⟨np, hnp⟩ : ∃ np, np = b.length - (k + n) := ⟨_, rfl⟩
      rw [← hnp] at hpe
      subst hpe
      have HPB := Lib.hid (fun w' (k' : Keep [] w w') => hpb.keep k' (by simp))
      have HNP := Lib.hid hnp
      clear hpb hpo hnp
      go_wp2_with (at_builtin; (refine wpList_appendT (.tmp 10) (.tmp 15) rfl rfl (.slice a7 n7 c7) (rn b k) rfl (HOm.out.keep ((Keep.refl [] w2).alloc _) (by simp)) w2.heap.size (⟨c, 0, 0⟩ : Tk) rfl HSS1.out HWT.out HS'.out ?_); (intro v8 w8 o8 k8 b8 z8); (obtain ⟨g8, c8, hv8⟩ := o8.blk z8); (subst hv8))
      have HK8 : Hid (Keep [] w w8) := (HKm.out.alloc _).trans k8 (fun x hx => .inr (HB.out x (by simpa using hx)))
      have HB8 : Hid (∀ x, (Value.slice (some ⟨g8, 0, none⟩) (rn b k ++ [(⟨c, 0, 0⟩ : Tk)]).length c8).ownBlock = some x → w.heap.size ≤ x) := fun x hx => by
        rcases b8 x hx with h | h
        · exact HB.out x h
        · have := HKm.out.size; rw [h]; simp; omega
      have HA := Lib.hid (addcopy_c w8 _ _ 1 nm 258 wf1 (by omega) (by omega) (by have := HNM.out; have := HR2.out; have := HN1.out; have := HLB.out; omega) (by have := HNM.out; have := HR2.out; have := HN1.out; have := HLB.out; have := hlr.out; simp; omega) o8)
      rw [← HRUN.out] at HA
      clear o8 k8 b8 z8 HSS1 HS' HWT HO HK HB HOm HKm
      rw [List.length_append] at HA HB8
      change Hid (∀ x, (Value.slice (some ⟨g8, 0, none⟩) ((rn b k).length + 1) c8).ownBlock = some x → w.heap.size ≤ x) at HB8
      change Hid (Calls Try.prog 16 #[.slice (some ⟨g8, 0, none⟩) ((rn b k).length + 1) c8, _, _, _] _ _) at HA
      generalize (rn b k).length + 1 = m8 at HA HB8 ⊢
      go_wp2_with fail
      refine HA.out.mono ?_; rintro e w9 ⟨v9, rfl, o9, k9, b9⟩
      obtain ⟨a9, c9, e9, _⟩ := o9.ts
      subst e9
      have HK9 : Hid (Keep [] w w9) := HK8.out.trans k9 (fun x hx => .inr (HB8.out x (by simpa using hx)))
      have HB9 : Hid (∀ x, (Value.slice a9 (rn b (k + n)).length c9).ownBlock = some x → w.heap.size ≤ x) := fun x hx => by
        rcases b9 x hx with h | h
        · exact HB8.out x h
        · exact Nat.le_trans HK8.out.size h
      have HO9 := Lib.hid o9
      clear o9 k9 b9 HA HB8 HK8
      generalize (rn b (k + n)).length = m9 at HO9 HB9 ⊢
      go_wp2_with fail
      go_roundw
      case rel => exact ⟨k + n, ap, np, cp2, a9, m9, c9, rfl, HNP.out, by have := HR2.out; have := HN1.out; have := HKLT.out; omega, .inr HNX.out, HPB.out, rfl, HO9, HK9, HB9⟩
      case measure => have := HNP.out; have := HN1.out; have := HR1.out; have := HR2.out; have := HKLT.out; simp; omega
/-- how many bytes a token tells -/
theorem size1_c (w : World) (t : Tk) (ht : t.wf) : Calls Try.prog 20 #[.agg t.cells.toArray] w fun e w' => e = .returned (.int .i64 (sz1 t)) ∧ Keep [] w w' := by
  obtain ⟨c, d, l⟩ := t
  have hl := ht.2
  simp only [Lit.wf, IntKind.min, IntKind.max, IntKind.bits, IntKind.signed, Bool.and_eq_true, decide_eq_true_eq] at hl
  have hK := (Keep.refl [] w).alloc (.cells #[.int .u8 c.toNat, .int .i64 d, .int .i64 l] 39)
  have HK := Lib.hid hK
  clear hK
  show Calls Try.prog 20 #[.agg #[.int .u8 c.toNat, .int .i64 d, .int .i64 l]] w _
  unfold sz1
  show Calls _ _ _ _ fun e w' => e = .returned (.int .i64 ((if l = 0 then 1 else l.toNat : Nat) : Int)) ∧ _
  by_cases h0 : l = 0
  · rw [if_pos h0]
    subst h0
    clear hl ht
    go_enter Try.func20, Try.ntmps20
    go_wp2_with fail
    go_ret
    exact ⟨rfl, HK.out⟩
  · rw [if_neg h0]
    have hb : (l == 0) = false := by simpa using h0
    have hm : max (0 : Int) l = ((l.toNat : Nat) : Int) := by omega
    obtain ⟨m, hmm⟩ : ∃ m : Nat, l.toNat = m := ⟨_, rfl⟩
    rw [hmm] at hm ⊢
    clear h0 hl ht hmm
    go_enter Try.func20, Try.ntmps20
    go_wp2_with fail
    go_ret
    exact ⟨rfl, HK.out⟩
theorem tok_size (w : World) (v : Value) (ts : List Tk) (h : Ts w v ts) : Calls Try.prog 11 #[v] w fun e w' => e = .returned (.int .i64 (sizeT ts)) ∧ Keep [] w w' := by
  have HI := Lib.hid (fun w' (k : Keep [] w w') i hi => (h.keep k (by simp)).at i hi)
  have HWF := Lib.hid h.wf
  obtain ⟨a, cap, rfl, hl⟩ := h.sh
  clear h
  go_enter Try.func11, Try.ntmps11
  go_wp2_with fail
  go_loopw [3, 8] (fun sv i wr => ∃ (k z : Nat), k ≤ ts.length ∧ i = .int .i64 k ∧ sv = .int .i64 z ∧ Hid (z = min 4611686018427387904 (sumT (ts.take k))) ∧ Hid (Keep [] w wr)) (fun _ i _ => ts.length - (intOf i).toNat)
  case atStart => exact ⟨0, 0, by omega, rfl, rfl, (by unfold Hid; simp [sumT]), Keep.refl _ _⟩
  case round =>
    obtain ⟨k, z, hk, rfl, rfl, HZ, HK⟩ := hrel
    by_cases hlt : k < ts.length
    · have z1 : (k : Int) < (ts.length : Int) := by omega
      obtain ⟨b, off, cap1, hv, e1, e2, e3⟩ := HI.out wr HK.out k hlt
      simp only [Value.slice.injEq] at hv
      obtain ⟨rfl, h2, rfl⟩ := hv
      clear h2
      have HST := Lib.hid (sumT_take ts k hlt)
      have HW := Lib.hid (HWF.out _ (List.getElem_mem hlt))
      generalize ts[k] = t at e1 e2 e3 HST HW
      have HS := Lib.hid (fun ww => size1_c ww t HW.out)
      have hz : z ≤ 4611686018427387904 := by have := HZ.out; omega
      have hw1 : IntKind.i64.wrap (4611686018427387904 - (z : Int)) = ((4611686018427387904 - z : Nat) : Int) := by rw [IntKind.wrap_i64]; omega
      obtain ⟨r, hr⟩ : ∃ r : Nat, 4611686018427387904 - z = r := ⟨_, rfl⟩
      rw [hr] at hw1
      obtain ⟨y, hy⟩ : ∃ y : Nat, sz1 t = y := ⟨_, rfl⟩
      rw [hy] at HST
      have HS' : Hid (∀ ww, Calls Try.prog 20 #[.agg #[.int .u8 t.lit.toNat, .int .i64 t.dist, .int .i64 t.len]] ww fun e w' => e = .returned (.int .i64 (y : Int)) ∧ Keep [] ww w') := by unfold Hid; rw [← hy]; exact HS.out
      clear HS hy
      obtain ⟨m, hm⟩ : ∃ m : Nat, min y r = m := ⟨_, rfl⟩
      have hm2 : min (y : Int) (r : Int) = (m : Int) := by omega
      have hw2 : IntKind.i64.wrap ((z : Int) + (m : Int)) = ((z + m : Nat) : Int) := by rw [IntKind.wrap_i64]; omega
      have HZ2 : Hid (z + m = min 4611686018427387904 (sumT (ts.take (k + 1)))) := by unfold Hid; rw [HST.out]; have := HZ.out; omega
      obtain ⟨z2, hz2⟩ : ∃ z2 : Nat, z + m = z2 := ⟨_, rfl⟩
      rw [hz2] at hw2 HZ2
      clear hm hr hz HZ HST hz2
      go_wp2_with fail
      refine (HS'.out _).mono ?_; rintro e w2 ⟨rfl, k2⟩
      have HK2 : Hid (Keep [] w w2) := (HK.out.alloc _).trans k2 (by simp)
      clear k2 HS'
      go_wp2_with fail
      go_roundw
      case rel => exact ⟨k + 1, z2, by omega, by go_num, rfl, HZ2, HK2⟩
      case measure => simp [intOf]; omega
    · obtain rfl : k = ts.length := by omega
      have HE : Hid (z = sizeT ts) := by have := HZ.out; rw [List.take_length] at this; exact this
      clear HZ
      go_wp2_with fail
      go_ret
      exact ⟨by rw [HE.out]; rfl, HK.out⟩
/-- one token told -/
theorem tell_c (w : World) (q : Nat) (bs : List Nat) (s : HS) (t : Tk) (h : Ho w q bs s) (ht : t.wf) (hl : s.b.length + sz1 t ≤ 140737488350000) : Calls Try.prog 18 #[.pointer (some ⟨q, 0, none⟩), .agg t.cells.toArray] w fun e w' => e = .returned (.int .i64 (s.tk t).1) ∧ HoStep w w' q bs (s.tk t).2 := by
  obtain ⟨c, d, l⟩ := t
  have hd := ht.1
  have hll := ht.2
  have hK := (Keep.refl [] w).alloc (.cells #[.int .u8 c.toNat, .int .i64 d, .int .i64 l] 39)
  have hHo := h.keep hK (by simp)
  have HB := Lib.hid hK
  have hsz : w.heap.size ≤ (w.alloc (.cells #[.int .u8 c.toNat, .int .i64 d, .int .i64 l] 39)).heap.size := by simp
  have HSZ := Lib.hid hsz
  clear hK hsz
  show Calls Try.prog 18 #[_, .agg #[.int .u8 c.toNat, .int .i64 d, .int .i64 l]] w _
  unfold HS.tk
  show Calls _ _ _ _ fun e w' => e = .returned (.int .i64 ((if l = 0 then s.lit c else s.copy d l).1 : Nat)) ∧ HoStep w w' q bs (if l = 0 then s.lit c else s.copy d l).2
  by_cases h0 : l = 0
  · rw [if_pos h0]
    have HC := Lib.hid (hs_lit _ q bs s c hHo (by unfold sz1 at hl; rw [if_pos h0] at hl; exact hl))
    subst h0
    clear hl hd hll ht hHo h
    go_enter Try.func18, Try.ntmps18
    go_wp2_with fail
    refine HC.out.mono ?_; rintro e w2 ⟨rfl, hst⟩
    obtain ⟨bs', h1, h2, h3⟩ := hst
    have HR : Hid (HoStep w w2 q bs (s.lit c).2) := ⟨bs', h1, HB.out.nil.trans h2 (fun x hx => .inl hx), fun b hb => (h3 b hb).imp id (fun h => Nat.le_trans HSZ.out h)⟩
    clear h1 h2 h3 HC
    go_wp2_with fail
    go_ret
    exact ⟨rfl, HR.out⟩
  · rw [if_neg h0]
    have HC := Lib.hid (hs_copy _ q bs s d l hHo hd hll (by unfold sz1 at hl; rw [if_neg h0] at hl; simp only at hl; split <;> omega))
    have hb : (l == 0) = false := by simpa using h0
    clear hl hd hll ht hHo h h0
    go_enter Try.func18, Try.ntmps18
    go_wp2_with fail
    refine HC.out.mono ?_; rintro e w2 ⟨rfl, hst⟩
    obtain ⟨bs', h1, h2, h3⟩ := hst
    have HR : Hid (HoStep w w2 q bs (s.copy d l).2) := ⟨bs', h1, HB.out.nil.trans h2 (fun x hx => .inl hx), fun b hb => (h3 b hb).imp id (fun h => Nat.le_trans HSZ.out h)⟩
    clear h1 h2 h3 HC
    go_wp2_with fail
    go_ret
    exact ⟨rfl, HR.out⟩
set_option maxRecDepth 100000 in
set_option maxHeartbeats 2000000 in
theorem tok_expand (w : World) (v : Value) (ts : List Tk) (win most : Int) (nou : Bool) (h : Ts w v ts) (hw : (Lit.int .i64 win).wf = true) (hm : (Lit.int .i64 most).wf = true) (hs : sumT ts ≤ 140737488350000) :
    Calls Try.prog 7 #[v, .int .i64 win, .int .i64 most, .bool nou] w fun e w' => ∃ v', e = .returned (.tuple #[v', .int .i64 (expT ts win most nou).1]) ∧ Bs w' v' (expT ts win most nou).2 ∧ Keep [] w w' := by
  have HI := Lib.hid (fun w' (k : Keep [] w w') i hi => (h.keep k (by simp)).at i hi)
  have HWF := Lib.hid h.wf
  have HSM := Lib.hid hs
  have hm' : -9223372036854775808 ≤ most ∧ most ≤ 9223372036854775807 := by simp [Lit.wf, IntKind.min, IntKind.max, IntKind.bits, IntKind.signed] at hm; omega
  obtain ⟨a, cap, rfl, hl⟩ := h.sh
  have HN := Lib.hid (hs_new w win most nou (by omega) (by omega))
  obtain ⟨R, hR⟩ : ∃ R, expT ts win most nou = R := ⟨_, rfl⟩
  rw [hR]
  have HR := Lib.hid hR
  clear h hs hw hm hm' hR
  go_enter Try.func7, Try.ntmps7
  go_wp2_with fail
  refine HN.out.mono ?_; rintro e w1 ⟨p, er, rfl, k1, n1, n2⟩
  have HK1 := Lib.hid k1; have HN1 := Lib.hid n1; have HN2 := Lib.hid n2
  clear k1 n1 n2
  by_cases hb : hsBad win most
  · obtain ⟨rfl, rfl⟩ := HN1.out hb
    have HE : Hid (R = (2, [])) := by
      rw [Hid, ← HR.out]; unfold expT; rw [if_pos (show winBad win most from hb)]
    clear HN1 HN2 HN HR hb
    go_wp2_with fail
    go_ret2
    exact ⟨_, by rw [HE.out]; rfl, by rw [HE.out]; exact Bs.nil _, HK1.out⟩
  · obtain ⟨rfl, q, bs, rfl, ho, hbs⟩ := HN2.out hb
    obtain ⟨s0, hs0⟩ : ∃ s0 : HS, (⟨win.toNat, most.toNat, nou, []⟩ : HS) = s0 := ⟨_, rfl⟩
    have HE : Hid (R = if (tellT s0 ts).1 = 0 then (0, (tellT s0 ts).2.b) else ((tellT s0 ts).1, [])) := by
      rw [Hid, ← HR.out, ← hs0]; unfold expT; rw [if_neg (show ¬ winBad win most from hb)]
    have HL0 : Hid (s0.b.length = 0) := by rw [Hid, ← hs0]; rfl
    rw [hs0] at ho
    have HH := Lib.hid ho; have HBS := Lib.hid hbs
    clear HN1 HN2 HN HR hb ho hbs hs0
    go_wp2_with fail
    go_loopw [27] (fun i wr => ∃ (k : Nat) (s : HS) (bs' : List Nat), k ≤ ts.length ∧ i = .int .i64 k ∧ Hid (tellT s0 (ts.take k) = (0, s)) ∧ Hid (Ho wr q bs' s) ∧ Hid (Keep [] w wr) ∧ Hid (∀ b ∈ bs', w.heap.size ≤ b)) (fun i _ => ts.length - (intOf i).toNat)
    case atStart => exact ⟨0, s0, bs, by omega, rfl, by simp [tellT, Hid], HH, HK1, HBS⟩
    case round =>
      obtain ⟨k, s, bs', hk, rfl, HT, HO, HK, HB⟩ := hrel
      by_cases hlt : k < ts.length
      · have z1 : (k : Int) < (ts.length : Int) := by omega
        obtain ⟨b, off, cap1, hv, e1, e2, e3⟩ := HI.out wr HK.out k hlt
        simp only [Value.slice.injEq] at hv
        obtain ⟨rfl, h2, rfl⟩ := hv
        clear h2
        have HCU : Hid (tellT s0 (ts.take (k + 1)) = s.tk ts[k]) := by
          have := tellT_cut s0 ts k hlt (by rw [HT.out])
          rw [HT.out] at this; exact this
        have HSZ : Hid (s.b.length + sz1 ts[k] ≤ 140737488350000) := by
          have h1 := tellT_size (s := s0) (ts := ts.take k) (by rw [HT.out])
          rw [HT.out] at h1
          have h2 := sumT_take ts k hlt
          have h3 := sumT_le ts (k + 1)
          have := HSM.out; have := HL0.out
          show _ ≤ _
          simp only at h1
          omega
        have HW := Lib.hid (HWF.out _ (List.getElem_mem hlt))
        generalize ts[k] = t at e1 e2 e3 HCU HSZ HW
        have hA : Keep [] wr (wr.alloc (.cells #[.int .u8 t.lit.toNat, .int .i64 t.dist, .int .i64 t.len] 39)) := (Keep.refl [] wr).alloc _
        have HTL : Hid (Calls Try.prog 18 #[.pointer (some ⟨q, 0, none⟩), .agg #[.int .u8 t.lit.toNat, .int .i64 t.dist, .int .i64 t.len]] (wr.alloc (.cells #[.int .u8 t.lit.toNat, .int .i64 t.dist, .int .i64 t.len] 39)) fun e w' => e = .returned (.int .i64 (s.tk t).1) ∧ HoStep (wr.alloc (.cells #[.int .u8 t.lit.toNat, .int .i64 t.dist, .int .i64 t.len] 39)) w' q bs' (s.tk t).2) := tell_c _ q bs' s t (HO.out.keep hA (by simp)) HW.out HSZ.out
        have HKA := Lib.hid (HK.out.alloc (.cells #[.int .u8 t.lit.toNat, .int .i64 t.dist, .int .i64 t.len] 39))
        clear hA HSZ HW
        obtain ⟨er, her⟩ : ∃ er : Nat, (s.tk t).1 = er := ⟨_, rfl⟩
        obtain ⟨s2, hs2⟩ : ∃ s2 : HS, (s.tk t).2 = s2 := ⟨_, rfl⟩
        rw [her, hs2] at HTL
        rw [show s.tk t = (er, s2) from Prod.ext her hs2] at HCU
        clear her hs2
        go_wp2_with fail
        refine HTL.out.mono ?_; rintro e w2 ⟨rfl, bs2, h1, h2, h3⟩
        have HO2 := Lib.hid h1
        have HK2 : Hid (Keep [] w w2) := HKA.out.trans h2 (fun x hx => .inr (HB.out x hx))
        have HB2 : Hid (∀ b ∈ bs2, w.heap.size ≤ b) := fun b hb => by
          rcases h3 b hb with h | h
          · exact HB.out b h
          · exact Nat.le_trans HKA.out.size h
        clear h1 h2 h3 HTL HKA HO HK HB
        by_cases h0 : er = 0
        · subst h0
          go_wp2_with fail
          go_roundw
          case rel => exact ⟨k + 1, s2, bs2, by omega, by go_num, HCU, HO2, HK2, HB2⟩
          case measure => simp [intOf]; omega
        · have he : ((er : Int) != 0) = true := by simp; omega
          have HE2 : Hid (R = (er, [])) := by
            have h1 := tellT_err s0 ts (k + 1) (by rw [HCU.out]; exact h0)
            rw [Hid, HE.out, h1, HCU.out, if_neg h0]
          clear h0 HE
          go_wp2_with fail
          go_ret2
          exact ⟨_, by rw [HE2.out]; rfl, by rw [HE2.out]; exact Bs.nil _, HK2.out⟩
      · obtain rfl : k = ts.length := by omega
        have HE2 : Hid (R = (0, s.b)) := by
          have h1 := HT.out
          rw [List.take_length] at h1
          rw [Hid, HE.out, h1, if_pos rfl]
        have HSL : Hid (s.b.length ≤ 140737488350000) := by
          have h1 := tellT_size (s := s0) (ts := ts) (by have := HT.out; rw [List.take_length] at this; rw [this])
          have h2 := HT.out
          rw [List.take_length] at h2
          rw [h2] at h1
          have := HSM.out; have := HL0.out
          show _ ≤ _
          simp only at h1
          omega
        have HBY := Lib.hid (hs_bytes wr q bs' s HO.out HSL.out)
        clear HE HT
        go_wp2_with fail
        refine HBY.out.mono ?_; rintro e w2 ⟨v2, rfl, o2, k2, b2⟩
        obtain ⟨ax, nx, cx, rfl⟩ := o2.shape
        have HK2 : Hid (Keep [] w w2) := HK.out.trans k2 (by simp)
        have HO2 := Lib.hid o2.bs
        clear k2 b2 o2 HBY
        go_wp2_with fail
        go_ret2
        exact ⟨_, by rw [HE2.out]; rfl, by rw [HE2.out]; exact HO2.out, HK2.out⟩
end Go.Proofs.Ytkjikcdobnegaaa
