/- Texts put together: DynWr2 -/
import Derived.Test.YtibkepjbblfkoaaGreatDoorPart19
import Derived.Test.YtibkepjbblfkoaaGreatDoorPart20
import Derived.Test.YtibkepjbblfkoaaGreatDoorPart11
namespace Go.Proofs.YtibkepjbblfkoaaGreatDoor
set_option linter.unusedVariables false
set_option linter.unusedSimpArgs false
set_option maxRecDepth 100000
open Go.ChangeShapes Go.WideShapes Go.ChangeAt Go.RowKit

def EL17 : El Lt := ⟨2, 60, 48, 16, fun t => [.int .i64 t.sym, .int .i64 t.x]⟩
theorem EL17_good : EL17.Good where
  pos := by decide
  len := fun _ => rfl
  one := fun x u hu => by
    simp only [EL17, List.mem_cons, List.mem_nil_iff, or_false] at hu
    rcases hu with rfl | rfl <;> rfl
  info := by kernel_rfl
  under := Tryz.underlying48
  small := by decide
theorem beg_in (l : List Int) (last : Int) (h0 : l ≠ []) (hl : ∀ z ∈ l, 0 ≤ z ∧ z ≤ 15) : 1 ≤ (beg17 l last).2 ∧ (beg17 l last).2 ≤ l.length := by
  obtain ⟨_, _, a, b, _⟩ := beg_ok l last h0 hl
  exact ⟨a, b⟩
set_option maxHeartbeats 4000000 in
theorem fewer_c (w : World) (v : Value) (l : List Int) (hl : l.length ≤ 400) (hz : ∀ z ∈ l, 0 ≤ z ∧ z ≤ 15) (h : Is .i64 w v l) (hg : G17 w) :
    Calls Tryz.prog 21 #[v] w fun e w' => ∃ v', e = .returned v' ∧ OwnG EL17 w' v' (few17 l.length l (-1)) ∧ Keep [] w w' ∧ ∀ b, v'.ownBlock = some b → w.heap.size ≤ b := by
  have HBE := Lib.hid (fun w' (k : Keep [] w w') v L last (h1 : L.length ≤ 400) (h0 : 0 < L.length) (h2 : ∀ z ∈ L, 0 ≤ z ∧ z ≤ 15) (h3 : Is .i64 w' v L) => begin_c w' v L last h1 h0 h2 h3 (hg.keep k (by simp) (by simp)))
  have HI := Lib.hid h
  obtain ⟨R, hR⟩ : ∃ R, few17 l.length l (-1) = R := ⟨_, rfl⟩
  have HR : Hid ([] ++ few17 l.length l (-1) = R) := hR
  have HZ := Lib.hid hz
  rw [hR]
  obtain ⟨a, cap, rfl, _⟩ := h.sh
  have HO0 : Hid (OwnG EL17 w (.slice none 0 0) []) := OwnG.nil EL17 w
  have HK0 : Hid (Keep [] w w) := Keep.refl [] w
  clear hR h hg hz
  go_enter Tryz.func21, Tryz.ntmps21
  go_wp2_with fail
  go_loopw [0, 3, 4] (fun lv sv la wr => ∃ (L : List Int) (a : Option Addr) (c : Nat) (ts : List Lt) (b : Option Addr) (d : Nat) (last : Int) (F : Nat), lv = .slice a L.length c ∧ sv = .slice b ts.length d ∧ la = .int .i64 last ∧ Hid (Is .i64 wr (.slice a L.length c) L) ∧ Hid (OwnG EL17 wr (.slice b ts.length d) ts) ∧
    Hid (ts ++ few17 F L last = R) ∧ L.length ≤ F ∧ ts.length + L.length ≤ l.length ∧ Hid (∀ z ∈ L, 0 ≤ z ∧ z ≤ 15) ∧ Hid (Keep [] w wr) ∧ Hid (∀ x, (Value.slice b ts.length d).ownBlock = some x → w.heap.size ≤ x) ∧ Hid (∀ x, (Value.slice a L.length c).ownBlock = some x → ∀ y, (Value.slice b ts.length d).ownBlock = some y → x ≠ y)) (fun lv _ _ _ => match lv with | .slice _ n _ => n | _ => 0)
  case atStart => exact ⟨l, a, cap, [], none, 0, -1, l.length, rfl, rfl, rfl, HI, HO0, HR, Nat.le_refl _, by simp, HZ, HK0, fun x hx => by simp [Value.ownBlock] at hx, fun x _ y hy => by simp [Value.ownBlock] at hy⟩
  case round =>
    clear HI HO0 HR HZ HK0
    obtain ⟨L, a, c, ts, b, d, last, F, rfl, rfl, rfl, HI, HO, HR, hF, hts, HZ, HK, HN, HNE⟩ := hrel
    obtain ⟨m, hm⟩ : ∃ m, L.length = m := ⟨_, rfl⟩
    by_cases hlt : 0 < m
    · have hne : L ≠ [] := fun e => by subst e; simp at hm; omega
      obtain ⟨F, rfl⟩ : ∃ G, F = G + 1 := ⟨F - 1, by omega⟩
      have hRR := HR.out
      rw [few17, if_neg hne] at hRR
      obtain ⟨n1, n2⟩ := beg_in L last hne HZ.out
      have hcall := HBE.out wr HK.out _ L last (by omega) (by omega) HZ.out HI.out
      obtain ⟨⟨t, n⟩, hbg⟩ : ∃ x, beg17 L last = x := ⟨_, rfl⟩
      rw [hbg] at hRR n1 n2 hcall
      dsimp only at hRR n1 n2 hcall
      obtain ⟨x0, hx0⟩ : ∃ x, L.getD 0 0 = x := ⟨_, rfl⟩
      have hx0' : L[0]? = some x0 := by rw [← hx0, List.getD_eq_getElem?_getD, List.getElem?_eq_getElem (by omega)]; rfl
      rw [hx0] at hRR
      have hdz : ∀ z ∈ L.drop n, 0 ≤ z ∧ z ≤ 15 := fun z hz => HZ.out z (List.mem_of_mem_drop hz)
      have HDZ := Lib.hid hdz
      have HCALL := Lib.hid hcall
      have HRR := Lib.hid hRR
      have HI2 := Lib.hid (fun w' (k : Keep [] wr w') => HI.out.keep k (by simp))
      have hlz : (0 : Int) < (m : Int) := by omega
      have hlz' : decide ((m : Int) > 0) = true := by simp; omega
      have hdl : (L.drop n).length = m - n := by rw [List.length_drop, hm]
      have HDL := Lib.hid hdl
      have HX0 := Lib.hid hx0'
      rw [hm] at HCALL hts hF n2 HI2 HNE ⊢
      have HLM := Lib.hid hm
      clear hcall hbg hdz hRR hx0 hx0' hne HR HZ hdl hm HI
      go_wp2_with fail
      refine HCALL.out.mono ?_; rintro e w2 ⟨rfl, k2⟩
      have HI3 := Lib.hid (HI2.out w2 k2)
      have HO3 := Lib.hid (HO.out.keep k2 (by simp))
      have HK3 : Hid (Keep [] w w2) := HK.out.trans k2 (by simp)
      clear HCALL HI2 HO HK k2
      go_upto_region 5 with fail
      have HB : Hid (Blk (w2.alloc (.cells #[.int .i64 t.sym, .int .i64 t.x] 60)) w2.heap.size #[.int .i64 t.sym, .int .i64 t.x] 60) := Blk.new w2 _ _
      have HKA : Hid (Keep [] w2 (w2.alloc (.cells #[.int .i64 t.sym, .int .i64 t.x] 60))) := (Keep.refl [] w2).alloc _
      generalize w2.alloc (.cells #[.int .i64 t.sym, .int .i64 t.x] 60) = w3 at HB HKA ⊢
      generalize w2.heap.size = gs at HB ⊢
      have x0c := HB.out.cell 0 _ rfl
      have x1c := HB.out.cell 1 _ rfl
      have HI4 := Lib.hid (fun o => HI3.out.keep (HKA.out.alloc o) (by simp))
      have HO4 := Lib.hid (fun o => HO3.out.keep (HKA.out.alloc o) (by simp))
      have HK4 := Lib.hid (fun o => (HK3.out.trans HKA.out (by simp)).alloc o)
      have HL4 := Lib.hid (fun o (e : o = .cells #[.int .i64 t.sym, .int .i64 t.x] 60) => (show Gs EL17 (w3.alloc o) (.slice (some ⟨w3.heap.size, 0, none⟩) 1 1) [t] from by subst e; exact Gs.lit EL17_good [t] 1 (Blk.new w3 _ _) rfl rfl (by unfold maxLen; omega)))
      have HSZ : Hid (w.heap.size ≤ w3.heap.size) := (HK3.out.trans HKA.out (by simp)).size
      have HLA : Hid (∀ x, (Value.slice a m c).ownBlock = some x → x < w3.heap.size) := fun x hx => by
        obtain ⟨bb, oo, cc, hv, hc⟩ := (HI3.out.keep HKA.out (by simp)).at 0 (by have := HLM.out; omega)
        rw [hv] at hx
        simp [Value.ownBlock] at hx
        subst hx
        exact World.block_lt_of_cell? w3 _ hc
      clear HI3 HO3 HK3 HKA HB
      go_upto_region 6 with (at_builtin; (refine wpList_appendG EL17_good (.tmp 16) (.tmp 18) rfl rfl (.slice b ts.length d) ts rfl (HO4.out _) _ [t] rfl (HL4.out _ rfl) (by simp; omega) ?_); (intro v4 w4 ho4 hk4 hb4); (obtain ⟨b5, d5, hv5, -⟩ := ho4.gs.sh); (subst hv5))
      have hI5 := (HI4.out (.cells #[.int .i64 t.sym, .int .i64 t.x] 60)).keep hk4 (fun x hx hm => HNE.out x hx x (by simpa using hm) rfl)
      have HK5 := Lib.hid ((HK4.out (.cells #[.int .i64 t.sym, .int .i64 t.x] 60)).trans hk4 (fun x hx => .inr (HN.out x (by simpa using hx))))
      have HO5 := Lib.hid ho4
      have HB5 : Hid (∀ x, (Value.slice b5 (ts ++ [t]).length d5).ownBlock = some x → (Value.slice b ts.length d).ownBlock = some x ∨ w3.heap.size ≤ x) := fun x hx => by
        rcases hb4 x hx with h | h
        · exact .inl h
        · right; rw [h]; simp
      obtain ⟨bb, oo, cc, hvv, e9⟩ := hI5.at 0 (by have := HLM.out; omega)
      have hx0 := HX0.out
      rw [List.getElem?_eq_getElem (by have := HLM.out; omega)] at hx0
      rw [Option.some.inj hx0, Nat.add_zero] at e9
      have hle : (ts ++ [t]).length = ts.length + 1 := by simp
      have HLE := Lib.hid hle
      have hlm := HLM.out
      rw [← hlm] at hI5
      obtain ⟨v6, e6, i6, o6⟩ := hI5.from n (n : Int) rfl (by omega)
      rw [hlm] at e6 o6
      obtain ⟨a6, c6, hv6, -⟩ := i6.sh
      rw [HDL.out] at hv6
      subst hv6
      have HI6 := Lib.hid i6
      have HO6 := Lib.hid o6
      simp only [Value.slice.injEq] at hvv
      obtain ⟨rfl, hvv2, rfl⟩ := hvv
      clear hI5 hk4 ho4 hb4 HI4 HO4 HK4 HL4 i6 o6 hx0 hvv2 hlm hle
      go_wp2_with fail
      refine ⟨⟨L.drop n, a6, c6, ts ++ [t], b5, d5, x0, F, by rw [HDL.out], by rw [HLE.out], rfl, by rw [HDL.out]; exact HI6, HO5, ?_, by rw [HDL.out]; omega, by rw [HDL.out, HLE.out]; omega, HDZ, HK5, ?_, ?_⟩, ?_⟩
      · have := HRR.out
        show ts ++ [t] ++ few17 F (L.drop n) x0 = R
        rw [← this, List.append_assoc]; rfl
      · intro x hx
        rcases HB5.out x hx with h | h
        · exact HN.out x h
        · have := HSZ.out; omega
      · intro x hx y hy
        rw [HDL.out] at hx
        have h1 := HO6.out x hx
        rcases HB5.out y hy with h | h
        · exact HNE.out x h1 y h
        · have := HLA.out x h1; omega
      · show m - n < m; omega
    · have hm0 : m = 0 := by omega
      have hL : L = [] := List.eq_nil_of_length_eq_zero (by rw [hm, hm0])
      have hRR := HR.out
      have hf : few17 F L last = [] := by rw [hL]; cases F <;> simp [few17]
      rw [hf, List.append_nil] at hRR
      have HRR := Lib.hid hRR
      have b1 : decide ((m : Int) > 0) = false := by simp; omega
      rw [hm] at HI HNE ⊢
      clear hRR hf hL HR hlt
      go_wp2_with fail
      go_ret
      exact ⟨_, rfl, by rw [← HRR.out]; exact HO.out, HK.out, HN.out⟩
set_option maxHeartbeats 4000000 in
theorem thirdof_c (w : World) (v : Value) (ts : List Lt) (hl : ts.length ≤ 1000) (hts : ∀ t ∈ ts, t.sym < 19) (h : Gs EL17 w v ts) :
    Calls Tryz.prog 23 #[v] w fun e w' => ∃ v', e = .returned v' ∧ Is .i64 w' v' (limL (cnt17 ts) 7) ∧ Keep [] w w' ∧ ∀ b, v'.ownBlock = some b → w.heap.size ≤ b := by
  have HM : (Instr.makeSlice 22 (.int .i64 19) (.int .i64 19)).run Tryz.prog w = .ok (.slice (some ⟨w.heap.size, 0, none⟩) 19 19) (w.alloc (.cells (madeCells #[.int .i64 0] 19) 3)) := run_make_intsC w 19 19 (Nat.le_refl _) (by decide)
  have hO := OwnI.made w 19 (by decide)
  have hK := (Keep.refl [] w).alloc (.cells (madeCells #[.int .i64 0] 19) 3)
  have hcnt0 : List.replicate 19 (0 : Int) = cnt17 (ts.take 0) := by simp only [List.take_zero]; decide
  rw [hcnt0] at hO
  have HG := Lib.hid (fun w' (k : Keep [] w w') => h.keep EL17_good k (by simp))
  obtain ⟨a, cap, rfl, _⟩ := h.sh
  obtain ⟨g, hgz⟩ : ∃ g, w.heap.size = g := ⟨_, rfl⟩
  rw [hgz] at HM hO
  have HSZ : Hid (w.heap.size = g) := hgz
  obtain ⟨wd, hwd⟩ : ∃ wd, w.alloc (.cells (madeCells #[.int .i64 0] 19) 3) = wd := ⟨_, rfl⟩
  rw [hwd] at HM hO hK
  have HO := Lib.hid hO
  have HK := Lib.hid hK
  have hmay := may17 ts hl
  have HLI := Lib.hid (fun w' (hi : Is .i64 w' (.slice (some ⟨g, 0, none⟩) 19 19) (cnt17 ts)) => lim_own w' _ (cnt17 ts) 7 hi (by decide))
  have HMY := Lib.hid hmay
  have HTS := Lib.hid hts
  have hNS : ∀ k (hk : k < ts.length), (cnt17 (ts.take k)).set (ts[k]).sym (zn (cnt17 (ts.take k)) (ts[k]).sym + 1) = cnt17 (ts.take (k + 1)) := fun k hk => by
    refine List.ext_getElem (by rw [List.length_set, cnt17_len, cnt17_len]) (fun i h1 h2 => ?_)
    have hi : i < 19 := by rw [cnt17_len] at h2; exact h2
    have hs := hts _ (List.getElem_mem hk)
    have e1 : zn (cnt17 (ts.take (k + 1))) i = (((ts.take (k + 1)).countP fun t => t.sym == i : Nat) : Int) := cnt17_at _ _ hi
    have e4 : zn (cnt17 (ts.take k)) i = (((ts.take k).countP fun t => t.sym == i : Nat) : Int) := cnt17_at _ _ hi
    have e2 : zn (cnt17 (ts.take k)) (ts[k]).sym = (((ts.take k).countP fun t => t.sym == (ts[k]).sym : Nat) : Int) := cnt17_at _ _ hs
    have e3 : (ts.take (k + 1)).countP (fun t => t.sym == i) = (ts.take k).countP (fun t => t.sym == i) + if (ts[k]).sym == i then 1 else 0 := by
      rw [← List.take_append_getElem hk, List.countP_append, List.countP_cons, List.countP_nil]; simp
    rw [List.getElem_set, ← zn_get (cnt17 (ts.take (k + 1))) i h2, e1, e3]
    by_cases c : (ts[k]).sym = i
    · rw [if_pos c, e2, c]; simp
    · rw [if_neg c, ← zn_get (cnt17 (ts.take k)) i (by rw [cnt17_len]; exact hi), e4]; simp [c]
  have HNS := Lib.hid hNS
  have hle : ∀ k s, zn (cnt17 (ts.take k)) s ≤ 1000 ∧ 0 ≤ zn (cnt17 (ts.take k)) s := fun k s => by
    by_cases hs : s < 19
    · have e2 : zn (cnt17 (ts.take k)) s = (((ts.take k).countP fun t => t.sym == s : Nat) : Int) := cnt17_at _ _ hs
      have h1 : (ts.take k).countP (fun t => t.sym == s) ≤ (ts.take k).length := List.countP_le_length
      rw [List.length_take] at h1
      omega
    · have : zn (cnt17 (ts.take k)) s = 0 := zn_out _ _ (by rw [cnt17_len]; omega)
      omega
  have HLEc := Lib.hid hle
  clear hwd hO hK hgz h hcnt0 hmay hts hNS hle
  go_enter Tryz.func23, Tryz.ntmps23
  go_wp2_with fail
  clear HM
  go_loopw [11] (fun iv wr => ∃ k : Nat, k ≤ ts.length ∧ iv = .int .i64 k ∧ Hid (OwnI wr (.slice (some ⟨g, 0, none⟩) 19 19) (cnt17 (ts.take k))) ∧ Hid (Keep [] w wr)) (fun iv _ => ts.length - (intOf iv).toNat)
  case atStart => exact ⟨0, Nat.zero_le _, rfl, HO, HK⟩
  case round =>
    clear HO HK
    obtain ⟨k, hk, rfl, HO, HK⟩ := hrel
    by_cases hlt : k < ts.length
    · obtain ⟨b, off, cap', hv, hc⟩ := (HG.out wr HK.out).at EL17_good k hlt
      simp only [Value.slice.injEq] at hv
      obtain ⟨rfl, hvv, rfl⟩ := hv
      have c0 := hc 0 (by decide)
      have c1 := hc 1 (by decide)
      have hs := HTS.out _ (List.getElem_mem hlt)
      have hns := HNS.out k hlt
      obtain ⟨t, ht⟩ : ∃ t, ts[k] = t := ⟨_, rfl⟩
      rw [ht] at c0 c1 hs hns
      have HN1 := Lib.hid hns
      have hle := HLEc.out k t.sym
      have c0' : wr.cell? ⟨b, off + k * 2, none⟩ = some (.int .i64 t.sym) := c0
      have c1' : wr.cell? ⟨b, off + k * 2 + 1, none⟩ = some (.int .i64 t.x) := by rw [Nat.add_assoc]; exact c1
      clear c0 c1 hc hvv ht hns
      have hkz : (k : Int) < (ts.length : Int) := by omega
      go_upto_region 5 with fail
      have HB : Hid (Blk (wr.alloc (.cells #[.int .i64 t.sym, .int .i64 t.x] 60)) wr.heap.size #[.int .i64 t.sym, .int .i64 t.x] 60) := Blk.new wr _ _
      have HKA : Hid (Keep [] wr (wr.alloc (.cells #[.int .i64 t.sym, .int .i64 t.x] 60))) := (Keep.refl [] wr).alloc _
      generalize wr.alloc (.cells #[.int .i64 t.sym, .int .i64 t.x] 60) = w3 at HB HKA ⊢
      generalize wr.heap.size = gs at HB ⊢
      have x0c := HB.out.cell 0 _ rfl
      have HO3 := Lib.hid (HO.out.keep HKA.out (by simp))
      have HK3 : Hid (Keep [] w w3) := HK.out.trans HKA.out (by simp)
      have d0 := HO3.out.cell t.sym (by rw [cnt17_len]; exact hs)
      have d1 := HO3.out.free t.sym
      obtain ⟨y, hy⟩ : ∃ y, zn (cnt17 (ts.take k)) t.sym = y := ⟨_, rfl⟩
      have HN2 : Hid ((cnt17 (ts.take k)).set t.sym (y + 1) = cnt17 (ts.take (k + 1))) := by have := HN1.out; rw [hy] at this; exact this
      rw [hy] at d0 hle
      have hw1 : IntKind.i64.wrap (y + 1) = y + 1 := by rw [IntKind.wrap_i64]; omega
      have WF : Hid ((Lit.int .i64 (y + 1)).wf = true) := by unfold Hid; simp [Lit.wf, IntKind.min, IntKind.max, IntKind.bits, IntKind.signed]; omega
      have hsz : (t.sym : Int) < 19 := by omega
      have hHF : OwnI (w3.setCell ⟨g, t.sym, none⟩ (.int .i64 (y + 1))) (.slice (some ⟨g, 0, none⟩) 19 19) (cnt17 (ts.take (k + 1))) := by rw [← HN2.out]; exact HO3.out.store t.sym (y + 1) WF.out
      have HF := Lib.hid hHF
      have HKF : Hid (Keep [] w (w3.setCell ⟨g, t.sym, none⟩ (.int .i64 (y + 1)))) := HK3.out.setCell (.inr (by have := HSZ.out; show w.heap.size ≤ g; omega)) _
      clear hy HN1 HO HK HB HKA hHF
      go_wp2_with fail
      go_roundw
      case rel => exact ⟨k + 1, hlt, by go_num, HF, HKF⟩
      case measure => simp [intOf]; omega
    · obtain rfl : k = ts.length := by omega
      rw [List.take_length] at HO
      have hli := HLI.out wr HO.out.is
      have HLI2 := Lib.hid hli
      clear hli HLI
      go_wp2_with fail
      refine HLI2.out.mono ?_; rintro e w2 ⟨v2, ls, er, rfl, hI, k2, -, hb, hown⟩
      obtain ⟨rfl, -, hp⟩ := hb HMY.out
      have e := hp.is (by rw [cnt17_len]; decide)
      have HI2 := Lib.hid hI
      have HK2 : Hid (Keep [] w w2) := HK.out.trans k2 (by simp)
      have HOW : Hid (∀ b, v2.ownBlock = some b → w.heap.size ≤ b) := fun b hb => Nat.le_trans HK.out.size (hown b hb)
      have HE := Lib.hid e
      clear hI k2 hb hown hp e HLI2
      go_wp2_with fail
      go_ret
      refine ⟨v2, rfl, ?_, HK2.out, HOW.out⟩
      have he := HE.out
      rw [show ((7 : Int).toNat) = 7 from rfl] at he
      rw [← he]; exact HI2.out
theorem count_c (w : World) (v : Value) (T : List Int) (hT : T.length = 19) (hn : 0 < thN T 19) (h : Is .i64 w v T) (hg : G17 w) : Calls Tryz.prog 25 #[v] w fun e w' => e = .returned (.int .i64 (thN T 19)) ∧ ∃ m, w' = w.drewN m := by
  have HI := Lib.hid (fun i hi => h.at i hi)
  have HG := Lib.hid hg
  obtain ⟨a, cap, rfl, _⟩ := h.sh
  obtain ⟨R, hR⟩ : ∃ R, thN T 19 = R := ⟨_, rfl⟩
  rw [hR] at hn ⊢
  have HR := Lib.hid hR
  have HN := Lib.hid hn
  clear h hg hR hn
  go_enter Tryz.func25, Tryz.ntmps25
  go_wp2_with fail
  go_loopw [3] (fun nv wr => ∃ k : Nat, nv = .int .i64 k ∧ k ≤ 19 ∧ Hid (thN T k = R) ∧ ∃ n, wr = w.drewN n) (fun nv _ => (intOf nv).toNat)
  case atStart => exact ⟨19, rfl, by omega, HR, 0, rfl⟩
  case round =>
    obtain ⟨k, rfl, hk, HRk, n, rfl⟩ := hrel
    cases k with
    | zero =>
      exfalso
      have := HRk.out
      have h2 := HN.out
      rw [thN] at this
      omega
    | succ k =>
      have hk19 : k < 19 := by omega
      have o1 := HG.out.order k hk19
      obtain ⟨y, hy⟩ : ∃ y, ordD.getD k 0 = y := ⟨_, rfl⟩
      have hy19 : y < 19 := by rw [← hy]; exact (ordI_at ⟨k, hk19⟩).2
      have hRR := HRk.out
      rw [thN, hy] at hRR
      rw [hy] at o1
      obtain ⟨b, off, cap', hv, e1⟩ := HI.out y (by omega)
      simp only [Value.slice.injEq] at hv
      obtain ⟨rfl, hvv, rfl⟩ := hv
      have hgd : T.getD y 0 = T[y]'(by omega) := by rw [List.getD_eq_getElem?_getD, List.getElem?_eq_getElem (by omega)]; rfl
      rw [hgd] at hRR
      obtain ⟨z, hz⟩ : ∃ z, T[y]'(by omega) = z := ⟨_, rfl⟩
      rw [hz] at e1 hRR
      have hw1 : IntKind.i64.wrap (((k + 1 : Nat) : Int) - 1) = (k : Int) := by rw [IntKind.wrap_i64]; omega
      have hw1' : IntKind.i64.wrap ((k : Int) + 1 - 1) = (k : Int) := by rw [IntKind.wrap_i64]; omega
      have hyz : (y : Int) < (T.length : Int) := by omega
      have hkz : (k : Int) < 19 := by omega
      have HRR := Lib.hid hRR
      clear hy hvv hgd hz hRR HRk
      rw [hT] at *
      by_cases hz0 : z = 0
      · have t2 : (z == 0) = true := by simpa using hz0
        have HR2 : Hid (thN T k = R) := by have := HRR.out; rw [if_pos hz0] at this; exact this
        clear hz0 HRR
        go_wp2_with fail
        go_roundw
        case rel => exact ⟨k, rfl, by omega, HR2, _, rfl⟩
        case measure => simp [intOf]
      · have t2 : (z == 0) = false := by simpa using hz0
        have HR2 : Hid (k + 1 = R) := by have := HRR.out; rw [if_neg hz0] at this; exact this
        clear hz0 HRR
        go_wp2_with fail
        go_ret
        exact ⟨by rw [← HR2.out]; rfl, _, rfl⟩
end Go.Proofs.YtibkepjbblfkoaaGreatDoor
