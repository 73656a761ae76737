/- The document's own answer of layer 8: Runs. -/
import Derived.Test.YtkjikcdobnegaaaRefTok
namespace Go.Proofs.Ytkjikcdobnegaaa
set_option linter.unusedVariables false
set_option linter.unusedSimpArgs false
open Go.ChangeShapes Go.WideShapes Go.ChangeAt Go.RowKit

theorem wf0 : (Lit.int .i64 0).wf = true := by decide
theorem wf1 : (Lit.int .i64 1).wf = true := by decide
def lastT (ts : List Tk) : Tk := ts.getLast?.getD default
theorem lastT_get (ts : List Tk) (h : 0 < ts.length) : ts[ts.length - 1] = lastT ts := by
  unfold lastT
  rw [List.getLast?_eq_getElem?, List.getElem?_eq_getElem (by omega)]; rfl
def rnew (b : List UInt8) (k : Nat) : Prop := k = 0 ∨ b.getD k 0 ≠ b.getD (k - 1) 0
theorem rn_new (b : List UInt8) (k : Nat) (h : rnew b k) : rn b (k + 1) = rn b k ++ [⟨b.getD k 0, 0, 0⟩] := by rw [rn]; exact if_pos h
theorem rn_one (b : List UInt8) (k : Nat) (h : ¬ rnew b k) (h2 : (lastT (rn b k)).len = 0 ∨ (lastT (rn b k)).len = 258) : rn b (k + 1) = rn b k ++ [⟨0, 1, 1⟩] := by rw [rn]; exact (if_neg h).trans (if_pos h2)
theorem rn_more (b : List UInt8) (k : Nat) (h : ¬ rnew b k) (h2 : ¬ ((lastT (rn b k)).len = 0 ∨ (lastT (rn b k)).len = 258)) (h0 : 0 < (rn b k).length) : rn b (k + 1) = (rn b k).set ((rn b k).length - 1) { (rn b k)[(rn b k).length - 1] with len := (lastT (rn b k)).len + 1 } := by
  rw [lastT_get _ h0, rn]; exact (if_neg h).trans (if_neg h2)
theorem rn_pos (b : List UInt8) (k : Nat) (hk : k ≤ b.length) (h : 0 < k) : 0 < (rn b k).length := by
  rcases (rn_all b k hk).last with h1 | ⟨l, t, h1, _⟩
  · omega
  · rw [h1]; simp
theorem rn_lastlen (b : List UInt8) (k : Nat) (hk : k ≤ b.length) (h : 0 < k) : 0 ≤ (lastT (rn b k)).len ∧ (lastT (rn b k)).len ≤ 258 := by
  rcases (rn_all b k hk).last with h1 | ⟨l, t, h1, h2⟩
  · omega
  · have : lastT (rn b k) = t := by unfold lastT; rw [h1]; simp
    rw [this]; omega
set_option maxRecDepth 100000 in
set_option maxHeartbeats 4000000 in
theorem refruns8_c (w : World) (v : Value) (b : List UInt8) (hbl : b.length ≤ 100000) (h : Bs w v b) : Calls Try.prog 9 #[v] w fun e w' => ∃ v', e = .returned v' ∧ OwnT w' v' (runs b) ∧ Keep [] w w' ∧ ∀ x, v'.ownBlock = some x → w.heap.size ≤ x := by
  have HI := Lib.hid (fun w' (k : Keep [] w w') => (h.keep k (by simp)).cases)
  obtain ⟨a, cap, rfl, hl1, hl2⟩ := h.shape
  clear h
  go_enter Try.func9, Try.ntmps9
  go_wp2_with fail
  go_loopw [3, 4] (fun ov i wr => ∃ (k : Nat) (a7 : Option Addr) (c7 : Nat), k ≤ b.length ∧ i = .int .i64 k ∧ ov = .slice a7 (rn b k).length c7 ∧ Hid (OwnT wr (.slice a7 (rn b k).length c7) (rn b k)) ∧ Hid (Keep [] w wr) ∧ Hid (∀ x, (Value.slice a7 (rn b k).length c7).ownBlock = some x → w.heap.size ≤ x)) (fun _ i _ => b.length - (intOf i).toNat)
  case atStart => exact ⟨0, none, 0, by omega, rfl, rfl, OwnT.nil w, Keep.refl _ _, fun x hx => by simp [Value.ownBlock] at hx⟩
  case round =>
    obtain ⟨k, a7, c7, hk, rfl, rfl, HO, HK, HB⟩ := hrel
    by_cases hlt : k < b.length
    · have z1 : (k : Int) < (b.length : Int) := by omega
      have HCL : Hid (∀ w', Keep [] w w' → ∃ g off, a = some ⟨g, off, none⟩ ∧ ∀ i (hi : i < b.length), w'.cell? ⟨g, off + i, none⟩ = some (.int .u8 (b[i].toNat))) := fun w' k' => by
        rcases HI.out w' k' with ⟨h1, _⟩ | ⟨_, g, off, c2, hv, _, _, _, hc⟩
        · rw [h1] at hlt; simp at hlt
        · simp only [Value.slice.injEq] at hv
          exact ⟨g, off, hv.1, hc⟩
      have hlr := (rn_all b k (by omega)).len
      go_upto_region 5 with fail
      go_cut [25] (fun c wx => ∃ bb : Bool, c = .bool bb ∧ Hid (bb = true ↔ rnew b k) ∧ Hid (OwnT wx (.slice a7 (rn b k).length c7) (rn b k)) ∧ Hid (Keep [] w wx))
      case first =>
        by_cases h0 : k = 0
        · have HT : Hid (rnew b k) := .inl h0
          have hb1 : ((k : Int) == 0) = true := by rw [beq_iff_eq]; omega
          clear h0
          go_wp2_with fail
          go_quiet (fail)
          have HO2 : Hid (OwnT (wr.drewN nq) (.slice a7 (rn b k).length c7) (rn b k)) := HO.out.keep ((Keep.refl [] wr).drewN nq) (by simp)
          have HK2 : Hid (Keep [] w (wr.drewN nq)) := HK.out.drewN nq
          go_wp2_with fail
          go_meet
          exact ⟨true, rfl, (show _ ↔ _ from ⟨fun _ => HT.out, fun _ => rfl⟩), HO2, HK2⟩
        · have hb1 : ((k : Int) == 0) = false := by rw [beq_eq_false_iff_ne]; omega
          obtain ⟨kp, hkp⟩ : ∃ x, x = k - 1 := ⟨_, rfl⟩
          have hw1 : IntKind.i64.wrap ((k : Int) - 1) = (kp : Int) := by rw [IntKind.wrap_i64]; omega
          have hkl : kp < b.length := by omega
          have hkz : (kp : Int) < (b.length : Int) := by omega
          obtain ⟨g, off, rfl, hc⟩ := HCL.out wr HK.out
          have e1 := hc k hlt
          have e2 := hc kp hkl
          have g1 : b.getD k 0 = b[k] := by simp [hlt]
          have g2 : b.getD (k - 1) 0 = b[kp] := by rw [← hkp]; simp [hkl]
          by_cases hne : b[k] = b[kp]
          · have HT : Hid (¬ rnew b k) := fun h => by
              rcases h with h | h
              · exact h0 h
              · rw [g1, g2] at h; exact h hne
            have hd : ((b[k].toNat : Int) != (b[kp].toNat : Int)) = false := by rw [hne]; simp
            generalize (b[k]).toNat = x at e1 hd
            generalize (b[kp]).toNat = y at e2 hd
            clear hc g1 g2 hne h0 hkp
            go_wp2_with fail
            go_quiet (fail)
            have HO2 : Hid (OwnT (wr.drewN nq) (.slice a7 (rn b k).length c7) (rn b k)) := HO.out.keep ((Keep.refl [] wr).drewN nq) (by simp)
            have HK2 : Hid (Keep [] w (wr.drewN nq)) := HK.out.drewN nq
            go_wp2_with fail
            go_meet
            exact ⟨false, rfl, (show _ ↔ _ from ⟨fun h => (by cases h), fun h => absurd h HT.out⟩), HO2, HK2⟩
          · have HT : Hid (rnew b k) := .inr (by rw [g1, g2]; exact hne)
            have hd : ((b[k].toNat : Int) != (b[kp].toNat : Int)) = true := by
              rw [bne_iff_ne]; intro e; exact hne (UInt8.toNat_inj.1 (by omega))
            generalize (b[k]).toNat = x at e1 hd
            generalize (b[kp]).toNat = y at e2 hd
            clear hc g1 g2 hne h0 hkp
            go_wp2_with fail
            go_quiet (fail)
            have HO2 : Hid (OwnT (wr.drewN nq) (.slice a7 (rn b k).length c7) (rn b k)) := HO.out.keep ((Keep.refl [] wr).drewN nq) (by simp)
            have HK2 : Hid (Keep [] w (wr.drewN nq)) := HK.out.drewN nq
            go_wp2_with fail
            go_meet
            exact ⟨true, rfl, (show _ ↔ _ from ⟨fun _ => HT.out, fun _ => rfl⟩), HO2, HK2⟩
      case rest =>
        clear HO HK
        obtain ⟨bb, rfl, HBB, HO, HK⟩ := hcut
        cases bb with
        | true =>
          have HT : Hid (rnew b k) := HBB.out.1 rfl
          obtain ⟨g, off, rfl, hc⟩ := HCL.out wc HK.out
          have e1 := hc k hlt
          have g1 : b[k] = b.getD k 0 := by simp [hlt]
          rw [g1] at e1
          have HR := Lib.hid (rn_new b k HT.out)
          generalize b.getD k 0 = x at e1 HR
          have hS : Blk (wc.alloc (.cells (Tk.cells ⟨x, 0, 0⟩).toArray 39)) wc.heap.size (Tk.cells ⟨x, 0, 0⟩).toArray 39 := Blk.new _ _ _
          have HSS := Lib.hid hS
          clear hc g1 hS HBB HT
          go_wp2_with (at_builtin; (refine wpList_appendT (.tmp 26) (.tmp 32) rfl rfl (.slice a7 (rn b k).length c7) (rn b k) rfl (HO.out.keep ((Keep.refl [] wc).alloc _) (by simp)) wc.heap.size ⟨x, 0, 0⟩ rfl HSS.out ⟨wf0, wf0⟩ (by omega) ?_); (intro v8 w8 o8 k8 b8 z8); (obtain ⟨g8, c8, hv8⟩ := o8.blk z8); (subst hv8))
          have HL8 : Hid ((rn b k).length + 1 = (rn b (k + 1)).length) := by unfold Hid; rw [HR.out, List.length_append]; rfl
          have HO8 : Hid (OwnT w8 (.slice (some ⟨g8, 0, none⟩) (rn b (k + 1)).length c8) (rn b (k + 1))) := by unfold Hid; rw [HR.out]; exact o8
          have HK8 : Hid (Keep [] w w8) := (HK.out.alloc _).trans k8 (fun y hy => .inr (HB.out y (by simpa using hy)))
          have HB8 : Hid (∀ y, (Value.slice (some ⟨g8, 0, none⟩) (rn b (k + 1)).length c8).ownBlock = some y → w.heap.size ≤ y) := fun y hy => by
            rcases b8 y hy with h | h
            · exact HB.out y h
            · have := HK.out.size; rw [h]; simp; omega
          clear o8 k8 b8 z8 HO HK HB HSS HR e1
          go_wp2_with fail
          go_roundw
          case rel => exact ⟨k + 1, _, _, by omega, by go_num, by rw [HL8.out], HO8, HK8, HB8⟩
          case measure => simp [intOf]; omega
        | false =>
          have HT : Hid (¬ rnew b k) := fun h => by have := HBB.out.2 h; cases this
          have hk0 : 0 < k := by
            rcases Nat.eq_zero_or_pos k with h | h
            · exact absurd (.inl h) HT.out
            · exact h
          have hn0 := rn_pos b k (by omega) hk0
          obtain ⟨q1, q2⟩ := rn_lastlen b k (by omega) hk0
          obtain ⟨m, hm⟩ : ∃ x, x = (rn b k).length - 1 := ⟨_, rfl⟩
          have hw1 : IntKind.i64.wrap (((rn b k).length : Int) - 1) = (m : Int) := by rw [IntKind.wrap_i64]; omega
          have hml : m < (rn b k).length := by omega
          have hmz : (m : Int) < ((rn b k).length : Int) := by omega
          have hO := HO.out
          obtain ⟨g, c9, hv⟩ := hO.blk (by
            intro e
            simp only [Value.slice.injEq] at e
            omega)
          simp only [Value.slice.injEq] at hv
          obtain ⟨rfl, h2, h3⟩ := hv
          clear h2 h3
          obtain ⟨g', off', cap', hv, d1, d2, d3⟩ := hO.ts.at m hml
          simp only [Value.slice.injEq, Option.some.injEq, Addr.mk.injEq] at hv
          obtain ⟨⟨rfl, rfl, _⟩, _, rfl⟩ := hv
          have hlt2 : (rn b k)[m] = lastT (rn b k) := by
            have := lastT_get (rn b k) hn0
            simp only [← hm] at this
            exact this
          rw [hlt2, Nat.zero_add] at d3
          have f3 := hO.free (m * 3 + 2)
          by_cases hq : (lastT (rn b k)).len = 0
          · rw [hq] at d3
            have HR := Lib.hid (rn_one b k HT.out (.inl hq))
            have hS : Blk (wc.alloc (.cells (Tk.cells ⟨0, 1, 1⟩).toArray 39)) wc.heap.size (Tk.cells ⟨0, 1, 1⟩).toArray 39 := Blk.new _ _ _
            have HSS := Lib.hid hS
            clear hq q1 q2
            clear hS HBB HT hlt2 d1 d2 f3 hO hm
            go_wp2_with (at_builtin; (refine wpList_appendT (.tmp 51) (.tmp 53) rfl rfl (.slice (some ⟨g, 0, none⟩) (rn b k).length c7) (rn b k) rfl (HO.out.keep ((Keep.refl [] wc).alloc _) (by simp)) wc.heap.size ⟨0, 1, 1⟩ rfl HSS.out ⟨wf1, wf1⟩ (by omega) ?_); (intro v8 w8 o8 k8 b8 z8); (obtain ⟨g8, c8, hv8⟩ := o8.blk z8); (subst hv8))
            have HL8 : Hid ((rn b k).length + 1 = (rn b (k + 1)).length) := by unfold Hid; rw [HR.out, List.length_append]; rfl
            have HO8 : Hid (OwnT w8 (.slice (some ⟨g8, 0, none⟩) (rn b (k + 1)).length c8) (rn b (k + 1))) := by unfold Hid; rw [HR.out]; exact o8
            have HK8 : Hid (Keep [] w w8) := (HK.out.alloc _).trans k8 (fun y hy => .inr (HB.out y (by simpa using hy)))
            have HB8 : Hid (∀ y, (Value.slice (some ⟨g8, 0, none⟩) (rn b (k + 1)).length c8).ownBlock = some y → w.heap.size ≤ y) := fun y hy => by
              rcases b8 y hy with h | h
              · exact HB.out y h
              · have := HK.out.size; rw [h]; simp; omega
            clear o8 k8 b8 z8 HO HK HB HSS HR
            go_wp2_with fail
            go_roundw
            case rel => exact ⟨k + 1, _, _, by omega, by go_num, by rw [HL8.out], HO8, HK8, HB8⟩
            case measure => simp [intOf]; omega
          · by_cases hq2 : (lastT (rn b k)).len = 258
            · rw [hq2] at d3
              have HR := Lib.hid (rn_one b k HT.out (.inr hq2))
              have hS : Blk (wc.alloc (.cells (Tk.cells ⟨0, 1, 1⟩).toArray 39)) wc.heap.size (Tk.cells ⟨0, 1, 1⟩).toArray 39 := Blk.new _ _ _
              have HSS := Lib.hid hS
              clear hq hq2 q1 q2
              clear hS HBB HT hlt2 d1 d2 f3 hO hm
              go_wp2_with (at_builtin; (refine wpList_appendT (.tmp 51) (.tmp 53) rfl rfl (.slice (some ⟨g, 0, none⟩) (rn b k).length c7) (rn b k) rfl (HO.out.keep ((Keep.refl [] wc).alloc _) (by simp)) wc.heap.size ⟨0, 1, 1⟩ rfl HSS.out ⟨wf1, wf1⟩ (by omega) ?_); (intro v8 w8 o8 k8 b8 z8); (obtain ⟨g8, c8, hv8⟩ := o8.blk z8); (subst hv8))
              have HL8 : Hid ((rn b k).length + 1 = (rn b (k + 1)).length) := by unfold Hid; rw [HR.out, List.length_append]; rfl
              have HO8 : Hid (OwnT w8 (.slice (some ⟨g8, 0, none⟩) (rn b (k + 1)).length c8) (rn b (k + 1))) := by unfold Hid; rw [HR.out]; exact o8
              have HK8 : Hid (Keep [] w w8) := (HK.out.alloc _).trans k8 (fun y hy => .inr (HB.out y (by simpa using hy)))
              have HB8 : Hid (∀ y, (Value.slice (some ⟨g8, 0, none⟩) (rn b (k + 1)).length c8).ownBlock = some y → w.heap.size ≤ y) := fun y hy => by
                rcases b8 y hy with h | h
                · exact HB.out y h
                · have := HK.out.size; rw [h]; simp; omega
              clear o8 k8 b8 z8 HO HK HB HSS HR
              go_wp2_with fail
              go_roundw
              case rel => exact ⟨k + 1, _, _, by omega, by go_num, by rw [HL8.out], HO8, HK8, HB8⟩
              case measure => simp [intOf]; omega
            · have hb1 : ((lastT (rn b k)).len == 0) = false := by rw [beq_eq_false_iff_ne]; exact hq
              have hb2 : ((lastT (rn b k)).len == 258) = false := by rw [beq_eq_false_iff_ne]; exact hq2
              have hw2 : IntKind.i64.wrap ((lastT (rn b k)).len + 1) = (lastT (rn b k)).len + 1 := by rw [IntKind.wrap_i64]; omega
              have HR := Lib.hid (rn_more b k HT.out (fun h => h.elim hq hq2) hn0)
              have hO8 := hO.setLen m hml ((lastT (rn b k)).len + 1) (by simp [Lit.wf, IntKind.min, IntKind.max, IntKind.bits, IntKind.signed]; omega)
              have HL8 : Hid ((rn b k).length = (rn b (k + 1)).length) := by unfold Hid; rw [HR.out, List.length_set]
              have HO8 : Hid (OwnT (wc.setCell ⟨g, m * 3 + 2, none⟩ (.int .i64 ((lastT (rn b k)).len + 1))) (.slice (some ⟨g, 0, none⟩) (rn b (k + 1)).length c7) (rn b (k + 1))) := by
                unfold Hid
                rw [← HL8.out, HR.out]
                simp only [← hm]
                exact hO8
              have HK8 : Hid (Keep [] w (wc.setCell ⟨g, m * 3 + 2, none⟩ (.int .i64 ((lastT (rn b k)).len + 1)))) := HK.out.setCell (.inr (HB.out g rfl)) _
              have HB8 : Hid (∀ y, (Value.slice (some ⟨g, 0, none⟩) (rn b (k + 1)).length c7).ownBlock = some y → w.heap.size ≤ y) := fun y hy => HB.out y hy
              generalize (lastT (rn b k)).len = q at *
              clear HBB HT hlt2 d1 d2 hO hO8 HR hm hq hq2
              go_wp2_with fail
              go_roundw
              case rel => exact ⟨k + 1, _, _, by omega, by go_num, by rw [← HL8.out], HO8, HK8, HB8⟩
              case measure => simp [intOf]; omega
    · obtain rfl : k = b.length := by omega
      go_wp2_with fail
      go_ret
      exact ⟨_, rfl, HO.out, HK.out, HB.out⟩
end Go.Proofs.Ytkjikcdobnegaaa
