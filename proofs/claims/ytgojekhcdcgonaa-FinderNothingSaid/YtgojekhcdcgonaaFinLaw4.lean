/- The walk of the law FinderNothing: it returns true at every input. -/
import Derived.Test.YtgojekhcdcgonaaFinLaw3
import Derived.Test.YtgojekhcdcgonaaCutB
namespace Go.Proofs.Ytgojekhcdcgonaa
set_option linter.unusedVariables false
set_option linter.unusedSimpArgs false
open Go.ChangeShapes Go.WideShapes Go.ChangeAt Go.RowKit

/-- the same m bytes stand at k and at i -/
def eqAt (b : List UInt8) (m k i : Nat) : Prop := (b.drop i).take m = (b.drop k).take m
instance (b : List UInt8) (m k i : Nat) : Decidable (eqAt b m k i) := by unfold eqAt; infer_instance
theorem eqAt_of (b : List UInt8) (m k i : Nat) (hi : i + m ≤ b.length) (hk : k + m ≤ b.length) (h : ∀ j, j < m → b.getD (k + j) 0 = b.getD (i + j) 0) : eqAt b m k i := by
  unfold eqAt
  refine List.ext_getElem (by simp; omega) (fun j h1 h2 => ?_)
  simp only [List.length_take, List.length_drop] at h1 h2
  have := h j (by omega)
  simp only [List.getElem_take, List.getElem_drop]
  rw [List.getD_eq_getElem?_getD, List.getD_eq_getElem?_getD, List.getElem?_eq_getElem (by omega), List.getElem?_eq_getElem (by omega)] at this
  simpa using this.symm
/-- no piece of m bytes comes twice within win, up to place i and there up to k -/
def noTw (b : List UInt8) (win : Int) (m : Nat) (i k : Nat) : Prop := (∀ i' k', i' < i → k' < i' → i' + m ≤ b.length → (i' : Int) - k' ≤ win → ¬ eqAt b m k' i') ∧ ∀ k', k' < k → (i : Int) - k' ≤ win → ¬ eqAt b m k' i
theorem noTw.tw {b : List UInt8} {s : Sh} {i : Nat} (h : noTw b s.win s.min.toNat i 0) (hi : b.length < i + s.min.toNat) : ¬ tw b s := by
  rintro ⟨i', k', h1, h2, h3, h4⟩
  exact h.1 i' k' (by omega) h2 h1 h3 (eqAt_of b _ k' i' h1 (by omega) h4)
set_option maxRecDepth 100000 in
set_option maxHeartbeats 4000000 in
theorem finnothing_w (W : World) (v0 : Value) (l0 : List UInt8) (h0 : Bs W v0 l0) (sv : Value) (s : Sh) (hs0 : sv = s.val) : Calls Try.prog 6 #[v0, sv] W fun e w' => e = .returned (.bool true) ∧ Keep [] W w' := by
  subst hs0
  have hlen : (l0.take 200).length ≤ 200 := by rw [List.length_take]; omega
  have hok := inS_ok s
  obtain ⟨win, mn, mx, ch, lz⟩ := s
  obtain ⟨s', hs'⟩ : ∃ x, inS ⟨win, mn, mx, ch, lz⟩ = x := ⟨_, rfl⟩
  rw [hs'] at hok
  have HWI := Lib.hid (fun w => within9_v w win mn mx ch lz s' hs')
  have HOK := Lib.hid hok
  have hB := Blk.new W #[.int .i64 win, .int .i64 mn, .int .i64 mx, .int .i64 ch, .bool lz] 24
  have k0 : Keep [] W (W.alloc (.cells #[.int .i64 win, .int .i64 mn, .int .i64 mx, .int .i64 ch, .bool lz] 24)) := (Keep.refl [] W).alloc _
  obtain ⟨va, ha, hao, HCU0⟩ := cut_val W v0 l0 200 (by omega) h0
  have HCU := Lib.hid HCU0
  clear HCU0
  show Calls Try.prog 6 #[v0, .agg #[.int .i64 win, .int .i64 mn, .int .i64 mx, .int .i64 ch, .bool lz]] W _
  have HFI : Hid (∀ w v, Bs w v (l0.take 200) → Calls Try.prog 9 #[v, .agg #[.int .i64 s'.win, .int .i64 s'.min, .int .i64 s'.max, .int .i64 s'.chain, .bool s'.lazy]] w fun e w' => ∃ v', e = .returned (.tuple #[v', .int .i64 0]) ∧ Ts w' v' (found (l0.take 200) s') ∧ Keep [] w w') := fun w v h => fin_find w v (l0.take 200) s' hok h (by omega)
  have HFN : Hid (¬ tw (l0.take 200) s' ∨ s'.chain = 0 → found (l0.take 200) s' = (l0.take 200).map fun c => ⟨c, 0, 0⟩) := fun h => found_none hok h
  have HTW : Hid (∀ i, noTw (l0.take 200) s'.win s'.min.toNat i 0 → (l0.take 200).length < i + s'.min.toNat → ¬ tw (l0.take 200) s') := fun i h1 h2 => h1.tw h2
  have HLV := Lib.hid lives9_c
  clear hok hs' h0 hao
  generalize l0.take 200 = b at *
  generalize found b s' = ts at *
  have HA := Lib.hid (fun w' (k : Keep [] W w') => ha.keep k (by simp))
  obtain ⟨a, cap, rfl, _⟩ := ha.shape
  go_enter Try.func6, Try.ntmps6
  go_wp2_with fail
  obtain ⟨w1, hw1⟩ : ∃ x, W.alloc (.cells #[.int .i64 win, .int .i64 mn, .int .i64 mx, .int .i64 ch, .bool lz] 24) = x := ⟨_, rfl⟩
  rw [hw1] at hB k0 ⊢
  obtain ⟨q, hq⟩ : ∃ x, W.heap.size = x := ⟨_, rfl⟩
  have HQ := Lib.hid hq
  rw [hq] at hB ⊢
  clear hw1 hq
  have g0 : ∀ p : Kept w1, p.x.cell? ⟨q, 0, none⟩ = some (.int .i64 win) := fun p => p.h.cell (hB.cell 0 _ rfl) (by simp)
  have g1 : ∀ p : Kept w1, p.x.cell? ⟨q, 1, none⟩ = some (.int .i64 mn) := fun p => p.h.cell (hB.cell 1 _ rfl) (by simp)
  have g2 : ∀ p : Kept w1, p.x.cell? ⟨q, 2, none⟩ = some (.int .i64 mx) := fun p => p.h.cell (hB.cell 2 _ rfl) (by simp)
  have g3 : ∀ p : Kept w1, p.x.cell? ⟨q, 3, none⟩ = some (.int .i64 ch) := fun p => p.h.cell (hB.cell 3 _ rfl) (by simp)
  have g4 : ∀ p : Kept w1, p.x.cell? ⟨q, 4, none⟩ = some (.bool lz) := fun p => p.h.cell (hB.cell 4 _ rfl) (by simp)
  refine wp_region_kept_tail 5 (by kernel_rfl) (by kernel_rfl) ?_
  simp only [List.take_succ_cons, List.take_zero, List.drop_succ_cons, List.drop_zero]
  repeat (quiet_step (first
    | (go_at_call 7; with_reducible exact kept_of (kept_same (HCU.out _)))
    | (go_at_call 16; with_reducible exact kept_of (HWI.out _))))
  refine wpQuiet_nil ?_
  rintro _ ⟨⟨w2, k2⟩, rfl⟩
  rename_i w2
  have hB2 := hB.keep k2 (by simp)
  have K2 := k0.trans k2 (by simp)
  clear g0 g1 g2 g3 g4 hB k0 k2 ha
  have c0 := hB2.cell 0 _ rfl
  have c1 := hB2.cell 1 _ rfl
  have c2 := hB2.cell 2 _ rfl
  have c3 := hB2.cell 3 _ rfl
  have c4 := hB2.cell 4 _ rfl
  have f0 := hB2.free 0
  have f1 := hB2.free 1
  have f2 := hB2.free 2
  have f3 := hB2.free 3
  have f4 := hB2.free 4
  obtain ⟨M, hM⟩ : ∃ M : Nat, s'.min = (M : Int) := ⟨s'.min.toNat, by have := HOK.out; unfold Sh.ok at this; omega⟩
  have hMb : 2 ≤ M ∧ M ≤ 3 := by have := HOK.out; unfold Sh.ok at this; omega
  have hB3 := hB2.box5 (.int .i64 s'.win) (.int .i64 M) (.int .i64 s'.max) (.int .i64 s'.chain) (.bool s'.lazy)
  have K3 := K2.box5 q (.inr (by have := HQ.out; omega)) (.int .i64 s'.win) (.int .i64 M) (.int .i64 s'.max) (.int .i64 s'.chain) (.bool s'.lazy)
  have HK3 := Lib.hid K3
  rw [hM] at HFI HTW
  rw [Int.toNat_natCast] at HTW
  have HM := Lib.hid hM
  obtain ⟨win', hwin⟩ : ∃ x, s'.win = x := ⟨_, rfl⟩
  have hwb : 1 ≤ win' ∧ win' ≤ 65536 := by have := HOK.out; unfold Sh.ok at this; omega
  rw [hwin] at HFI HTW hB3 HK3
  clear K2 K3 HCU HWI hB2
  generalize hch : s'.chain = ch' at *
  rw [hM, hwin]
  clear hM hwin
  go_wp2_with fail
  obtain ⟨w3, hw3⟩ : ∃ x, (((((w2.setCell ⟨q, 0, none⟩ (.int .i64 win')).setCell ⟨q, 1, none⟩ (.int .i64 M)).setCell ⟨q, 2, none⟩ (.int .i64 s'.max)).setCell ⟨q, 3, none⟩ (.int .i64 ch')).setCell ⟨q, 4, none⟩ (.bool s'.lazy)) = x := ⟨_, rfl⟩
  rw [hw3] at hB3 HK3 ⊢
  have HB3 := Lib.hid hB3
  clear hw3 c0 c1 c2 c3 c4 f0 f1 f2 f3 f4 hB3
  have hT0 : Hid (false = false → noTw b win' M 0 0) := fun _ => ⟨fun i' k' h => by omega, fun k' h => by omega⟩
  go_loopw [5, 6] (fun tv iv wr => ∃ (i : Nat) (t : Bool), i ≤ b.length ∧ tv = .bool t ∧ iv = .int .i64 i ∧ Hid (t = false → noTw b win' M i 0) ∧ Hid (Blk wr q #[.int .i64 win', .int .i64 M, .int .i64 s'.max, .int .i64 ch', .bool s'.lazy] 24) ∧ Hid (Keep [] W wr)) (fun _ iv _ => b.length + 1 - (intOf iv).toNat)
  case atStart => exact ⟨0, false, by omega, rfl, rfl, hT0, HB3, HK3⟩
  case round =>
    clear HB3 HK3 hT0
    obtain ⟨i, t, hi, rfl, rfl, HT, HB, HK⟩ := hrel
    have c1 := HB.out.cell 1 _ rfl
    by_cases hlt : i + M ≤ b.length
    · have hltz : (i : Int) + M ≤ b.length := by omega
      go_wp2_with fail
      go_loopw [5, 7] (fun tv kv wr => ∃ (k : Nat) (t : Bool), k ≤ i ∧ tv = .bool t ∧ kv = .int .i64 k ∧ Hid (t = false → noTw b win' M i k) ∧ Hid (Blk wr q #[.int .i64 win', .int .i64 M, .int .i64 s'.max, .int .i64 ch', .bool s'.lazy] 24) ∧ Hid (Keep [] W wr)) (fun _ kv _ => i - (intOf kv).toNat)
      case atStart => exact ⟨0, t, by omega, rfl, rfl, HT, HB, HK⟩
      case round =>
        clear c1 HB HK HT
        obtain ⟨k, t, hk, rfl, rfl, HT, HB, HK⟩ := hrel
        by_cases hki : k < i
        · have c0 := HB.out.cell 0 _ rfl
          have c1 := HB.out.cell 1 _ rfl
          cases ht : t
          case true =>
            subst ht
            have HT2 : Hid (true = false → noTw b win' M i (k + 1)) := fun h => nomatch h
            go_wp2_with fail
            go_quiet (fail)
            go_wp2_with fail
            go_roundw
            case rel => exact ⟨k + 1, true, by omega, rfl, by go_num, HT2, HB.out.keep ((Keep.refl [] wr).drewN _) (by simp), HK.out.drewN _⟩
            case measure => simp [intOf]; omega
          case false =>
            subst ht
            have hsub : IntKind.i64.wrap ((i : Int) - k) = (i : Int) - k := by rw [IntKind.wrap_i64]; omega
            by_cases hw : (i : Int) - k ≤ win'
            · have hd : decide ((i : Int) - k ≤ win') = true := by simpa using hw
              have hbb := HA.out wr HK.out
              obtain ⟨vi, hvi, ei, _⟩ := hbb.cut i (i + M) (i : Int) ((i : Int) + M) rfl (by omega) (by omega) (by omega)
              obtain ⟨vk, hvk, ek, _⟩ := hbb.cut k (k + M) (k : Int) ((k : Int) + M) rfl (by omega) (by omega) (by omega)
              rw [show i + M - i = M by omega] at ei
              rw [show k + M - k = M by omega] at ek
              have HSM := Lib.hid (fun w' (kk : Keep [] wr w') => kept_drewN (same_c w' vi vk _ _ (ei.keep kk (by simp)) (ek.keep kk (by simp))))
              obtain ⟨d, hdd⟩ : ∃ d, decide ((b.drop i).take M = (b.drop k).take M) = d := ⟨_, rfl⟩
              rw [hdd] at HSM
              have HT2 : Hid (d = false → noTw b win' M i (k + 1)) := fun h => ⟨(HT.out rfl).1, fun k' h1 h2 => by
                by_cases e : k' = k
                · subst e
                  rw [h] at hdd
                  exact of_decide_eq_false hdd
                · exact (HT.out rfl).2 k' (by omega) h2⟩
              clear hbb ei ek hdd
              have hs1 : IntKind.i64.wrap ((i : Int) + M) = (i : Int) + M := by rw [IntKind.wrap_i64]; omega
              have hs2 : IntKind.i64.wrap ((k : Int) + M) = (k : Int) + M := by rw [IntKind.wrap_i64]; omega
              have g0 : ∀ p : Kept wr, p.x.cell? ⟨q, 0, none⟩ = some (.int .i64 win') := fun p => p.h.cell (HB.out.cell 0 _ rfl) (by simp)
              have g1 : ∀ p : Kept wr, p.x.cell? ⟨q, 1, none⟩ = some (.int .i64 M) := fun p => p.h.cell (HB.out.cell 1 _ rfl) (by simp)
              go_wp2_with fail
              refine wp_region_kept (by kernel_rfl) (by kernel_rfl) ?_
              repeat (quiet_step (first | (go_at_call 14; with_reducible exact kept_of (HSM.out _ (Kept.h _)))))
              refine wpQuiet_nil ?_
              intro _ hw'
              obtain ⟨p, hw''⟩ := hw'
              subst hw''
              clear g0 g1 hvi hvk
              go_wp2_with fail
              go_roundw
              case rel => exact ⟨k + 1, d, by omega, rfl, by go_num, HT2, HB.out.keep p.h (by simp), HK.out.trans p.h (by simp)⟩
              case measure => simp [intOf]; omega
            · have HT2 : Hid (noTw b win' M i (k + 1)) := ⟨(HT.out rfl).1, fun k' h1 h2 => by
                by_cases e : k' = k
                · subst e; exact absurd h2 hw
                · exact (HT.out rfl).2 k' (by omega) h2⟩
              have hd : decide ((i : Int) - k ≤ win') = false := by simpa using hw
              go_wp2_with fail
              go_quiet (fail)
              go_wp2_with fail
              go_roundw
              case rel => exact ⟨k + 1, false, by omega, rfl, by go_num, fun _ => HT2.out, HB.out.keep ((Keep.refl [] wr).drewN _) (by simp), HK.out.drewN _⟩
              case measure => simp [intOf]; omega
        · obtain rfl : k = i := by omega
          have HT2 : Hid (t = false → noTw b win' M (k + 1) 0) := fun h => ⟨fun i' k' h1 h2 h3 h4 => by
            by_cases e : i' = k
            · subst e; exact (HT.out h).2 k' h2 h4
            · exact (HT.out h).1 i' k' (by omega) h2 h3 h4, fun k' h => by omega⟩
          go_wp2_with fail
          go_roundw
          case rel => exact ⟨k + 1, t, by omega, rfl, by go_num, HT2, HB, HK⟩
          case measure => simp [intOf]; omega
    · have hnz : ¬ ((i : Int) + M ≤ b.length) := by omega
      have HNT : Hid (t = false → ¬ tw b s') := fun h => HTW.out i (HT.out h) (by omega)
      have hok := HOK.out
      have hch0 : 0 ≤ ch' := by unfold Sh.ok at hok; omega
      have c0 := HB.out.cell 0 _ rfl
      have c2 := HB.out.cell 2 _ rfl
      have c3 := HB.out.cell 3 _ rfl
      have c4 := HB.out.cell 4 _ rfl
      by_cases hA : t = true ∧ 0 < ch'
      · obtain ⟨rfl, hp⟩ := hA
        have hd : decide (ch' > 0) = true := by simpa using hp
        clear hok hch0
        go_wp2_with fail
        refine (HLV.out _).mono ?_; rintro e w5 ⟨rfl, k5⟩
        go_wp2_with fail
        go_ret
        exact ⟨rfl, HK.out.trans k5 (by simp)⟩
      · have hmap := HFN.out (by
          cases ht : t
          · exact .inl (HNT.out ht)
          · right
            have : ¬ 0 < ch' := fun h => hA ⟨ht, h⟩
            omega)
        have HF := Lib.hid (HFI.out wr _ (HA.out wr HK.out))
        rw [hmap] at HF
        have hcond : t = false ∨ (t = true ∧ decide (ch' > 0) = false) := by
          cases ht : t
          · exact .inl rfl
          · right; have : ¬ 0 < ch' := fun h => hA ⟨ht, h⟩
            exact ⟨rfl, by simp; omega⟩
        clear hok hch0 hmap hA HT HNT HFN HTW HFI
        rcases hcond with rfl | ⟨rfl, hd⟩
        all_goals
          go_wp2_with fail
          refine HF.out.mono ?_; rintro e w5 ⟨v5, rfl, ht5, k5⟩
          have K5 : Hid (Keep [] W w5) := HK.out.trans k5 (by simp)
          have HCB := Lib.hid (fun j (hj : j < b.length) => (HA.out w5 K5.out).spot j hj)
          have hml : (b.map fun c => (⟨c, 0, 0⟩ : Tk)).length = b.length := by simp
          obtain ⟨at5, ct5, hv5, _⟩ := ht5.sh
          rw [hml] at hv5
          subst hv5
          have HCT : Hid (∀ j (hj : j < b.length), ∃ tb off cap, (Value.slice at5 b.length ct5) = .slice (some ⟨tb, off, none⟩) b.length cap ∧ w5.cell? ⟨tb, off + j * 3, none⟩ = some (.int .u8 (b[j].toNat)) ∧ w5.cell? ⟨tb, off + j * 3 + 1, none⟩ = some (.int .i64 0) ∧ w5.cell? ⟨tb, off + j * 3 + 2, none⟩ = some (.int .i64 0)) := fun j hj => by
            obtain ⟨tb, off, cap, h1, h2, h3, h4⟩ := ht5.at j (by rw [hml]; exact hj)
            rw [List.getElem_map] at h2 h3 h4
            exact ⟨tb, off, cap, by rw [← hml]; exact (by rw [hml]; exact h1.trans (by rw [hml])), h2, h3, h4⟩
          have hbe : ((b.length : Int) != (b.length : Int)) = false := by simp
          clear ht5 k5 HF c0 c1 c2 c3 c4 HB HK HA hml
          go_wp2_with fail
          go_loopw [10] (fun jv wr => ∃ j : Nat, j ≤ b.length ∧ jv = .int .i64 j ∧ ∃ m, wr = w5.drewN m) (fun jv _ => b.length - (intOf jv).toNat)
          case atStart => exact ⟨0, by omega, rfl, 0, rfl⟩
          case round =>
            obtain ⟨j, hj, rfl, m, rfl⟩ := hrel
            by_cases hjl : j < b.length
            · obtain ⟨bb, off, cc, hv, e0⟩ := HCB.out j hjl
              simp only [Value.slice.injEq] at hv
              obtain ⟨rfl, x1, rfl⟩ := hv
              obtain ⟨tb, toff, tc, hv, e1, e2, e3⟩ := HCT.out j hjl
              simp only [Value.slice.injEq] at hv
              obtain ⟨rfl, x2, rfl⟩ := hv
              clear x1 x2
              generalize b[j] = y at e0 e1
              have hjz : (j : Int) < (b.length : Int) := by omega
              go_wp2_with fail
              go_quiet (fail)
              go_wp2_with fail
              go_roundw
              case rel => exact ⟨j + 1, by omega, by go_num, _, rfl⟩
              case measure => simp [intOf]; omega
            · obtain rfl : j = b.length := by omega
              go_wp2_with fail
              refine (HLV.out _).mono ?_; rintro e w6 ⟨rfl, k6⟩
              go_wp2_with fail
              go_ret
              exact ⟨rfl, (K5.out.drewN m).trans k6 (by simp)⟩
end Go.Proofs.Ytgojekhcdcgonaa
