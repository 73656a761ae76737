/- The document's own answers of layer 8: Same, Few, Runs. -/
import Derived.Test.YtkjikcdobnegaaaTokMath
import Derived.Test.YtkjikcdobnegaaaKept
import Derived.BigQuiet
import Derived.Laws.StructEq
namespace Go.Proofs.Ytkjikcdobnegaaa
set_option linter.unusedVariables false
set_option linter.unusedSimpArgs false
open Go.ChangeShapes Go.WideShapes Go.ChangeAt Go.RowKit

set_option maxRecDepth 100000 in
set_option maxHeartbeats 1000000 in
theorem refsame8_c (w : World) (v v' : Value) (ts : List Tk) (h : Ts w v ts) (h' : Ts w v' ts) : Calls Try.prog 8 #[v, v'] w fun e w' => e = .returned (.bool true) ∧ ∃ n, w' = w.drewN n := by
  have HI := Lib.hid (fun i hi => h.at i hi)
  have HI' := Lib.hid (fun i hi => h'.at i hi)
  obtain ⟨a, cap, rfl, hl⟩ := h.sh
  obtain ⟨a', cap', rfl, hl'⟩ := h'.sh
  clear h h'
  go_enter Try.func8, Try.ntmps8
  go_wp2_with fail
  go_loopw [5] (fun i wr => ∃ k : Nat, k ≤ ts.length ∧ i = .int .i64 k ∧ ∃ n, wr = w.drewN n) (fun i _ => ts.length - (intOf i).toNat)
  case atStart => exact ⟨0, by omega, rfl, 0, rfl⟩
  case round =>
    obtain ⟨k, hk, rfl, n, rfl⟩ := hrel
    by_cases hlt : k < ts.length
    · obtain ⟨b, off, cap1, hv, e1, e2, e3⟩ := HI.out k hlt
      simp only [Value.slice.injEq] at hv
      obtain ⟨rfl, h2, rfl⟩ := hv
      clear h2
      obtain ⟨b', off', cap1', hv, d1, d2, d3⟩ := HI'.out k hlt
      simp only [Value.slice.injEq] at hv
      obtain ⟨rfl, h2, rfl⟩ := hv
      clear h2
      have hltz : (k : Int) < (ts.length : Int) := by omega
      generalize (ts[k]).lit.toNat = x at e1 d1
      generalize (ts[k]).dist = y at e2 d2
      generalize (ts[k]).len = z at e3 d3
      go_wp2_with fail
      go_quiet (fail)
      go_wp2_with fail
      go_roundw
      case rel => exact ⟨k + 1, by omega, by go_num, _, rfl⟩
      case measure => simp [intOf]; omega
    · obtain rfl : k = ts.length := by omega
      go_wp2_with fail
      go_ret
      exact ⟨rfl, _, rfl⟩
/-- at most n tokens, none longer than long -/
def fewT (ts : List Tk) (n : Nat) (long : Int) : List Tk := (ts.take n).map fun t => if long < t.len then { t with len := long } else t
theorem fewT_succ (ts : List Tk) (k : Nat) (long : Int) (hk : k < ts.length) : fewT ts (k + 1) long = fewT ts k long ++ [if long < (ts[k]).len then { ts[k] with len := long } else ts[k]] := by
  unfold fewT
  rw [List.take_succ_eq_append_getElem hk, List.map_append]; rfl
theorem fewT_len (ts : List Tk) (n : Nat) (long : Int) : (fewT ts n long).length ≤ n := by
  unfold fewT; simp; omega
set_option maxRecDepth 100000 in
set_option maxHeartbeats 2000000 in
theorem reffew8_c (w : World) (v : Value) (ts : List Tk) (n : Nat) (long : Int) (hn : n ≤ 1000) (hlw : (Lit.int .i64 long).wf = true) (h : Ts w v ts) : Calls Try.prog 13 #[v, .int .i64 n, .int .i64 long] w fun e w' => ∃ v', e = .returned v' ∧ OwnT w' v' (fewT ts n long) ∧ Keep [] w w' ∧ ∀ b, v'.ownBlock = some b → w.heap.size ≤ b := by
  have HI := Lib.hid (fun w' (k : Keep [] w w') i hi => (h.keep k (by simp)).at i hi)
  have HWF := Lib.hid h.wf
  obtain ⟨a, cap, rfl, hl⟩ := h.sh
  clear h
  go_enter Try.func13, Try.ntmps13
  go_wp2_with fail
  go_loopw [7, 8] (fun ov i wr => ∃ (k : Nat) (a7 : Option Addr) (n7 c7 : Nat), k ≤ ts.length ∧ k ≤ n ∧ i = .int .i64 k ∧ ov = .slice a7 n7 c7 ∧ Hid (OwnT wr (.slice a7 n7 c7) (fewT ts k long)) ∧ Hid (Keep [] w wr) ∧ Hid (∀ b, (Value.slice a7 n7 c7).ownBlock = some b → w.heap.size ≤ b)) (fun _ i _ => n - (intOf i).toNat)
  case atStart => exact ⟨0, none, 0, 0, by omega, by omega, rfl, rfl, by unfold Hid fewT; simp; exact OwnT.nil w, Keep.refl _ _, fun b hb => by simp [Value.ownBlock] at hb⟩
  case round =>
    obtain ⟨k, a7, n7, c7, hk, hkn, rfl, rfl, HO, HK, HB⟩ := hrel
    by_cases hlt : k < ts.length ∧ k < n
    · obtain ⟨hl1, hl2⟩ := hlt
      have z1 : (k : Int) < (ts.length : Int) := by omega
      have z2 : (k : Int) < (n : Int) := by omega
      obtain ⟨b, off, cap1, hv, e1, e2, e3⟩ := HI.out wr HK.out k hl1
      simp only [Value.slice.injEq] at hv
      obtain ⟨rfl, h2, rfl⟩ := hv
      clear h2
      have HFS := Lib.hid (fewT_succ ts k long hl1)
      have HW := Lib.hid (HWF.out _ (List.getElem_mem hl1))
      generalize ts[k] = t at e1 e2 e3 HFS HW
      by_cases hgt : long < t.len
      · have hgt1 : t.len > long := hgt
        rw [if_pos hgt] at HFS
        have HWT : Hid (Tk.wf { t with len := long }) := ⟨HW.out.1, hlw⟩
        have hFL := fewT_len ts k long
        have hS : ∀ A, Blk ((wr.alloc A).alloc (.cells ({ t with len := long } : Tk).cells.toArray 39)) (wr.heap.size + 1) ({ t with len := long } : Tk).cells.toArray 39 := fun A => by
          have := Blk.new (wr.alloc A) ({ t with len := long } : Tk).cells.toArray 39
          simpa using this
        have HSS := Lib.hid hS
        clear hS
        go_wp2_with (at_builtin; (refine wpList_appendT (.tmp 31) (.tmp 33) rfl rfl (.slice a7 n7 c7) (fewT ts k long) rfl (HO.out.keep (((Keep.refl [] wr).alloc _).alloc _) (by simp)) (wr.heap.size + 1) ({ t with len := long } : Tk) rfl (HSS.out _) HWT.out (by omega) ?_); (intro v8 w8 o8 k8 b8 z8); (obtain ⟨g8, c8, hv8⟩ := o8.blk z8); (subst hv8))
        have HO8 : Hid (OwnT w8 (.slice (some ⟨g8, 0, none⟩) ((fewT ts k long).length + 1) c8) (fewT ts (k + 1) long)) := by unfold Hid; rw [HFS.out]; rw [List.length_append] at o8; exact o8
        have HK8 : Hid (Keep [] w w8) := (((HK.out.alloc _).alloc _)).trans k8 (fun x hx => .inr (HB.out x (by simpa using hx)))
        have HB8 : Hid (∀ b, (Value.slice (some ⟨g8, 0, none⟩) ((fewT ts k long).length + 1) c8).ownBlock = some b → w.heap.size ≤ b) := fun b hb => by
          rcases b8 b hb with h | h
          · exact HB.out b h
          · have := HK.out.size; rw [h]; simp; omega
        clear o8 k8 b8 z8 HO HK HB HFS HSS hFL
        generalize (fewT ts k long).length + 1 = m8 at HO8 HB8 ⊢
        go_roundw
        case rel => exact ⟨k + 1, _, _, _, by omega, by omega, by go_num, rfl, HO8, HK8, HB8⟩
        case measure => simp [intOf]; omega
      · have hgt1 : ¬ t.len > long := hgt
        rw [if_neg hgt] at HFS
        have HWT := HW
        have hFL := fewT_len ts k long
        have hS : ∀ A, Blk ((wr.alloc A).alloc (.cells t.cells.toArray 39)) (wr.heap.size + 1) t.cells.toArray 39 := fun A => by
          have := Blk.new (wr.alloc A) t.cells.toArray 39
          simpa using this
        have HSS := Lib.hid hS
        clear hS
        go_wp2_with (at_builtin; (refine wpList_appendT (.tmp 31) (.tmp 33) rfl rfl (.slice a7 n7 c7) (fewT ts k long) rfl (HO.out.keep (((Keep.refl [] wr).alloc _).alloc _) (by simp)) (wr.heap.size + 1) t rfl (HSS.out _) HWT.out (by omega) ?_); (intro v8 w8 o8 k8 b8 z8); (obtain ⟨g8, c8, hv8⟩ := o8.blk z8); (subst hv8))
        have HO8 : Hid (OwnT w8 (.slice (some ⟨g8, 0, none⟩) ((fewT ts k long).length + 1) c8) (fewT ts (k + 1) long)) := by unfold Hid; rw [HFS.out]; rw [List.length_append] at o8; exact o8
        have HK8 : Hid (Keep [] w w8) := (((HK.out.alloc _).alloc _)).trans k8 (fun x hx => .inr (HB.out x (by simpa using hx)))
        have HB8 : Hid (∀ b, (Value.slice (some ⟨g8, 0, none⟩) ((fewT ts k long).length + 1) c8).ownBlock = some b → w.heap.size ≤ b) := fun b hb => by
          rcases b8 b hb with h | h
          · exact HB.out b h
          · have := HK.out.size; rw [h]; simp; omega
        clear o8 k8 b8 z8 HO HK HB HFS HSS hFL
        generalize (fewT ts k long).length + 1 = m8 at HO8 HB8 ⊢
        go_roundw
        case rel => exact ⟨k + 1, _, _, _, by omega, by omega, by go_num, rfl, HO8, HK8, HB8⟩
        case measure => simp [intOf]; omega
    · have HE : Hid (fewT ts k long = fewT ts n long) := by
        unfold Hid fewT
        by_cases h1 : k < n
        · rw [List.take_of_length_le (i := k) (by omega), List.take_of_length_le (i := n) (by omega)]
        · rw [show k = n by omega]
      have HEO := HO
      unfold Hid at HEO
      rw [HE.out] at HEO
      have HF := Lib.hid HEO
      clear HEO HO
      by_cases h1 : k < ts.length
      · have z1 : (k : Int) < (ts.length : Int) := by omega
        have z2 : ¬ (k : Int) < (n : Int) := by omega
        clear hlt h1
        go_wp2_with fail
        go_ret
        exact ⟨_, rfl, HF.out, HK.out, HB.out⟩
      · have z1 : ¬ (k : Int) < (ts.length : Int) := by omega
        clear hlt h1
        go_wp2_with fail
        go_ret
        exact ⟨_, rfl, HF.out, HK.out, HB.out⟩
end Go.Proofs.Ytkjikcdobnegaaa
