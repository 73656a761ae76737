/- The document's own table of layer 10: Clear. -/
import Derived.Test.YtpjebbhjagllgaaRefLz2
namespace Go.Proofs.Ytpjebbhjagllgaa
set_option linter.unusedVariables false
set_option linter.unusedSimpArgs false
open Go.ChangeShapes Go.WideShapes Go.ChangeAt Go.RowKit

/-- is a code a parent of one of the first k rows -/
def isParK (rows : List Lk) (k c : Nat) : Bool := isPar (rows.take k) c
theorem isParK_succ (rows : List Lk) (k c : Nat) (hk : k < rows.length) : isParK rows (k + 1) c = (isParK rows k c || (rw' rows k).par == c) := by
  unfold isParK isPar
  rw [List.take_succ_eq_append_getElem hk, List.any_append, ← rw'_get _ _ hk]; simp
theorem isParK_all (rows : List Lk) (c : Nat) : isParK rows rows.length c = isPar rows c := by unfold isParK; rw [List.take_length]
theorem isParK_true (rows : List Lk) (k c : Nat) (h : isParK rows k c = true) : isPar rows c = true := by
  unfold isParK isPar at *
  rw [List.any_eq_true] at *
  obtain ⟨x, hx, h2⟩ := h
  exact ⟨x, List.mem_of_mem_take hx, h2⟩
/-- what is kept of the first i rows -/
def keptK (rows : List Lk) (i : Nat) : List Lk := (rows.take i).filter fun r => isPar rows r.code
theorem keptK_succ (rows : List Lk) (i : Nat) (hi : i < rows.length) : keptK rows (i + 1) = keptK rows i ++ (if isPar rows (rw' rows i).code then [rw' rows i] else []) := by
  unfold keptK
  rw [List.take_succ_eq_append_getElem hi, List.filter_append, ← rw'_get _ _ hi]
  congr 1
  simp only [List.filter_cons, List.filter_nil]
theorem keptK_all (s : LT) : keptK s.rows s.rows.length = s.clear.rows := by unfold keptK LT.clear; rw [List.take_length]
theorem keptK_len (rows : List Lk) (i : Nat) : (keptK rows i).length ≤ rows.length := by
  unfold keptK
  exact Nat.le_trans (List.length_filter_le _ _) (by rw [List.length_take]; omega)
set_option maxRecDepth 100000 in
set_option maxHeartbeats 4000000 in
theorem rclear_c (w : World) (q : Nat) (v : Value) (s : LT) (h : RT w q v s) : Calls Try.prog 14 #[.pointer (some ⟨q, 0, none⟩)] w fun e w' => e = .returned (.tuple #[]) ∧ ∃ v', RT w' q v' s.clear ∧ Keep [q] w w' ∧ ∀ b, v'.ownBlock = some b → w.heap.size ≤ b := by
  have hcok := LT.clear_ok h.2.2.1
  have hcl := hcok.len
  have hKA := keptK_all s
  have hlast : s.clear.last = 256 := rfl
  obtain ⟨hB, hG, hok, hlen, hbq⟩ := h
  have HC := Lib.hid hcok
  have HCL := Lib.hid hcl
  clear hok hcok hcl
  have HRT : Hid (∀ w' v', Blk w' q #[v', .int .i64 256] 57 → Gs ER w' v' (keptK s.rows s.rows.length) → (∀ b, v'.ownBlock = some b → b ≠ q ∧ b < w'.heap.size) → RT w' q v' s.clear) := fun w' v' h1 h2 h3 => ⟨by rw [hlast]; exact h1, by rw [← hKA]; exact h2, HC.out, by have := HCL.out; omega, h3⟩
  clear hKA hlast HC HCL
  generalize s.clear = sc at *
  generalize s.last = la at *
  generalize s.rows = rows at *
  have hqw := hB.lt
  have HG := Lib.hid hG
  have HB := Lib.hid hB
  have c0 : w.cell? ⟨q, 0, none⟩ = some v := hB.cell 0 _ rfl
  have HAT := Lib.hid (fun w' (k : Keep [] w w') i hi => (hG.keep ERg k (by simp)).lk i hi)
  obtain ⟨a, cap, rfl, hcap, hcap2⟩ := hG.sh
  clear hG hB hbq
  go_enter Try.func14, Try.ntmps14
  go_wp2_with fail
  go_loopw [2, 3] (fun ov iv wr => ∃ i : Nat, i ≤ rows.length ∧ iv = .int .i64 i ∧ Hid (OwnG ER wr ov (keptK rows i)) ∧ Hid (Keep [] w wr) ∧ Hid (∀ b, ov.ownBlock = some b → w.heap.size ≤ b)) (fun _ iv _ => rows.length - (intOf iv).toNat)
  case atStart => exact ⟨0, by omega, rfl, OwnG.nil ER _, Keep.refl _ _, fun b hb => by simp [Value.ownBlock] at hb⟩
  case round =>
    obtain ⟨i, hi, rfl, HO, HK, HN⟩ := hrel
    have c0r : wr.cell? ⟨q, 0, none⟩ = some (.slice a rows.length cap) := HK.out.cell c0 (by simp)
    by_cases hlt : i < rows.length
    · have hil : (i : Int) < rows.length := by omega
      go_wp2_with fail
      go_loopw [4, 5] (fun tv kv w2 => ∃ (k : Nat) (t : Bool), k ≤ rows.length ∧ tv = .bool t ∧ kv = .int .i64 k ∧ Hid (t = isParK rows k (rw' rows i).code) ∧ ∃ m, w2 = wr.drewN m) (fun _ kv _ => rows.length - (intOf kv).toNat)
      case atStart => exact ⟨0, false, by omega, rfl, rfl, rfl, 0, rfl⟩
      case round =>
        clear c0
        obtain ⟨k, t, hk, rfl, rfl, HT, m, rfl⟩ := hrel
        go_upto_region 6 with fail
        go_cut [25] (fun cv wx => wx = wr.drewN m ∧ cv = .bool (decide (k < rows.length) && !t))
        case first =>
          by_cases hkl : (k : Int) < rows.length
          · have dk : decide (k < rows.length) = true := by simp; omega
            cases t
            all_goals
              go_wp2_with fail
              go_meet
              exact ⟨rfl, by rw [dk]; rfl⟩
          · have dk : decide (k < rows.length) = false := by simp; omega
            go_wp2_with fail
            go_meet
            exact ⟨rfl, by rw [dk]; rfl⟩
        case rest =>
          obtain ⟨rfl, rfl⟩ := hcut
          by_cases hb : k < rows.length ∧ t = false
          · obtain ⟨hkl, rfl⟩ := hb
            have dk : (decide (k < rows.length) && !false) = true := by simp; omega
            rw [dk]
            obtain ⟨b, off, cap', hv, _, e1, _⟩ := HAT.out wr HK.out k hkl
            simp only [Value.slice.injEq] at hv
            obtain ⟨hv1, x1, rfl⟩ := hv
            clear x1
            obtain ⟨b', off', cap', hv, e0, _, e2⟩ := HAT.out wr HK.out i hlt
            simp only [Value.slice.injEq] at hv
            obtain ⟨hv2, x1, rfl⟩ := hv
            clear x1
            rw [hv1] at hv2
            simp only [Option.some.injEq, Addr.mk.injEq, and_true] at hv2
            obtain ⟨rfl, rfl⟩ := hv2
            subst hv1
            have hkz : (k : Int) < rows.length := by omega
            have hst := isParK_succ rows k (rw' rows i).code hkl
            rw [← HT.out, Bool.false_or] at hst
            obtain ⟨d, hd⟩ : ∃ d, ((rw' rows k).par == (rw' rows i).code) = d := ⟨_, rfl⟩
            have hd2 : (((rw' rows k).par : Int) == ((rw' rows i).code : Int)) = d := by rw [← hd]; cases hx : ((rw' rows k).par == (rw' rows i).code) <;> simp at hx ⊢ <;> omega
            have HD : Hid (d = isParK rows (k + 1) (rw' rows i).code) := by unfold Hid; rw [hst, hd]
            clear hst hd
            generalize (rw' rows k).par = z1 at *
            generalize hcode : (rw' rows i).code = z2 at *
            go_wp2_with fail
            go_quiet (fail)
            go_wp2_with fail
            go_roundw
            case rel => exact ⟨k + 1, d, by omega, rfl, by go_num, by rw [hcode]; exact HD, _, rfl⟩
            case measure => simp [intOf]; omega
          · have hb' : t = false → ¬ k < rows.length := fun h hk => hb ⟨hk, h⟩
            have dk : (decide (k < rows.length) && !t) = false := by
              cases t
              · have := hb' rfl; simp; omega
              · simp
            rw [dk]
            have HP : Hid (isPar rows (rw' rows i).code = t) := by
              unfold Hid
              cases t
              · have : k = rows.length := by have := hb' rfl; omega
                subst this
                rw [← isParK_all]; exact HT.out.symm
              · exact isParK_true rows k _ HT.out.symm
            clear dk hb hb'
            cases t
            · have hks := keptK_succ rows i hlt
              rw [HP.out] at hks
              have HO2 : Hid (OwnG ER (wr.drewN m) u2 (keptK rows (i + 1))) := by
                unfold Hid; rw [hks]; simpa using HO.out.keep ((Keep.refl [] wr).drewN m) (by simp)
              clear hks
              go_wp2_with fail
              go_roundw
              case rel => exact ⟨i + 1, by omega, by go_num, HO2, HK.out.drewN m, HN⟩
              case measure => simp [intOf]; omega
            · have hks := keptK_succ rows i hlt
              rw [HP.out, if_pos rfl] at hks
              obtain ⟨b, off, cap', hv, e0, e1, e2⟩ := HAT.out wr HK.out i hlt
              simp only [Value.slice.injEq] at hv
              obtain ⟨rfl, x1, rfl⟩ := hv
              clear x1
              obtain ⟨r, hr⟩ : ∃ r, rw' rows i = r := ⟨_, rfl⟩
              rw [hr] at e0 e1 e2 hks
              have kA : Keep [] wr ((wr.drewN m).alloc (.cells #[.int .i64 r.code, .int .i64 r.par, .int .u8 r.byt.toNat] 64)) := ((Keep.refl [] wr).drewN m).alloc _
              have hOA := HO.out.keep kA (by simp)
              have hlit : Gs ER ((wr.drewN m).alloc (.cells #[.int .i64 r.code, .int .i64 r.par, .int .u8 r.byt.toNat] 64)) (.slice (some ⟨wr.heap.size, 0, none⟩) 1 1) [r] := Gs.lit ERg [r] 1 (Blk.new (wr.drewN m) _ _) rfl rfl (by decide)
              have hll := keptK_len rows i
              clear hr
              go_wp2_with (at_builtin; (refine wpList_appendG ERg (.tmp 47) (.tmp 55) rfl rfl u2 _ rfl hOA (.slice (some ⟨wr.heap.size, 0, none⟩) 1 1) [r] rfl hlit (by simp; omega) ?_); (intro v5 w5 ho5 hk5 hb5))
              go_roundw
              case rel => exact ⟨i + 1, by omega, by go_num, by unfold Hid; rw [hks]; exact ho5, (HK.out.trans kA (by simp)).trans hk5 (fun x hx => .inr (HN.out x (by simpa using hx))), fun b hb => by
                rcases hb5 b hb with h | h
                · exact HN.out b h
                · rw [h]; have h1 := HK.out.size; have h2 := kA.size; omega⟩
              case measure => simp [intOf]; omega
    · obtain rfl : i = rows.length := by omega
      have ho6 := HO.out
      have hqr : q < wr.heap.size := Nat.lt_of_lt_of_le hqw HK.out.size
      have hBr := HB.out.keep HK.out (by simp)
      have f0 := hBr.free 0
      have f1 := hBr.free 1
      have c1 : wr.cell? ⟨q, 1, none⟩ = some (.int .i64 la) := hBr.cell 1 _ rfl
      obtain ⟨g5, n5, c5, rfl, hg5⟩ : ∃ g5 n5 c5, u2 = .slice g5 n5 c5 ∧ (∀ y, g5 = some y → y.block ≠ q) := by
        rcases ho6.shape with ⟨h1, _⟩ | ⟨g5, c5, h1, _⟩
        · exact ⟨none, 0, 0, h1, fun y hy => nomatch hy⟩
        · refine ⟨_, _, _, h1, fun y hy => ?_⟩
          have := HN.out g5 (by rw [h1]; rfl)
          obtain rfl : (⟨g5, 0, none⟩ : Addr) = y := by simpa using hy
          show g5 ≠ q
          omega
      have hnq : ∀ b, (Value.slice g5 n5 c5).ownBlock = some b → b ≠ q ∧ b < ((wr.setCell ⟨q, 0, none⟩ (.slice g5 n5 c5)).setCell ⟨q, 1, none⟩ (.int .i64 256)).heap.size := fun b hb => ⟨by have := HN.out b hb; omega, by have := ho6.lt b hb; simpa using this⟩
      have HB7 : Hid (Blk ((wr.setCell ⟨q, 0, none⟩ (.slice g5 n5 c5)).setCell ⟨q, 1, none⟩ (.int .i64 256)) q #[.slice g5 n5 c5, .int .i64 256] 57) := (hBr.set 0 _).set 1 _
      have K7 : Hid (Keep [q] wr ((wr.setCell ⟨q, 0, none⟩ (.slice g5 n5 c5)).setCell ⟨q, 1, none⟩ (.int .i64 256))) := ((Keep.refl [q] wr).setCell (.inl (by simp)) _).setCell (.inl (by simp)) _
      have HG7 : Hid (Gs ER ((wr.setCell ⟨q, 0, none⟩ (.slice g5 n5 c5)).setCell ⟨q, 1, none⟩ (.int .i64 256)) (.slice g5 n5 c5) (keptK rows rows.length)) := ho6.gs.keep ERg K7.out (fun b hb => by have := (hnq b hb).1; simpa using this)
      have HNQ := Lib.hid hnq
      clear hBr ho6 hg5 hnq c0
      go_wp2_with fail
      go_end0
      exact ⟨rfl, _, HRT.out _ _ HB7.out HG7.out HNQ.out, (HK.out.mono (by simp)).trans K7.out (fun x hx => .inl hx), HN.out⟩
end Go.Proofs.Ytpjebbhjagllgaa
