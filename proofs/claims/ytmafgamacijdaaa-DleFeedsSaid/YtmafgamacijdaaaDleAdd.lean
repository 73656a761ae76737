/- addBytes and addToken over the landed code. -/
import Derived.Test.YtmafgamacijdaaaDleFd
import Derived.Test.YtmafgamacijdaaaRefDle3
import Derived.Test.YtmafgamacijdaaaAppend
import Derived.Test.YtmafgamacijdaaaPart
import Derived.Test.YtmafgamacijdaaaCutB
namespace Go.Proofs.Ytmafgamacijdaaa
set_option linter.unusedVariables false
set_option linter.unusedSimpArgs false
set_option maxRecDepth 100000
open Go.ChangeShapes Go.WideShapes Go.ChangeAt Go.RowKit

set_option maxHeartbeats 1000000 in
theorem addbytes_c (w : World) (v p : Value) (l d : List UInt8) (h : OwnB w v l) (hd : Bs w p d) (hp : ∀ b, p.ownBlock = some b → v.ownBlock ≠ some b) (hl : l.length ≤ 1000000) (hdl : d.length ≤ 1000000) :
    Calls Try.prog 49 #[v, p] w fun e w' => ∃ v', e = .returned v' ∧ OwnB w' v' (l ++ lits d) ∧ Keep v.ownBlock.toList w w' ∧ (∀ b, v'.ownBlock = some b → v.ownBlock = some b ∨ w.heap.size ≤ b) := by
  obtain ⟨a, cp, rfl, _, _⟩ := hd.shape
  have HD := Lib.hid (fun k (hk : k < d.length) => hd.spot k hk)
  have HP := Lib.hid hp
  clear hd hp
  go_enter Try.func49, Try.ntmps49
  go_wp2_with fail
  go_loopw [0, 9] (fun ov iv wr => ∃ (k : Nat) (L : List UInt8), k ≤ d.length ∧ iv = .int .i64 (k : Nat) ∧ OwnB wr ov (l ++ L) ∧ L.length ≤ 2 * k ∧ Hid (L = lits (d.take k)) ∧ Keep v.ownBlock.toList w wr ∧ (∀ x, ov.ownBlock = some x → v.ownBlock = some x ∨ w.heap.size ≤ x)) (fun _ iv _ => d.length - (intOf iv).toNat)
  case atStart => exact ⟨0, [], Nat.zero_le _, rfl, by rw [List.append_nil]; exact h, Nat.zero_le _, rfl, Keep.refl _ _, fun b hb => .inl hb⟩
  case round =>
    obtain ⟨k, L, hk, rfl, hO, hL, HL, KK, hov⟩ := hrel
    by_cases hx : k < d.length
    · have q0 : decide (k < d.length) = true := by simpa using hx
      have hs1 : IntKind.i64.wrap ((k : Int) + 1) = ((k + 1 : Nat) : Int) := by rw [IntKind.wrap_i64]; omega
      obtain ⟨b9, o9, c9, e9, cellW⟩ := HD.out k hx
      obtain ⟨rfl, -⟩ : a = some ⟨b9, o9, none⟩ ∧ cp = c9 := by simpa using e9
      clear e9
      have hb9 : b9 ∉ v.ownBlock.toList := by
        intro hm
        exact HP.out b9 rfl (by simpa using hm)
      have hsnoc : d.take (k + 1) = d.take k ++ [d[k]] := List.take_succ_eq_append_getElem hx
      obtain ⟨y, hy⟩ : ∃ y, d[k] = y := ⟨_, rfl⟩
      rw [hy] at cellW hsnoc
      have hlit : lits (d.take (k + 1)) = L ++ (if y.toNat = 144 then [y, 0] else [y]) := by
        rw [hsnoc, HL.out]
        unfold lits
        rw [List.flatMap_append]; simp
      have cell := KK.cell cellW hb9
      have HLT := Lib.hid hlit
      have HN := Lib.hid (Bs.new1 wr y)
      have KA := (Keep.refl [] wr).alloc (.cells #[.int .u8 (y.toNat)] 5)
      have hO3 := hO.keep KA (by simp)
      have hll : (l ++ L).length + [y].length ≤ 140737488355328 := by rw [List.length_append]; simp; omega
      have HLL := Lib.hid hll
      clear cellW hsnoc hy hlit hll
      by_cases hy144 : y.toNat = 144
      · have q5 : ((y.toNat : Int) == 144) = true := by simp; omega
        rw [if_pos hy144] at HLT
        clear hy144
        go_upto_region 6 with (at_builtin; (refine wpList_appendB (.tmp 13) (.tmp 15) rfl rfl u0 (l ++ L) rfl hO3 _ [y] rfl HN.out HLL.out ?_); (intro v3 w3 ho3 hk3 hb3 hz3); (have K3 : Keep v.ownBlock.toList w w3 := (KK.trans KA (by simp)).trans hk3 (fun z hz => by rcases hov z (by simpa using hz) with h | h; exact .inl (by simpa using h); exact .inr h)))
        have HN3 := Lib.hid (Bs.new1 w3 0)
        have KA3 := (Keep.refl [] w3).alloc (.cells #[.int .u8 ((0 : UInt8).toNat)] 5)
        have hO5 := ho3.keep KA3 (by simp)
        have hll5 : (l ++ L ++ [y]).length + [(0 : UInt8)].length ≤ 140737488355328 := by rw [List.length_append, List.length_append]; simp; omega
        have HLL5 := Lib.hid hll5
        have hov3 : ∀ x, v3.ownBlock = some x → v.ownBlock = some x ∨ w.heap.size ≤ x := by
          intro x hx
          rcases hb3 x hx with h' | h'
          · exact hov x h'
          · have := KK.size; rw [h']; simp; omega
        clear hll5
        go_wp2_with (at_builtin; (refine wpList_appendB (.tmp 19) (.tmp 20) rfl rfl v3 (l ++ L ++ [y]) rfl hO5 _ [0] rfl HN3.out HLL5.out ?_); (intro v5 w5 ho5 hk5 hb5 hz5); (have K5 : Keep v.ownBlock.toList w w5 := (K3.trans KA3 (by simp)).trans hk5 (fun z hz => by rcases hov3 z (by simpa using hz) with h | h; exact .inl (by simpa using h); exact .inr h)))
        go_roundw
        case rel =>
          refine ⟨k + 1, L ++ [y, 0], by omega, by first | rfl | (congr 1; omega), by simpa using ho5, by rw [List.length_append]; simp; omega, HLT.out.symm, K5, fun x hx => ?_⟩
          rcases hb5 x hx with h' | h'
          · exact hov3 x h'
          · have := K3.size; rw [h']; simp; omega
        case measure => simp [intOf]; omega
      · have q5 : ((y.toNat : Int) == 144) = false := by simp; omega
        rw [if_neg hy144] at HLT
        clear hy144
        go_wp2_with (at_builtin; (refine wpList_appendB (.tmp 13) (.tmp 15) rfl rfl u0 (l ++ L) rfl hO3 _ [y] rfl HN.out HLL.out ?_); (intro v3 w3 ho3 hk3 hb3 hz3); (have K3 : Keep v.ownBlock.toList w w3 := (KK.trans KA (by simp)).trans hk3 (fun z hz => by rcases hov z (by simpa using hz) with h | h; exact .inl (by simpa using h); exact .inr h)))
        go_roundw
        case rel =>
          refine ⟨k + 1, L ++ [y], by omega, by first | rfl | (congr 1; omega), by rw [← List.append_assoc]; exact ho3, by rw [List.length_append]; simp; omega, HLT.out.symm, K3, fun x hx => ?_⟩
          rcases hb3 x hx with h' | h'
          · exact hov x h'
          · have := KK.size; rw [h']; simp; omega
        case measure => simp [intOf]; omega
    · have q0 : decide (k < d.length) = false := by simpa using hx
      have hk2 : k = d.length := by omega
      have HK := Lib.hid hk2
      clear hx hk2
      go_wp2_with fail
      go_ret
      have e : l ++ L = l ++ lits d := by rw [HL.out, HK.out, List.take_length]
      rw [e] at hO
      exact ⟨_, rfl, hO, KK, hov⟩
end Go.Proofs.Ytmafgamacijdaaa
