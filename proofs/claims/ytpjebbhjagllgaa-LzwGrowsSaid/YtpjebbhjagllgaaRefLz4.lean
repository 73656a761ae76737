/- The document's own table of layer 10: Text. -/
import Derived.Test.YtpjebbhjagllgaaRefLz3
import Derived.Test.YtpjebbhjagllgaaMake
namespace Go.Proofs.Ytpjebbhjagllgaa
set_option linter.unusedVariables false
set_option linter.unusedSimpArgs false
open Go.ChangeShapes Go.WideShapes Go.ChangeAt Go.RowKit

theorem txF_byte (rows : List Lk) (f : Nat) (c : Int) (out : List UInt8) (h : 0 ≤ c ∧ c < 256) : txF rows (f + 1) c out = some (UInt8.ofNat c.toNat :: out) := by rw [txF, if_pos h]
theorem txF_free (rows : List Lk) (f : Nat) (c : Int) (out : List UInt8) (h : ¬ (0 ≤ c ∧ c < 256)) (h2 : atI rows c < 0) : txF rows (f + 1) c out = none := by rw [txF, if_neg h, if_pos h2]
theorem txF_link (rows : List Lk) (f : Nat) (c : Int) (out : List UInt8) (h : ¬ (0 ≤ c ∧ c < 256)) (i : Nat) (h2 : atI rows c = i) : txF rows (f + 1) c out = txF rows f (rw' rows i).par ((rw' rows i).byt :: out) := by
  rw [txF, if_neg h, if_neg (by omega), h2, Int.toNat_natCast]
set_option maxRecDepth 100000 in
set_option maxHeartbeats 4000000 in
theorem rtext_c (w : World) (q : Nat) (v : Value) (s : LT) (c : Int) (h : RT w q v s) : Calls Try.prog 28 #[.pointer (some ⟨q, 0, none⟩), .int .i64 c] w fun e w' => ∃ v', e = .returned (.tuple #[v', .bool (s.text c).isSome]) ∧ OwnB w' v' ((s.text c).getD []) ∧ Keep [] w w' ∧ ∀ b, v'.ownBlock = some b → w.heap.size ≤ b := by
  have HX : Hid (s.text c = txF s.rows (s.rows.length + 1) c []) := rfl
  have HAT := Lib.hid (fun w' c (k : Keep [] w w') => rat_c w' q v s c (h.keep k (by simp) (by simp)))
  obtain ⟨hB, hG, hok, hlen, hbq⟩ := h
  have c0 : w.cell? ⟨q, 0, none⟩ = some v := hB.cell 0 _ rfl
  have HG := Lib.hid (fun w' (k : Keep [] w w') i hi => (hG.keep ERg k (by simp)).lk i hi)
  obtain ⟨a, cap, rfl, hcap, hcap2⟩ := hG.sh
  clear hG hB hok hbq
  generalize s.text c = ans at *
  generalize s.rows = rows at *
  go_enter Try.func28, Try.ntmps28
  go_wp2_with fail
  go_loopw [1, 6, 7] (fun cv ov nv wr => ∃ (n f : Nat) (c : Int) (out : List UInt8), n + f = rows.length + 1 ∧ out.length = n ∧ cv = .int .i64 c ∧ nv = .int .i64 n ∧ Hid (OwnB wr ov out) ∧ Hid (ans = txF rows f c out.reverse) ∧ Hid (Keep [] w wr) ∧ Hid (∀ b, ov.ownBlock = some b → w.heap.size ≤ b)) (fun _ _ nv _ => rows.length + 1 - (intOf nv).toNat)
  case atStart => exact ⟨0, rows.length + 1, c, [], by omega, rfl, rfl, rfl, OwnB.nil _, HX, Keep.refl _ _, fun b hb => by simp [Value.ownBlock] at hb⟩
  case round =>
    clear HX
    obtain ⟨n, f, c, out, hnf, rfl, rfl, rfl, HO, HX, HK, HN⟩ := hrel
    have c0r : wr.cell? ⟨q, 0, none⟩ = some (.slice a rows.length cap) := HK.out.cell c0 (by simp)
    by_cases hlt : out.length ≤ rows.length
    · obtain ⟨f', rfl⟩ : ∃ f', f = f' + 1 := ⟨f - 1, by omega⟩
      have hnl : (out.length : Int) ≤ rows.length := by omega
      by_cases hb : 0 ≤ c ∧ c < 256
      · obtain ⟨y, hy⟩ : ∃ y : UInt8, c = (y.toNat : Int) := ⟨UInt8.ofNat c.toNat, by rw [UInt8.toNat_ofNat', Nat.mod_eq_of_lt (by omega)]; omega⟩
        subst hy
        have hyl := y.toNat_lt
        have HR : Hid (ans = some (y :: out.reverse)) := by
          unfold Hid; rw [HX.out, txF_byte _ _ _ _ hb]; simp
        have hu8 : IntKind.u8.wrap (y.toNat : Int) = (y.toNat : Int) := by rw [IntKind.wrap_u8]; omega
        have hOsp := Lib.hid (fun w' (k : Keep [] wr w') j hj => (HO.out.bs.keep k (by simp)).spot j hj)
        obtain ⟨oa, oc, hov, _⟩ := HO.out.bs
        subst hov
        have hyz : (0 : Int) ≤ (y.toNat : Int) := by omega
        have hyz2 : (y.toNat : Int) < 256 := by omega
        clear hb HX
        go_wp2_with fail
        have hO1 := OwnB.lit1 wr y
        have K1 := (Keep.refl [] wr).alloc (.cells #[.int .u8 (y.toNat)] 5)
        obtain ⟨w3, hw3⟩ : ∃ x, wr.alloc (.cells #[.int .u8 (y.toNat)] 5) = x := ⟨_, rfl⟩
        rw [hw3] at hO1 K1 ⊢
        obtain ⟨g3, hg3⟩ : ∃ x, wr.heap.size = x := ⟨_, rfl⟩
        rw [hg3] at hO1 ⊢
        have HG3 := Lib.hid hg3
        clear hw3 hg3
        have hS0 : Hid (OwnB w3 (.slice (some ⟨g3, 0, none⟩) 1 1) (y :: (out.drop out.length).reverse)) := by
          rw [List.drop_of_length_le (Nat.le_refl _)]; exact hO1
        have HK1 := Lib.hid K1
        clear hO1 K1
        go_loopw [8, 9] (fun bv iv w4 => ∃ (j : Nat) (z : Int), j ≤ out.length ∧ iv = .int .i64 z ∧ Hid (z = (j : Int) - 1) ∧ Hid (OwnB w4 bv (y :: (out.drop j).reverse)) ∧ Hid (Keep [] wr w4) ∧ Hid (∀ b, bv.ownBlock = some b → g3 ≤ b)) (fun _ iv _ => (intOf iv + 1).toNat)
        case atStart => exact ⟨out.length, (out.length : Int) - 1, by omega, rfl, rfl, hS0, HK1, fun b hb => by simp [Value.ownBlock] at hb; omega⟩
        case round =>
          clear hS0 HK1
          obtain ⟨j, z, hj, rfl, HZ, HB, HK4, HN4⟩ := hrel
          by_cases hj0 : j = 0
          · subst hj0
            obtain rfl : z = -1 := HZ.out
            have hd : decide ((-1 : Int) ≥ 0) = false := by decide
            have hb0 := HB.out
            rw [List.drop_zero] at hb0
            have HB0 := Lib.hid hb0
            clear hb0
            go_wp2_with fail
            go_ret2
            rw [HR.out]
            exact ⟨_, rfl, HB0.out, HK.out.trans HK4.out (by simp), fun b hb => by have h1 := HN4.out b hb; have h2 := HK.out.size; have h3 := HG3.out; omega⟩
          · obtain ⟨j', rfl⟩ : ∃ j', j = j' + 1 := ⟨j - 1, by omega⟩
            obtain rfl : z = (j' : Int) := by have := HZ.out; omega
            clear HZ hj0
            obtain ⟨b, off, cap', hv, e0⟩ := hOsp.out _ HK4.out j' (by omega)
            simp only [Value.slice.injEq] at hv
            obtain ⟨rfl, x1, rfl⟩ := hv
            clear x1
            have hds : out.drop j' = out[j'] :: out.drop (j' + 1) := List.drop_eq_getElem_cons (by omega)
            obtain ⟨d, hd⟩ : ∃ d, out[j'] = d := ⟨_, rfl⟩
            rw [hd] at e0 hds
            have HL : Hid ((y :: (out.drop (j' + 1)).reverse) ++ [d] = y :: (out.drop j').reverse) := by unfold Hid; rw [hds]; simp
            have hjl : (j' : Int) < out.length := by omega
            clear hd hds
            have hoA := HB.out.keep ((Keep.refl [] wr).alloc (.cells #[.int .u8 (d.toNat)] 5)) (by simp)
            have hsA := Bs.new1 wr d
            have hll : (y :: (out.drop (j' + 1)).reverse).length ≤ 9000 := by simp; omega
            go_wp2_with (at_builtin; (refine wpList_appendB (.tmp 36) (.tmp 41) rfl rfl u8 _ rfl hoA _ [d] rfl hsA (by simp at hll ⊢; omega) ?_); (intro v5 w5 ho5 hk5 hb5 hz5))
            go_roundw
            case rel => exact ⟨j', (j' : Int) - 1, by omega, by go_num, rfl, by rw [← HL.out]; exact ho5, (HK4.out.alloc _).trans hk5 (fun x hx => .inr (by have h1 := HN4.out x (by simpa using hx); have h3 := HG3.out; omega)), fun b hb => by
              rcases hb5 b hb with h | h
              · exact HN4.out b h
              · have h1 := HK4.out.size; have h3 := HG3.out; simp at h; omega⟩
            case measure => simp [intOf]
      · have hb2 : (decide (c ≥ 0) && decide (c < 256)) = false := by
          rw [Bool.and_eq_false_iff, decide_eq_false_iff_not, decide_eq_false_iff_not]; omega
        have hb3 : c < 0 ∨ (¬ c < 0 ∧ ¬ c < 256) := by omega
        have HA := Lib.hid (HAT.out wr c HK.out)
        have hcase : (atI rows c < 0 ∧ ans = none) ∨ ∃ i : Nat, atI rows c = i ∧ i < rows.length ∧ ans = txF rows f' (rw' rows i).par ((rw' rows i).byt :: out.reverse) := by
          rcases atI_cases rows c with h | ⟨i, h1, h2, _⟩
          · exact .inl ⟨by omega, by rw [HX.out, txF_free _ _ _ _ hb (by omega)]⟩
          · exact .inr ⟨i, h1, h2, by rw [HX.out, txF_link _ _ _ _ hb i h1]⟩
        obtain ⟨oa, oc, hov, hrest⟩ := HO.out.bs
        subst hov
        have hcz : decide (c ≥ 0) = false ∨ (decide (c ≥ 0) = true ∧ decide (c < 256) = false) := by
          rcases hb3 with h | h
          · left; simp; omega
          · right; simp; omega
        clear hb hb2 hb3 hrest HX
        rcases hcase with ⟨hneg, hans⟩ | ⟨i, hat, hil, hans⟩
        · have HR := Lib.hid hans
          have dn : decide (atI rows c < 0) = true := by simpa using hneg
          clear hans hneg
          generalize atI rows c = z at *
          rcases hcz with h1 | ⟨h1, h2⟩
          all_goals
            go_wp2_with fail
            refine HA.out.mono ?_; rintro e w2 ⟨rfl, m, rfl⟩
            go_wp2_with fail
            go_ret2
            rw [HR.out]
            exact ⟨_, rfl, OwnB.nil _, HK.out.drewN m, fun b hb => by simp [Value.ownBlock] at hb⟩
        · have HR := Lib.hid hans
          rw [hat] at HA
          obtain ⟨b, off, cap', hv, e0, e1w, e2w⟩ := HG.out w (Keep.refl [] w) i hil
          simp only [Value.slice.injEq] at hv
          obtain ⟨rfl, x1, rfl⟩ := hv
          clear x1 hat hans
          have hilz : (i : Int) < rows.length := by omega
          obtain ⟨par, hpar⟩ : ∃ x, (rw' rows i).par = x := ⟨_, rfl⟩
          obtain ⟨d, hd⟩ : ∃ x, (rw' rows i).byt = x := ⟨_, rfl⟩
          rw [hpar, hd] at HR
          rw [hpar] at e1w
          rw [hd] at e2w
          have e2 := HK.out.cell e2w (by simp)
          have hrev : (d :: out.reverse) = (out ++ [d]).reverse := by simp
          rw [hrev] at HR
          have HE1 := Lib.hid e1w
          clear hpar hd hrev e0 e1w e2w
          rcases hcz with h1 | ⟨h1, h2⟩
          all_goals
            go_wp2_with fail
            refine HA.out.mono ?_; rintro e w2 ⟨rfl, m, rfl⟩
            have kA : Keep [] wr ((wr.drewN m).alloc (.cells #[.int .u8 (d.toNat)] 5)) := ((Keep.refl [] wr).drewN m).alloc _
            have hoA := HO.out.keep kA (by simp)
            have hsA := Bs.new1 (wr.drewN m) d
            clear HA
            go_wp2_with (at_builtin; (refine wpList_appendB (.tmp 49) (.tmp 59) rfl rfl (.slice oa out.length oc) _ rfl hoA _ [d] rfl hsA (by simp; omega) ?_); (intro v5 w5 ho5 hk5 hb5 hz5); (have KE : Keep [] w w5 := (HK.out.trans kA (by simp)).trans hk5 (fun x hx => .inr (HN.out x (by simpa using hx)))); (have c05 := KE.cell c0 (by simp)); (have e15 := KE.cell HE1.out (by simp)))
            go_roundw
            case rel => exact ⟨out.length + 1, f', par, out ++ [d], by omega, by simp, rfl, by go_num, ho5, HR, KE, fun b hb => by
              rcases hb5 b hb with h | h
              · exact HN.out b h
              · rw [h]; have h1 := HK.out.size; have h2 := kA.size; omega⟩
            case measure => simp [intOf]; omega
    · obtain rfl : f = 0 := by omega
      have HR : Hid (ans = none) := HX.out
      go_wp2_with fail
      go_ret2
      rw [HR.out]
      exact ⟨_, rfl, OwnB.nil _, HK.out, fun b hb => by simp [Value.ownBlock] at hb⟩
end Go.Proofs.Ytpjebbhjagllgaa
