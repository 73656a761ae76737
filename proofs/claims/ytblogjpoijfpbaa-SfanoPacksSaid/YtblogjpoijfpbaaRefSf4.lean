/- The document's Pack of layer 6. -/
import Derived.Test.YtblogjpoijfpbaaRefSf
import Derived.Test.YtblogjpoijfpbaaSfPack
namespace Go.Proofs.Ytblogjpoijfpbaa
set_option linter.unusedVariables false
set_option linter.unusedSimpArgs false
open Go.ChangeShapes Go.WideShapes Go.ChangeAt Go.RowKit

def perr (zs : List Int) : Nat := if mayS zs then 0 else 2
def packS (zs : List Int) : List UInt8 := if mayS zs then packL (Ln zs) else []
theorem OwnB.one (w : World) (x : UInt8) : OwnB (w.alloc (.cells #[.int .u8 (x.toNat)] 5)) (.slice (some ⟨w.heap.size, 0, none⟩) 1 1) [x] := by
  refine ⟨rfl, .inr ⟨w.heap.size, 1, #[.int .u8 (x.toNat)], rfl, Nat.zero_le _, heap_alloc_new w _, Nat.le_refl _, by decide, rfl, rfl⟩⟩
theorem OwnB.drewN {w : World} {v : Value} {l : List UInt8} (h : OwnB w v l) (n : Nat) : OwnB (w.drewN n) v l := h.keep ((Keep.refl [] w).drewN _) (by simp)
theorem drop_two (L : List Nat) (i : Nat) (h : i + 1 < L.length) : L.drop i = len L i :: len L (i + 1) :: L.drop (i + 2) := by
  rw [List.drop_eq_getElem_cons (by omega), List.drop_eq_getElem_cons h, len_get L i (by omega), len_get L (i + 1) h]
theorem drop_last (L : List Nat) (i : Nat) (h : i + 1 = L.length) : L.drop i = [len L i] := by
  rw [List.drop_eq_getElem_cons (by omega), len_get L i (by omega), List.drop_of_length_le (by omega)]
theorem drop_one (L : List Nat) (i : Nat) (h : i + 1 < L.length) : L.drop (i + 1) = len L (i + 1) :: L.drop (i + 2) := by
  rw [List.drop_eq_getElem_cons h, len_get L (i + 1) h]
set_option maxRecDepth 100000 in
set_option maxHeartbeats 2000000 in
theorem sfpack_c (w : World) (v : Value) (zs : List Int) (h : Is .i64 w v zs) : Calls Try.prog 17 #[v] w fun e w' => ∃ v', e = .returned (.tuple #[v', .int .i64 (perr zs)]) ∧ Bs w' v' (packS zs) ∧ Keep [] w w' ∧ (∀ b, v'.ownBlock = some b → w.heap.size ≤ b) := by
  have HMY := Lib.hid (sfmay_c w v zs h)
  cases hm : mayS zs with
  | false =>
    have HP : Hid (perr zs = 2 ∧ packS zs = []) := by unfold Hid perr packS; simp [hm]
    rw [hm] at HMY
    obtain ⟨a, cap, rfl, hl⟩ := h.sh
    clear hm h
    go_enter Try.func17, Try.ntmps17
    go_wp2_with fail
    refine HMY.out.mono ?_; rintro e w1 ⟨rfl, m1, rfl⟩
    go_wp2_with fail
    go_ret2
    exact ⟨_, by rw [HP.out.1]; rfl, by rw [HP.out.2]; exact Bs.nil _, (Keep.refl _ _).drewN _, by simp [Value.ownBlock]⟩
  | true =>
    have HP : Hid (perr zs = 0 ∧ packS zs = packL (Ln zs)) := by unfold Hid perr packS; simp [hm]
    rw [hm] at HMY
    have HG : Hid (∀ w' (k : Keep [] w w') i (hi : i < zs.length), 1 ≤ len (Ln zs) i ∧ len (Ln zs) i ≤ 16 ∧ ∃ b off cap, v = .slice (some ⟨b, off, none⟩) zs.length cap ∧ w'.cell? ⟨b, off + i, none⟩ = some (.int .i64 (len (Ln zs) i : Nat))) := by
      intro w' k i hi
      obtain ⟨g1, g2, g3⟩ := mayS_get hm i hi
      refine ⟨g2, g3, ?_⟩
      rw [← g1]
      exact (h.keep k (by simp)).at i hi
    have h256 := ((mayS_iff zs).1 hm).2.1
    have h1 := ((mayS_iff zs).1 hm).1
    have hN := Ln_length zs
    obtain ⟨a, cap, rfl, hl⟩ := h.sh
    generalize Ln zs = L at *
    have hpl := pk_len L 1
    have hpp : 0 < (pk 1 L).length := pk_pos L (by intro e; rw [e] at hN; simp at hN; omega) 1
    rw [hN] at hpl
    have HN := Lib.hid hN
    clear hm h hN
    go_enter Try.func17, Try.ntmps17
    go_wp2_with fail
    refine HMY.out.mono ?_; rintro e w1 ⟨rfl, m1, rfl⟩
    go_wp2_with fail
    go_loopw [4, 5, 6] (fun rv nv iv wr => ∃ (i n : Nat) (out : List UInt8) (aw : Option Addr) (cw : Nat), i ≤ zs.length ∧ 1 ≤ n ∧ n ≤ 16 ∧ iv = .int .i64 i ∧ nv = .int .i64 n ∧ rv = .slice aw out.length cw ∧ OwnB wr (.slice aw out.length cw) out ∧ Hid (out ++ pk n (L.drop i) = pk 1 L) ∧ Keep [] w wr ∧ Hid (∀ b, (Value.slice aw out.length cw).ownBlock = some b → w.heap.size ≤ b)) (fun _ _ iv _ => zs.length - (intOf iv).toNat)
    case atStart => exact ⟨0, 1, [], none, 0, by omega, by omega, by omega, rfl, rfl, rfl, OwnB.nil _, rfl, (Keep.refl _ _).drewN _, fun b hb => by simp [Value.ownBlock] at hb⟩
    case round =>
      obtain ⟨i, n, out, aw, cw, hi, hn1, hn2, rfl, rfl, rfl, hO, HE, hK, HB⟩ := hrel
      by_cases hlt : i < zs.length
      · obtain ⟨g1, g2, b, off, cap', hv, ei⟩ := HG.out _ hK i hlt
        simp only [Value.slice.injEq] at hv
        obtain ⟨hv1, hv2, rfl⟩ := hv
        clear hv2
        subst hv1
        have HB8 : Hid (((UInt8.ofNat ((n - 1) * 16 + len L i - 1)).toNat : Int) = ((n : Int) - 1) * 16 + len L i - 1) := by
          unfold Hid; rw [UInt8.toNat_ofNat', Nat.mod_eq_of_lt (by omega)]; omega
        have HX : Hid ((i + 1 < zs.length ∧ (len L (i + 1) = len L i ∧ n < 16) ∧ out ++ pk (n + 1) (L.drop (i + 1)) = pk 1 L) ∨
            (out ++ UInt8.ofNat ((n - 1) * 16 + len L i - 1) :: pk 1 (L.drop (i + 1)) = pk 1 L ∧ ¬ (i + 1 < zs.length ∧ len L (i + 1) = len L i ∧ n < 16))) := by
          have HE2 := HE.out
          by_cases hlt2 : i + 1 < zs.length
          · rw [drop_two L i (by rw [HN.out]; exact hlt2)] at HE2
            by_cases hc : len L (i + 1) = len L i ∧ n < 16
            · rw [pk_more n _ _ _ hc, ← drop_one L i (by rw [HN.out]; exact hlt2)] at HE2
              exact .inl ⟨hlt2, hc, HE2⟩
            · rw [pk_end n _ _ _ hc, ← drop_one L i (by rw [HN.out]; exact hlt2)] at HE2
              exact .inr ⟨HE2, fun h => hc h.2⟩
          · rw [drop_last L i (by rw [HN.out]; omega), pk_one] at HE2
            refine .inr ⟨?_, fun h => hlt2 h.1⟩
            rw [List.drop_of_length_le (by rw [HN.out]; omega)]; exact HE2
        clear HE
        rcases HX.out with ⟨hlt2, ⟨hyx, hn16⟩, HE2⟩ | ⟨HE2, hno⟩
        · obtain ⟨k1, k2, b', off', cap'', hv, ek⟩ := HG.out _ hK (i + 1) hlt2
          simp only [Value.slice.injEq] at hv
          obtain ⟨hv1, hv2, rfl⟩ := hv
          clear hv2
          injection hv1 with hv1
          injection hv1 with hv1 hv2 _
          subst hv1 hv2
          have HE3 := Lib.hid HE2
          have q1 : (((len L (i + 1) : Nat) : Int) == ((len L i : Nat) : Int)) = true := by simp; omega
          have q2 : decide ((n : Int) < 16) = true := by simp; omega
          have q0 : decide ((i : Int) + 1 < zs.length) = true := by simp; omega
          generalize len L (i + 1) = y at *
          generalize len L i = x at *
          clear HE2 HB8 HX hyx
          go_wp2_with fail
          go_quiet (fail)
          go_wp2_with fail
          go_roundw
          case rel => exact ⟨i + 1, n + 1, out, aw, cw, by omega, by omega, by omega, by go_num, by go_num, rfl, hO.drewN _, HE3, hK.drewN _, HB⟩
          case measure => simp [intOf]; omega
        · generalize hcc : UInt8.ofNat ((n - 1) * 16 + len L i - 1) = c at *
          have HE3 := Lib.hid HE2
          have hc256 := c.toNat_lt
          have hol : out.length ≤ zs.length := by
            have := congrArg List.length HE2
            simp at this; omega
          have D : Hid (decide ((i : Int) + 1 < zs.length) = false ∨ (i + 1 < zs.length ∧ decide ((i : Int) + 1 < zs.length) = true ∧ ∃ y : Nat, wr.cell? ⟨b, off + (i + 1), none⟩ = some (.int .i64 y) ∧
              (((y : Int) == ((len L i : Nat) : Int)) = false ∨ (((y : Int) == ((len L i : Nat) : Int)) = true ∧ decide ((n : Int) < 16) = false)))) := by
            by_cases hlt2 : i + 1 < zs.length
            · refine .inr ⟨hlt2, by simp; omega, len L (i + 1), ?_, ?_⟩
              · obtain ⟨k1, k2, b', off', cap'', hv, ek⟩ := HG.out _ hK (i + 1) hlt2
                simp only [Value.slice.injEq] at hv
                obtain ⟨hv1, hv2, rfl⟩ := hv
                injection hv1 with hv1
                injection hv1 with hv1 hv2 _
                subst hv1 hv2
                exact ek
              · by_cases hyx : len L (i + 1) = len L i
                · exact .inr ⟨by simp; omega, by simp; omega⟩
                · exact .inl (by simp; omega)
            · exact .inl (by simp; omega)
          generalize len L i = x at *
          clear HE2 HX hno hcc
          rcases D.out with q0 | ⟨hlt2, q0, y, ey, q1 | ⟨q1, q2⟩⟩
          all_goals
            clear D
            go_wp2_with fail
            go_quiet (fail)
            have e8 : (((n : Int) - 1) * 16 + x - 1) = c.toNat := HB8.out.symm
            have hO2 := (hO.drewN nq).keep ((Keep.refl [] (wr.drewN nq)).alloc (.cells #[.int .u8 (c.toNat)] 5)) (by simp)
            have hS := Bs.new1 (wr.drewN nq) c
            have hK2 := (hK.drewN nq).alloc (.cells #[.int .u8 (c.toNat)] 5)
            have hsz : (wr.drewN nq).heap.size = wr.heap.size := rfl
            go_wp2_with (at_builtin; (refine wpList_appendB (.tmp 39) (.tmp 50) rfl rfl (.slice aw out.length cw) out rfl hO2 _ [c] rfl hS (by simp; omega) ?_); (intro v3 w3 ho3 hk3 hb3 hz3))
            obtain ⟨a3, n3, c3, rfl⟩ := ho3.shape
            obtain rfl : n3 = (out ++ [c]).length := by obtain ⟨_, _, e, _⟩ := ho3.bs; simp only [Value.slice.injEq] at e; exact e.2.1
            have hk4 : Keep [] w w3 := hK2.trans hk3 (fun b hb => .inr (HB.out b (by simpa using hb)))
            have hb4 : Hid (∀ b, (Value.slice a3 (out ++ [c]).length c3).ownBlock = some b → w.heap.size ≤ b) := by
              intro b hb
              rcases hb3 b hb with h | h
              · exact HB.out b h
              · rw [h]; exact hK2.size
            have HE4 : Hid ((out ++ [c]) ++ pk 1 (L.drop (i + 1)) = pk 1 L) := by unfold Hid; rw [← HE3.out]; simp
            clear hO2 hS hK2 hsz hk3 hb3 hz3 hO hK HE3
            go_wp2_with fail
            go_roundw
            case rel => exact ⟨i + 1, 1, out ++ [c], a3, c3, by omega, by omega, by omega, by go_num, rfl, rfl, ho3, HE4, hk4, hb4⟩
            case measure => simp [intOf]; omega
      · obtain rfl : i = zs.length := by omega
        have HE2 := HE.out
        rw [List.drop_of_length_le (by rw [HN.out]; omega)] at HE2
        obtain rfl : out = pk 1 L := by rw [← HE2]; simp [pk]
        have HB8 : Hid (((UInt8.ofNat ((pk 1 L).length - 1)).toNat : Int) = ((pk 1 L).length : Int) - 1) := by
          unfold Hid; rw [UInt8.toNat_ofNat', Nat.mod_eq_of_lt (by omega)]; omega
        have HPK : Hid (packL L = [UInt8.ofNat ((pk 1 L).length - 1)] ++ pk 1 L) := rfl
        generalize UInt8.ofNat ((pk 1 L).length - 1) = c at *
        generalize pk 1 L = out at *
        have hc256 := c.toNat_lt
        have e8 : ((out.length : Int) - 1) = c.toNat := HB8.out.symm
        have hA := OwnB.one wr c
        have hS := hO.bs.keep ((Keep.refl [] wr).alloc (.cells #[.int .u8 (c.toNat)] 5)) (by simp)
        have hK2 := hK.alloc (.cells #[.int .u8 (c.toNat)] 5)
        have hsw := hK.size
        clear HE HE2 HG
        go_wp2_with (at_builtin; (refine wpList_appendB (.tmp 56) (.tmp 57) rfl rfl (.slice (some ⟨wr.heap.size, 0, none⟩) 1 1) [c] rfl hA (.slice aw out.length cw) out rfl hS (by simp; omega) ?_); (intro v3 w3 ho3 hk3 hb3 hz3))
        go_wp2_with fail
        go_ret2
        refine ⟨_, by rw [HP.out.1]; rfl, by rw [HP.out.2, HPK.out]; exact ho3.bs, hK2.trans hk3 (fun b hb => .inr (by simp [Value.ownBlock] at hb; omega)), fun b hb => ?_⟩
        rcases hb3 b hb with h | h
        · simp [Value.ownBlock] at h; omega
        · rw [h]; simp; omega
end Go.Proofs.Ytblogjpoijfpbaa
