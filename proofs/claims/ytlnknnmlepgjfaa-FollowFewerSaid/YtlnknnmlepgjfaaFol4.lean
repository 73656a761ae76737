/- Contract of follow's ranked. No condition beyond each theorem's own premises. -/
import Derived.Test.YtlnknnmlepgjfaaFol3
namespace Go.Proofs.Ytlnknnmlepgjfaa
open Sg
set_option linter.unusedVariables false
set_option linter.unusedSimpArgs false
set_option maxRecDepth 100000
open Go.ChangeShapes Go.WideShapes Go.ChangeAt Go.RowKit

set_option maxHeartbeats 4000000 in
theorem ranked_c (w : World) (g o : Nat) (n : Nat → Nat) (hc : ∀ x, x < 256 → w.cell? ⟨g, o + x, none⟩ = some (.int .i64 (n x))) : Calls Try.prog 18 #[.pointer (some ⟨g, o, none⟩)] w fun e w' => ∃ v R, e = .returned v ∧ Gs ESl w' v R ∧ Rk n R ∧ Keep [] w w' := by
  have HC := Lib.hid (fun w' (k : Keep [] w w') x hx => k.cell (hc x hx) (by simp))
  clear hc
  go_enter Try.func18, Try.ntmps18
  go_wp2_with fail
  go_loopw [3, 7] (fun lv i wr => ∃ (k : Nat), k ≤ 256 ∧ i = .int .i64 k ∧ Hid (OwnG ESl wr lv (sn n k)) ∧ Hid (Keep [] w wr) ∧ Hid (∀ b, lv.ownBlock = some b → w.heap.size ≤ b)) (fun _ i _ => 256 - (intOf i).toNat)
  case atStart => exact ⟨0, by omega, rfl, OwnG.nil _ _, Keep.refl _ _, by simp [Hid, Value.ownBlock]⟩
  case round =>
    obtain ⟨k, hk, rfl, HO, HK, HB⟩ := hrel
    by_cases hlt : k < 256
    · have z1 : (k : Int) < 256 := by omega
      have hcell := HC.out wr HK.out k hlt
      have hku : IntKind.u8.wrap (k : Int) = k := by rw [IntKind.wrap_u8']; omega
      have hs1 : IntKind.i64.wrap ((k : Int) + 1) = ((k + 1 : Nat) : Int) := by rw [IntKind.wrap_i64]; omega
      have hst : sn n (k + 1) = if 0 < n k then sn n k ++ [(UInt8.ofNat k, n k)] else sn n k := rfl
      have hln := sn_len n k
      have hT : (UInt8.ofNat k).toNat = k := by rw [UInt8.toNat_ofNat']; exact Nat.mod_eq_of_lt (by omega)
      generalize n k = nk at hcell hst
      by_cases h0 : 0 < nk
      · have h0z : (nk : Int) > 0 := by omega
        have h0d : decide ((nk : Int) > 0) = true := decide_eq_true h0z
        rw [if_pos h0] at hst
        have HST := Lib.hid hst
        have HT := Lib.hid hT
        obtain ⟨xs, hxs⟩ : ∃ xs, sn n k = xs := ⟨_, rfl⟩
        rw [hxs] at HO HST hln
        have HO2 := Lib.hid (fun m => HO.out.keep (S := []) ((Keep.refl [] wr).drewN m) (by simp))
        have HK2 := Lib.hid (fun m => HK.out.drewN m)
        clear hst hT h0 hxs HO HK
        go_wp2_with fail
        go_quiet (fail)
        have HO := Lib.hid (HO2.out nq)
        have HK := Lib.hid (HK2.out nq)
        clear HO2 HK2 hcell
        generalize wr.drewN nq = w2 at HO HK ⊢
        have HO3 : Hid (OwnG ESl (w2.alloc (.cells #[.int .u8 k, .int .i64 nk] 64)) u3 xs) := HO.out.keep ((Keep.refl [] w2).alloc _) (by simp)
        have HL3 : Hid (Gs ESl (w2.alloc (.cells #[.int .u8 k, .int .i64 nk] 64)) (.slice (some ⟨w2.heap.size, 0, none⟩) 1 1) [(UInt8.ofNat k, nk)]) := by
          refine Gs.lit ESlg [(UInt8.ofNat k, nk)] 1 (Blk.new w2 #[.int .u8 k, .int .i64 nk] 64) ?_ rfl (by unfold maxLen; omega)
          show _ = [Value.int .u8 (UInt8.ofNat k).toNat, Value.int .i64 nk]
          rw [HT.out]
        go_wp2_with (at_builtin; (refine wpList_appendG ESlg (.tmp 15) (.tmp 20) rfl rfl u3 xs rfl HO3.out _ [(UInt8.ofNat k, nk)] rfl HL3.out (by simp; omega) ?_); (intro v3 w3 ho3 hk3 hb3))
        have HO4 : Hid (OwnG ESl w3 v3 (sn n (k + 1))) := by unfold Hid; rw [HST.out]; exact ho3
        have HK4 : Hid (Keep [] w w3) := (HK.out.alloc _).trans hk3 (fun x hx => .inr (HB.out x (by simpa using hx)))
        have HB4 : Hid (∀ b, v3.ownBlock = some b → w.heap.size ≤ b) := fun b hb => by
          rcases hb3 b hb with h | h
          · exact HB.out b h
          · have := HK.out.size; simp only [World.size_alloc] at h; omega
        clear ho3 hk3 hb3 HO HO3 HL3 HST HB HK
        go_wp2_with fail
        go_roundw
        case rel => exact ⟨k + 1, by omega, rfl, HO4, HK4, HB4⟩
        case measure => simp [intOf]; omega
      · have h0z : ¬ (nk : Int) > 0 := by omega
        have h0d : decide ((nk : Int) > 0) = false := decide_eq_false h0z
        rw [if_neg h0] at hst
        have HO2 : Hid (∀ m, OwnG ESl (wr.drewN m) u3 (sn n (k + 1))) := fun m => by rw [hst]; exact HO.out.keep (S := []) ((Keep.refl [] wr).drewN m) (by simp)
        have HK2 := Lib.hid (fun m => HK.out.drewN m)
        clear hst hT h0 HO HK hln
        go_wp2_with fail
        go_quiet (fail)
        have HO := Lib.hid (HO2.out nq)
        have HK := Lib.hid (HK2.out nq)
        clear HO2 HK2 hcell
        generalize wr.drewN nq = w2 at HO HK ⊢
        go_wp2_with fail
        go_roundw
        case rel => exact ⟨k + 1, by omega, rfl, HO, HK, HB⟩
        case measure => simp [intOf]; omega
    · obtain rfl : k = 256 := by omega
      rcases HO.out.shape with ⟨rfl, he⟩ | ⟨g1, cp, rfl, hcp, hm⟩
      · have HS := Lib.hid (fun w => sortstable_nil (.func (.func 27) #[] #[]) w)
        have HR : Hid (Rk n []) := Rk.of (by rw [he]) (fun p q h1 h2 h3 => by simp at h3)
        clear he
        go_wp2_with fail
        refine (HS.out _).mono ?_; rintro e w2 ⟨rfl, k2⟩
        have HK2 : Hid (Keep [] w w2) := HK.out.trans k2 (by simp)
        clear k2
        go_wp2_with fail
        go_ret
        exact ⟨_, [], rfl, Gs.nil _ _, HR.out, HK2.out⟩
      · have hln := sn_len n 256
        have HS := Lib.hid (sortstable_c 27 #[] (fun _ => True) kcF keyF kcF_key wr g1 (sn n 256).length cp (sn n 256) HO.out (sn_sta n _ rfl) (cmpseen_c wr g1) (fun _ _ => trivial) (by omega))
        have hg1 : w.heap.size ≤ g1 := HB.out g1 rfl
        clear hcp hm hln
        go_wp2_with fail
        refine HS.out.mono ?_; rintro e w2 ⟨rfl, R, hO, k2, hp, hs⟩
        have hl := hO.ln
        have HR : Hid (Rk n R) := Rk.of hp (by rw [← hl]; exact hs)
        have HG : Hid (Gs ESl w2 (.slice (some ⟨g1, 0, none⟩) (sn n 256).length cp) R) := hO.gs
        have HK2 : Hid (Keep [] w w2) := HK.out.trans k2 (fun x hx => by simp at hx; subst hx; exact .inr hg1)
        clear hO k2 hp hs hl HS HO
        go_wp2_with fail
        go_ret
        exact ⟨_, R, rfl, HG.out, HR.out, HK2.out⟩
end Go.Proofs.Ytlnknnmlepgjfaa
