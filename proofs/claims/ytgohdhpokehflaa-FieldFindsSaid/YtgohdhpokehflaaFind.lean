/- Contract of field.Find and of the document's Find. -/
import Derived.Test.YtgohdhpokehflaaLastIdx
import Derived.Test.YtgohdhpokehflaaRow
import Derived.Test.YtgohdhpokehflaaRefFld
namespace Go.Proofs.Ytgohdhpokehflaa
set_option linter.unusedVariables false
set_option linter.unusedSimpArgs false
open Go.ChangeShapes Go.WideShapes Go.ChangeAt Go.RowKit

/-- the last place, from at most, at which d stands in l -/
def lastAt (l d : List UInt8) (from_ : Int) : Int := if from_ < 0 then -1 else if l.length < d.length then -1 else Lib.lastOcc l d (min from_.toNat (l.length - d.length) + 1)
theorem occ_take (l d : List UInt8) (n k : Nat) (hk : k + d.length ≤ n) (hn : n ≤ l.length) : Lib.occAt (l.take n) d k = Lib.occAt l d k := by
  rw [Lib.RK.occAt_win _ _ _ (by rw [List.length_take]; omega), Lib.RK.occAt_win _ _ _ (by omega)]
  unfold Lib.RK.win
  rw [List.drop_take, List.take_take, Nat.min_eq_left (by omega)]
theorem lastOcc_take (l d : List UInt8) (n : Nat) (hn : n ≤ l.length) : ∀ k, k + d.length ≤ n + 1 → Lib.lastOcc (l.take n) d k = Lib.lastOcc l d k
  | 0, _ => rfl
  | k + 1, h => by
    simp only [Lib.lastOcc]
    rw [occ_take l d n k (by omega) hn, lastOcc_take l d n hn k (by omega)]
theorem find_c (w : World) (v : Value) (l : List UInt8) (x : Nat) (n : Int) (hl : l.length ≤ 140737488355328) (hx : x < 4294967296) (h : Bs w v l) (hn : n ≤ 9223372036854775807) : Calls Try.prog 32 #[v, .int .u32 x, .int .i64 n] w fun e w' => e = .returned (.int .i64 (lastAt l (lb 4 x) n)) ∧ Keep [] w w' := by
  by_cases h0 : n < 0
  · have hf : lastAt l (lb 4 x) n = -1 := by unfold lastAt; rw [if_pos h0]
    have HF := Lib.hid hf; clear hf
    go_enter Try.func32, Try.ntmps32
    go_wp2
    go_ret
    rw [HF.out]
    exact ⟨rfl, Keep.refl _ _⟩
  · obtain ⟨m, rfl⟩ : ∃ m : Nat, n = m := ⟨n.toNat, by omega⟩
    obtain ⟨e, he⟩ : ∃ e : Nat, e = if l.length < 4 then l.length else min m (l.length - 4) + 4 := ⟨_, rfl⟩
    have hel : e ≤ l.length := by rw [he]; split <;> omega
    have heI : min (m : Int) ((l.length : Int) - 4) + 4 = e := by rw [he]; split <;> omega
    have heN : (min (m : Int) ((l.length : Int) - 4) + 4).toNat = e := by rw [heI]; rfl
    have hf : lastAt l (lb 4 x) m = Lib.lastIndex (l.take e) (lb 4 x) := by
      unfold lastAt Lib.lastIndex
      rw [if_neg h0, lb_length, List.length_take, Nat.min_eq_left hel]
      by_cases h4 : l.length < 4
      · rw [if_pos h4, if_neg (by rw [he, if_pos h4]; omega)]
      · rw [if_neg h4, if_pos (by rw [he, if_neg h4]; omega)]
        rw [lastOcc_take l _ e hel _ (by rw [lb_length]; rw [he, if_neg h4]; omega)]
        congr 1
        rw [he, if_neg h4]; simp
    have HF := Lib.hid hf; have HE := Lib.hid heN
    clear hf heI heN he
    obtain ⟨a1, c1, rfl, k1, k2⟩ := h.shape
    unfold maxLen at k2
    go_enter Try.func32, Try.ntmps32
    go_wp2_with fail
    refine (roNew_c w).mono ?_; rintro e1 w1 ⟨r, rfl, hr, hk1, hrw⟩
    go_wp2_with fail
    refine (roU32_c w1 r _ _ x hx hr (by simp)).mono ?_; rintro e1 w2 ⟨v2, rfl, hr2, hk2, hv2⟩
    have K2 : Keep [] w w2 := hk1.trans hk2 (by intro b hb; right; simp [Value.ownBlock] at hb; omega)
    go_wp2_with fail
    refine (roBytes_c w2 r v2 _ hr2 (by simp [WS.put, lb_length])).mono ?_; rintro e1 w3 ⟨v3, rfl, ho3, hk3, _⟩
    have K3 : Keep [] w w3 := K2.trans hk3 (by simp)
    have ho4 : OwnB w3 v3 (lb 4 x) := ho3
    have hb3 := h.keep K3 (by simp)
    clear hr hk1 hr2 hk2 hv2 hk3 ho3 K2
    have hd4 := lb_length 4 x
    have hL := Lib.hid (fun vp hp => lastindex_c w3 vp v3 (l.take e) (lb 4 x) (by rw [List.length_take]; omega) hp ho4.bs (by rw [lb_length]; decide))
    have hbp := hb3.pre e hel
    obtain ⟨a3, n3, c3, rfl⟩ := ho4.shape
    have hn3 : n3 = 4 := by
      obtain ⟨_, _, hs, _⟩ := ho4.bs
      simp only [Value.slice.injEq] at hs
      rw [hs.2.1, hd4]
    subst hn3
    have HD4 := Lib.hid hd4; clear hd4
    go_wp2_with fail
    rw [HE.out]
    refine (hL.out _ hbp).mono ?_; rintro e1 w4 ⟨rfl, m2, rfl⟩
    go_wp2_with fail
    go_ret
    rw [HF.out]
    exact ⟨rfl, K3.drewN m2⟩
theorem lastAt_end (l d : List UInt8) (hd : d.length = 4) (n : Int) (k : Nat) (hk : k ≤ l.length) (hkn : (k : Int) ≤ max 0 (n + 1)) (hk3 : k = 0 ∨ k + 3 ≤ l.length) (hend : ¬ k + 4 ≤ l.length ∨ ¬ (k : Int) ≤ n) : Lib.lastOcc l d k = lastAt l d n := by
  unfold lastAt
  by_cases h0 : n < 0
  · rw [if_pos h0]
    obtain rfl : k = 0 := by omega
    rfl
  · rw [if_neg h0, hd]
    by_cases h4 : l.length < 4
    · rw [if_pos h4]
      obtain rfl : k = 0 := by omega
      rfl
    · rw [if_neg h4]
      congr 1
      omega
theorem findref_c (w : World) (v : Value) (l : List UInt8) (x : Nat) (n : Int) (hl : l.length ≤ 140737488355328) (hx : x < 4294967296) (h : Bs w v l) (hn : n ≤ 9223372036854775807) : Calls Try.prog 33 #[v, .int .u32 x, .int .i64 n] w fun e w' => e = .returned (.int .i64 (lastAt l (lb 4 x) n)) ∧ ∃ k, w' = w.drewN k := by
  obtain ⟨a1, c1, rfl, k1, k2⟩ := h.shape
  unfold maxLen at k2
  go_enter Try.func33, Try.ntmps33
  go_wp2_with fail
  go_loopw [7, 8] (fun t i wr => ∃ k : Nat, k ≤ l.length ∧ (k : Int) ≤ max 0 (n + 1) ∧ (k = 0 ∨ k + 3 ≤ l.length) ∧ i = .int .i64 k ∧ t = .int .i64 (Lib.lastOcc l (lb 4 x) k) ∧ ∃ q, wr = w.drewN q) (fun _ i _ => l.length - (intOf i).toNat)
  case atStart => exact ⟨0, by omega, by omega, by omega, rfl, rfl, 0, rfl⟩
  case round =>
    obtain ⟨k, hk, hkn, hk3, rfl, rfl, q, rfl⟩ := hrel
    by_cases hlt : k + 4 ≤ l.length
    · by_cases hlt2 : (k : Int) ≤ n
      · have hb := h.keep ((Keep.refl [] w).drewN q) (by simp)
        obtain ⟨vj, hsl, hbj, _⟩ := h.cut k (k + 4) (k : Int) ((k : Int) + 4) rfl (by omega) (by omega) hlt
        rw [show k + 4 - k = 4 by omega] at hbj
        have hbj2 := hbj.keep ((Keep.refl [] w).drewN q) (by simp)
        have h4 : (k : Int) + 4 ≤ l.length := by omega
        have hle : ((l.drop k).take 4).length = 4 := by rw [List.length_take, List.length_drop]; omega
        have hd4 := lb_length 4 x
        have hnum := Lib.hid (num_c (w.drewN q) vj _ (by rw [hle]; decide) hbj2)
        have hle2 : le (lb 4 x) = x := by rw [le_lb]; omega
        have hocc : (le ((l.drop k).take 4) = x ∧ Lib.lastOcc l (lb 4 x) (k + 1) = k) ∨ (le ((l.drop k).take 4) ≠ x ∧ Lib.lastOcc l (lb 4 x) (k + 1) = Lib.lastOcc l (lb 4 x) k) := by
          by_cases he : (l.drop k).take 4 = lb 4 x
          · left; exact ⟨by rw [he, hle2], rk_hit l _ k (by rw [hd4]; exact hlt) (by rw [hd4]; exact he)⟩
          · right; refine ⟨fun e => he (le_inj _ _ (by rw [hle, hd4]) (by rw [e, hle2])), rk_miss l _ k (by rw [hd4]; exact hlt) (by rw [hd4]; exact he)⟩
        generalize le ((l.drop k).take 4) = y at hnum hocc
        clear hbj hbj2 hle hd4 hle2 hb
        rcases hocc with ⟨rfl, ho⟩ | ⟨hne, ho⟩
        · have HO := Lib.hid ho; clear ho
          go_wp2_with fail
          refine hnum.out.mono ?_; rintro e w' ⟨rfl, m, rfl⟩
          go_wp2_with fail
          go_roundw
          case rel => exact ⟨k + 1, by omega, by omega, by omega, by go_num, by rw [HO.out], _, rfl⟩
          case measure => simp [intOf]; omega
        · have HO := Lib.hid ho; clear ho
          have hyx : ((y : Int) == x) = false := beq_eq_false_iff_ne.2 (by omega)
          go_wp2_with fail
          refine hnum.out.mono ?_; rintro e w' ⟨rfl, m, rfl⟩
          go_wp2_with fail
          go_roundw
          case rel => exact ⟨k + 1, by omega, by omega, by omega, by go_num, by rw [HO.out], _, rfl⟩
          case measure => simp [intOf]; omega
      · have HE := Lib.hid (lastAt_end l (lb 4 x) (lb_length _ _) n k hk hkn hk3 (.inr hlt2))
        have h4 : (k : Int) + 4 ≤ l.length := by omega
        go_wp2
        go_ret
        rw [← HE.out]
        exact ⟨rfl, _, rfl⟩
    · have HE := Lib.hid (lastAt_end l (lb 4 x) (lb_length _ _) n k hk hkn hk3 (.inl hlt))
      have h4 : ¬ (k : Int) + 4 ≤ l.length := by omega
      go_wp2
      go_ret
      rw [← HE.out]
      exact ⟨rfl, _, rfl⟩
end Go.Proofs.Ytgohdhpokehflaa
