/- The document's words of lengths: the walk of Words; the longest; the same words. -/
import Derived.Test.YtdhdfedbhanijaaRefCan
namespace Go.Proofs.Ytdhdfedbhanijaa
set_option linter.unusedVariables false
set_option linter.unusedSimpArgs false
open Go.ChangeShapes Go.WideShapes Go.ChangeAt Go.RowKit

theorem turn_code (x n : Nat) (h : n ≤ 16) : turn x (n : Int) = tr n x 0 := by
  unfold turn
  rw [show (max 0 (min (n : Int) 32)).toNat = n by omega]
/-- where the words stand: the last one and its length -/
def At (A y m n : Nat) : Prop := (m = 0 ∧ y = 0 ∧ A = 0) ∨ (0 < m ∧ m ≤ n ∧ (y + 1) * 2 ^ (16 - m) = A)
theorem At.next {A y m n : Nat} (h : At A y m n) : At A y m (n + 1) := by
  rcases h with h | ⟨a, b, c⟩
  · exact .inl h
  · exact .inr ⟨a, by omega, c⟩
theorem double (y m n : Nat) (h : m < n) (hn : n ≤ 16) : y * 2 * 2 ^ (16 - (m + 1)) = y * 2 ^ (16 - m) := by
  rw [show 16 - m = (16 - (m + 1)) + 1 by omega, Nat.pow_succ', Nat.mul_assoc]
theorem le_of_mul {y q A : Nat} (h : y * q = A) (hq : 0 < q) (hA : A ≤ 65536) : y ≤ 65536 := by
  have : y * 1 ≤ y * q := Nat.mul_le_mul_left y hq
  omega
set_option maxRecDepth 100000 in
set_option maxHeartbeats 2000000 in
theorem refwords_ok (w : World) (v : Value) (zs : List Int) (h : Is .i64 w v zs) (h0 : werr zs = 0) : Calls Try.prog 11 #[v] w fun e w' => ∃ v', e = .returned (.tuple #[v', .int .i64 0]) ∧ Cds w' v' (Ln zs) ∧ Keep [] w w' ∧ ∀ b, v'.ownBlock = some b → w.heap.size ≤ b := by
  obtain ⟨hm, hwt⟩ := werr_ok h0
  have hL := may_Ln hm
  have hlen : zs.length ≤ 4096 := ((may_iff zs).1 hm).1
  have HG := Lib.hid (fun i hi => may_get hm i hi)
  have n5 : (((chk zs : Nat) : Int) == 5) = false := by
    by_cases e : chk zs = 5
    · unfold werr at h0; rw [if_pos e] at h0; omega
    · simp; omega
  have n2 : (((chk zs : Nat) : Int) == 2) = false := by
    by_cases e : chk zs = 2
    · unfold werr at h0; rw [e] at h0; simp at h0
    · simp; omega
  have hN := Ln_length zs
  obtain ⟨a, cap, rfl, _, _⟩ := h.shape
  have HC := Lib.hid (fun w' (k : Keep [] w w') => refcheck_c w' _ zs (h.keep k (by simp)))
  have hmk := fun w' => run_make_codes w' zs.length hlen
  have HI := Lib.hid (fun i hi => h.at i hi)
  have HL := Lib.hid hL
  generalize chk zs = ck at n5 n2 HC
  generalize Ln zs = L at hL hwt HG hN HL ⊢
  have HN := Lib.hid hN; clear hN hL hm h0 h
  go_enter Try.func11, Try.ntmps11
  go_wp2_with fail
  refine (HC.out _ (Keep.refl _ _)).mono ?_; rintro e w1 ⟨rfl, m1, rfl⟩
  go_wp2_with fail
  refine (HC.out _ ((Keep.refl _ _).drewN _)).mono ?_; rintro e w1 ⟨rfl, m2, rfl⟩
  go_wp2_with fail
  go_loopw [5, 6, 7] (fun x m n wr => ∃ (y l k : Nat) (cs : Array Value), 1 ≤ k ∧ k ≤ 17 ∧ n = .int .i64 k ∧ m = .int .i64 l ∧ x = .int .u32 y ∧ Hid (At (upTo L k 0) y l k) ∧ Hid (cs.size = zs.length * 2) ∧ Hid (CsAt cs L k 0) ∧ Blk wr w.heap.size cs 56 ∧ Keep [] w wr) (fun _ _ n _ => 17 - (intOf n).toNat)
  case atStart =>
    refine ⟨0, 0, 1, _, by omega, by omega, rfl, rfl, rfl, .inl ⟨rfl, rfl, by simp [upTo, acc]⟩, ?_, ?_, Blk.new _ _ _, ((Keep.refl [] w).drewN _).alloc _⟩
    · unfold Hid; rw [size_madeCells]
    · rw [← HN.out]; exact CsAt.made L
  case round =>
    obtain ⟨y, l, k, cs, hk1, hk2, rfl, rfl, rfl, HA, HS, HCs, hb, K⟩ := hrel
    by_cases hk : k ≤ 16
    · have hd16 : decide ((k : Int) ≤ 16) = true := by simp; omega
      go_wp2_with fail
      go_loopw [5, 6, 8] (fun x m n w2 => ∃ (y l i : Nat) (cs : Array Value), i ≤ zs.length ∧ n = .int .i64 i ∧ m = .int .i64 l ∧ x = .int .u32 y ∧ Hid (At (upTo L k i) y l k) ∧ Hid (cs.size = zs.length * 2) ∧ Hid (CsAt cs L k i) ∧ Blk w2 w.heap.size cs 56 ∧ Keep [] w w2) (fun _ _ n _ => zs.length - (intOf n).toNat)
      case atStart => exact ⟨y, l, 0, cs, by omega, rfl, rfl, rfl, HA, HS, HCs, hb, K⟩
      case round =>
        clear HA HS HCs hb K
        obtain ⟨y, l, i, cs, hi, rfl, rfl, rfl, HA, HS, HCs, hb, K⟩ := hrel
        by_cases hlt : i < zs.length
        · obtain ⟨b, off, cap', hv, e1⟩ := HI.out i hlt
          simp only [Value.slice.injEq] at hv
          obtain ⟨rfl, _, rfl⟩ := hv
          have e1 := K.cell e1 (by simp)
          obtain ⟨g1, g2⟩ := HG.out i hlt
          rw [g1] at e1
          clear g1
          by_cases hne : len L i = k
          · have hup := upTo_le L k i (by omega) hk HL.out
            have hlo : upTo L k i = wd L i * 2 ^ (16 - k) := by
              rw [upTo_lo L k i hne, ← lo_wd L i (by omega) g2, hne]
            have hq : 0 < 2 ^ (16 - k) := Nat.pow_pos (by decide)
            have htk := upTo_take L k i (by rw [HN.out]; exact hlt) hne
            have hcs := HCs.out.take (by rw [HS.out, HN.out]) (by rw [HN.out]; exact hlt) hne (by omega)
            have hcode : code L i = tr k (wd L i) 0 := by unfold code; rw [hne]
            have hnext : At (upTo L k (i + 1)) (wd L i) k k := .inr ⟨by omega, Nat.le_refl _, by rw [htk, hlo, Nat.add_mul, Nat.one_mul]⟩
            have HNX := Lib.hid hnext
            have HCO := Lib.hid hcode
            have HCS := Lib.hid hcs
            have HLO := Lib.hid hlo
            have e1' := e1
            rw [hne] at e1
            clear hlo htk hcs hcode hnext e1' hne HCs
            have HU : Hid (wd L i * 2 ^ (16 - k) ≤ 65536) := by unfold Hid; rw [← HLO.out]; exact Nat.le_trans hup hwt
            have hwl : wd L i ≤ 65536 := le_of_mul rfl hq HU.out
            clear hup
            by_cases hl0 : l = 0
            · obtain ⟨hy0, hA0⟩ : y = 0 ∧ upTo L k i = 0 := by
                rcases HA.out with ⟨_, b, c⟩ | ⟨b, _, _⟩
                · exact ⟨b, c⟩
                · omega
              have hw0 : wd L i * 2 ^ (16 - k) = 0 := by rw [← HLO.out]; exact hA0
              have HW0 := Lib.hid hw0
              subst hl0 hy0
              clear hw0 hA0 HA
              go_wp2_with fail
              go_loopw [5, 6] (fun x m w3 => ∃ (y l : Nat), 1 ≤ l ∧ l ≤ k ∧ m = .int .i64 l ∧ x = .int .u32 y ∧ y ≤ 65536 ∧ Hid (y * 2 ^ (16 - l) = wd L i * 2 ^ (16 - k)) ∧ ∃ n, w3 = wr.drewN n) (fun _ m _ => k - (intOf m).toNat)
              case atStart => exact ⟨0, k, by omega, by omega, rfl, rfl, by omega, by unfold Hid; rw [HW0.out]; simp, 0, rfl⟩
              case round =>
                obtain ⟨y, l, hl1, hl2, rfl, rfl, hy, HY, n3, rfl⟩ := hrel
                by_cases hlk : l < k
                · have hd := double y l k hlk hk
                  have hy2 : y * 2 ≤ 65536 := le_of_mul (hd.trans (HY.out)) (Nat.pow_pos (by decide)) HU.out
                  have HD : Hid (y * 2 * 2 ^ (16 - (l + 1)) = wd L i * 2 ^ (16 - k)) := hd.trans HY.out
                  clear hd
                  go_wp2_with fail
                  go_roundw
                  case rel => exact ⟨y * 2, l + 1, by omega, by omega, by go_num, by go_num, hy2, HD, _, rfl⟩
                  case measure => simp [intOf]; omega
                · obtain rfl : l = k := by omega
                  have hyw : y = wd L i := Nat.eq_of_mul_eq_mul_right (Nat.pow_pos (by decide)) HY.out
                  subst hyw
                  have ht := turn_code (wd L i) l hk
                  rw [← HCO.out] at ht
                  have HTC := Lib.hid (fun w4 => turnref_c (wd L i) (l : Int) w4 (by omega))
                  rw [ht] at HTC
                  clear ht HY
                  generalize wd L i = y at *
                  generalize code L i = cd at *
                  clear HU HCO HLO
                  have hb' := hb.drewN n3
                  have K' := K.drewN n3
                  generalize wr.drewN n3 = w5 at hb' K' ⊢
                  go_wp2_with fail
                  refine (HTC.out _).mono ?_; rintro e w6 ⟨rfl, rfl⟩
                  have s0 : i * 2 < cs.size := by rw [HS.out]; omega
                  have s1 : i * 2 + 1 < cs.size := by rw [HS.out]; omega
                  have c0 := hb'.cell (i * 2) _ (Array.getElem?_eq_getElem s0)
                  have c1 := hb'.cell (i * 2 + 1) _ (Array.getElem?_eq_getElem s1)
                  have f0 := hb'.free (i * 2)
                  have f1 := hb'.free (i * 2 + 1)
                  go_wp2_with fail
                  go_roundw
                  case rel => exact ⟨y, l, i + 1, _, by omega, by go_num, rfl, rfl, HNX, by unfold Hid; simpa using HS.out, HCS, (hb'.set (i * 2) _).set (i * 2 + 1) _, (K'.setCell (.inr (by simp)) _).setCell (.inr (by simp)) _⟩
                  case measure => simp [intOf]; omega
            · obtain ⟨hl1, hA0⟩ : l ≤ k ∧ (y + 1) * 2 ^ (16 - l) = upTo L k i := by
                rcases HA.out with ⟨b, _⟩ | ⟨_, b, c⟩
                · omega
                · exact ⟨b, c⟩
              have hw0 : (y + 1) * 2 ^ (16 - l) = wd L i * 2 ^ (16 - k) := hA0.trans HLO.out
              have hy1 : y + 1 ≤ 65536 := le_of_mul hw0 (Nat.pow_pos (by decide)) HU.out
              have HW0 := Lib.hid hw0
              clear hw0 hA0 HA
              go_wp2_with fail
              go_loopw [5, 6] (fun x m w3 => ∃ (y l : Nat), 1 ≤ l ∧ l ≤ k ∧ m = .int .i64 l ∧ x = .int .u32 y ∧ y ≤ 65536 ∧ Hid (y * 2 ^ (16 - l) = wd L i * 2 ^ (16 - k)) ∧ ∃ n, w3 = wr.drewN n) (fun _ m _ => k - (intOf m).toNat)
              case atStart => exact ⟨y + 1, l, by omega, hl1, rfl, by go_num, hy1, HW0, 0, rfl⟩
              case round =>
                obtain ⟨y, l, hl1, hl2, rfl, rfl, hy, HY, n3, rfl⟩ := hrel
                by_cases hlk : l < k
                · have hd := double y l k hlk hk
                  have hy2 : y * 2 ≤ 65536 := le_of_mul (hd.trans (HY.out)) (Nat.pow_pos (by decide)) HU.out
                  have HD : Hid (y * 2 * 2 ^ (16 - (l + 1)) = wd L i * 2 ^ (16 - k)) := hd.trans HY.out
                  clear hd
                  go_wp2_with fail
                  go_roundw
                  case rel => exact ⟨y * 2, l + 1, by omega, by omega, by go_num, by go_num, hy2, HD, _, rfl⟩
                  case measure => simp [intOf]; omega
                · obtain rfl : l = k := by omega
                  have hyw : y = wd L i := Nat.eq_of_mul_eq_mul_right (Nat.pow_pos (by decide)) HY.out
                  subst hyw
                  have ht := turn_code (wd L i) l hk
                  rw [← HCO.out] at ht
                  have HTC := Lib.hid (fun w4 => turnref_c (wd L i) (l : Int) w4 (by omega))
                  rw [ht] at HTC
                  clear ht HY
                  generalize wd L i = y at *
                  generalize code L i = cd at *
                  clear HU HCO HLO
                  have hb' := hb.drewN n3
                  have K' := K.drewN n3
                  generalize wr.drewN n3 = w5 at hb' K' ⊢
                  go_wp2_with fail
                  refine (HTC.out _).mono ?_; rintro e w6 ⟨rfl, rfl⟩
                  have s0 : i * 2 < cs.size := by rw [HS.out]; omega
                  have s1 : i * 2 + 1 < cs.size := by rw [HS.out]; omega
                  have c0 := hb'.cell (i * 2) _ (Array.getElem?_eq_getElem s0)
                  have c1 := hb'.cell (i * 2 + 1) _ (Array.getElem?_eq_getElem s1)
                  have f0 := hb'.free (i * 2)
                  have f1 := hb'.free (i * 2 + 1)
                  go_wp2_with fail
                  go_roundw
                  case rel => exact ⟨y, l, i + 1, _, by omega, by go_num, rfl, rfl, HNX, by unfold Hid; simpa using HS.out, HCS, (hb'.set (i * 2) _).set (i * 2 + 1) _, (K'.setCell (.inr (by simp)) _).setCell (.inr (by simp)) _⟩
                  case measure => simp [intOf]; omega
          · have HA2 : Hid (At (upTo L k (i + 1)) y l k) := by unfold Hid; rw [upTo_skip L k i (by rw [HN.out]; exact hlt) hne]; exact HA.out
            have HC2 : Hid (CsAt cs L k (i + 1)) := HCs.out.skip hne
            clear HA HCs
            go_wp2_with fail
            go_roundw
            case rel => exact ⟨y, l, i + 1, cs, by omega, by go_num, rfl, rfl, HA2, HS, HC2, hb, K⟩
            case measure => simp [intOf]; omega
        · obtain rfl : i = zs.length := by omega
          go_wp2_with fail
          go_roundw
          case rel =>
            refine ⟨y, l, k + 1, cs, by omega, by omega, by go_num, rfl, rfl, ?_, HS, ?_, hb, K⟩
            · have := HA.out; unfold Hid; rw [← HN.out, upTo_next L k (by omega)] at this; exact this.next
            · have := HCs.out; rw [← HN.out] at this; exact this.next
          case measure => simp [intOf]; omega
    · obtain rfl : k = 17 := by omega
      have hc := CsAt.cds hb HCs.out HL.out (by rw [HN.out]; unfold maxLen; omega)
      rw [HN.out] at hc
      go_wp2_with fail
      go_ret2
      exact ⟨_, rfl, hc, K, by simp [Value.ownBlock]⟩
end Go.Proofs.Ytdhdfedbhanijaa
