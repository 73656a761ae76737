/- The document's Next of layer 6. -/
import Derived.Test.YtblogjpoijfpbaaRefSf2
import Derived.Test.YtblogjpoijfpbaaRefBit
namespace Go.Proofs.Ytblogjpoijfpbaa
set_option linter.unusedVariables false
set_option linter.unusedSimpArgs false
open Go.ChangeShapes Go.WideShapes Go.ChangeAt Go.RowKit

theorem Cds6.at {w : World} {v : Value} {L : List Nat} (h : Cds6 w v L) (i : Nat) (hi : i < L.length) : ∃ b off cap, v = .slice (some ⟨b, off, none⟩) L.length cap ∧ w.cell? ⟨b, off + i * 2, none⟩ = some (.int .u32 (scode L i)) ∧ w.cell? ⟨b, off + i * 2 + 1, none⟩ = some (.int .i64 (len L i)) := by
  rcases Sts.cases (by decide) h with ⟨h0, _⟩ | ⟨_, b, off, cap, rfl, _, _, _, hc⟩
  · omega
  · exact ⟨b, off, cap, rfl, hc i hi 0 (by omega), hc i hi 1 (by omega)⟩
theorem Cds6.shape {w : World} {v : Value} {L : List Nat} (h : Cds6 w v L) : ∃ a cap, v = .slice a L.length cap ∧ L.length ≤ 9223372036854775807 := by
  obtain ⟨a, cap, rfl, h1, h2, _⟩ := h
  unfold maxLen at h2
  exact ⟨a, cap, rfl, by omega⟩
/-- the symbol whose word stands first -/
def spick (L : List Nat) (y : Nat) : Nat := ((List.range L.length).find? fun i => decide (y / wd16 L i = sw L i)).getD 0
/-- what reading a word bit by bit answers -/
def RS.nextS (L : List Nat) (s : RS) : Int × Nat × RS :=
  if s.E ≠ 0 then (-1, s.E, s) else
  let i := spick L (tr 16 (num s.l s.pos 16) 0)
  if len L i ≤ s.left then ((i : Int), 0, { s with pos := s.pos + len L i }) else (-1, 3, { s with pos := s.pos + s.left, err := 3 })
theorem spick_hit (L : List Nat) (y : Nat) (h16 : ∀ k, k < L.length → len L k ≤ 16) (hf : tot16 L = 65536) (hy : y < 65536) : shit L y (spick L y) := by
  obtain ⟨i, hi⟩ := shit_full L y h16 hf hy
  unfold spick
  rcases hp : (List.range L.length).find? (fun i => decide (y / wd16 L i = sw L i)) with _ | k
  · have := List.find?_eq_none.1 hp i (by simpa using hi.1)
    simp [hi.2] at this
  · have h1 := List.find?_some hp
    have h2 := List.mem_of_find?_eq_some hp
    exact ⟨by simpa using h2, by simpa using h1⟩
/-- word j of n bits stands first just where it is the one -/
theorem spick_bits (L : List Nat) (x n j : Nat) (h16 : ∀ k, k < L.length → len L k ≤ 16) (hf : tot16 L = 65536) (hj : j < L.length) (hn : len L j = n) : x % 2 ^ n = scode L j ↔ j = spick L (tr 16 x 0) := by
  subst hn
  rw [shit_bits L x j hj h16 hf]
  have hs := spick_hit L (tr 16 x 0) h16 hf (tr16_lt x)
  exact ⟨fun h => shit_unique L _ _ _ h16 hf h hs, fun h => h ▸ hs⟩
theorem nextS_err (L : List Nat) (s : RS) (h : s.E ≠ 0) : s.nextS L = (-1, s.E, s) := by unfold RS.nextS; rw [if_pos h]
theorem bits1_short (s : RS) (n : Nat) (hE : s.E = 0) (hn : n = s.left) : ({ s with pos := s.pos + n } : RS).bits 1 = (0, { s with pos := s.pos + n, err := 3 }) := by
  have e : ({ s with pos := s.pos + n } : RS).E = 0 := hE
  have e1 : s.left = 8 * s.l.length - s.pos := by unfold RS.left; rw [if_pos hE]
  have e2 : ({ s with pos := s.pos + n } : RS).left = 0 := by unfold RS.left; rw [if_pos e]; simp only; omega
  unfold RS.bits
  rw [if_neg (by omega), if_neg (by omega), if_pos (by rw [e2]; omega)]
  unfold RS.fail; rw [if_pos e]
theorem bits1_ok (s : RS) (n : Nat) (hE : s.E = 0) (hn : n < s.left) : ({ s with pos := s.pos + n } : RS).bits 1 = (num s.l (s.pos + n) 1, { s with pos := s.pos + (n + 1) }) := by
  have e : ({ s with pos := s.pos + n } : RS).E = 0 := hE
  have e1 : s.left = 8 * s.l.length - s.pos := by unfold RS.left; rw [if_pos hE]
  have e2 : ({ s with pos := s.pos + n } : RS).left = s.left - n := by unfold RS.left; rw [if_pos e, if_pos hE]; simp only; omega
  unfold RS.bits
  rw [if_neg (by omega), if_neg (by omega), if_neg (by rw [e2]; omega)]
  rfl
set_option maxRecDepth 100000 in
set_option maxHeartbeats 2000000 in
theorem sfnext_c (w : World) (q : Nat) (v cv : Value) (s : RS) (L : List Nat) (h16 : ∀ k, k < L.length → len L k ≤ 16) (h1 : ∀ k, k < L.length → 1 ≤ len L k) (hf : tot16 L = 65536) (hc : Cds6 w cv L) (hcq : ∀ b, cv.ownBlock = some b → b ≠ q) (h : Rr w q v s) : Calls Try.prog 22 #[cv, .pointer (some ⟨q, 0, none⟩)] w fun e w' => e = .returned (.tuple #[.int .i64 (s.nextS L).1, .int .i64 (s.nextS L).2.1]) ∧ Rr w' q v (s.nextS L).2.2 ∧ Keep [q] w w' := by
  by_cases hE : s.E = 0
  · have hs := spick_hit L (tr 16 (num s.l s.pos 16) 0) h16 hf (tr16_lt _)
    have hSB := fun n j => spick_bits L (num s.l s.pos 16) n j h16 hf
    have hnx : s.nextS L = if len L (spick L (tr 16 (num s.l s.pos 16) 0)) ≤ s.left then (((spick L (tr 16 (num s.l s.pos 16) 0) : Nat) : Int), 0, { s with pos := s.pos + len L (spick L (tr 16 (num s.l s.pos 16) 0)) }) else (-1, 3, { s with pos := s.pos + s.left, err := 3 }) := by
      unfold RS.nextS; rw [if_neg (by omega)]
    generalize spick L (tr 16 (num s.l s.pos 16) 0) = i at *
    have hi := hs.1
    have hli := h16 i hi
    have hli1 := h1 i hi
    have HNX := Lib.hid hnx
    have HSB := Lib.hid (fun n (hn : n ≤ 16) j (hj : j < L.length) (hl : len L j = n) => (by rw [← num_mod s.l s.pos 16 n hn]; exact hSB n j hj hl : num s.l s.pos n = scode L j ↔ j = i))
    have HCA := Lib.hid (fun w' (k : Keep [q] w w') j hj => Cds6.at (Sts.keep hc k (by simpa using hcq)) j hj)
    obtain ⟨a, cap, rfl, _⟩ := hc.shape
    have HL16 := Lib.hid h16
    clear hnx hSB hs hc hcq h16 h1 hf
    go_enter Try.func22, Try.ntmps22
    go_wp2_with fail
    go_loopw [6, 7] (fun b m wr => ∃ n : Nat, n < len L i ∧ n ≤ s.left ∧ m = .int .i64 ((n : Int) + 1) ∧ b = .int .u32 (num s.l s.pos n : Nat) ∧ Rr wr q v { s with pos := s.pos + n } ∧ Keep [q] w wr) (fun _ m _ => 17 - (intOf m).toNat)
    case atStart => exact ⟨0, by omega, by omega, rfl, rfl, h, Keep.refl _ _⟩
    case round =>
      obtain ⟨n, hn, hnl, rfl, rfl, hq, hK⟩ := hrel
      have HBC := Lib.hid (rbits_c wr q v { s with pos := s.pos + n } 1 hq)
      by_cases hleft : n < s.left
      · rw [bits1_ok s n hE hleft] at HBC
        have hnb := num_add s.l s.pos n 1
        have hb1 := num_lt s.l (s.pos + n) 1
        have hbn := num_lt s.l s.pos n
        clear hq
        go_wp2_with fail
        refine HBC.out.mono ?_; rintro e w2 ⟨rfl, hq2, k2⟩
        have K2 := hK.trans k2 (by simp)
        have c2 := hq2.1.cell 2 _ rfl
        have herr : ((s.err : Int) != 0) = false := by have := hq2.E; have : s.E = s.err := this; simp; omega
        clear HBC hK k2
        go_wp2_with fail
        have hnx16 : num s.l s.pos (n + 1) < 65536 := Nat.lt_of_lt_of_le (num_lt s.l s.pos (n + 1)) (Nat.pow_le_pow_right (n := 2) (j := 16) (by decide) (by omega))
        have hnn16 : num s.l s.pos n < 65536 := Nat.lt_of_lt_of_le hbn (Nat.pow_le_pow_right (n := 2) (j := 16) (by decide) (by omega))
        have HNB := Lib.hid hnb
        have HSN := Lib.hid (HSB.out (n + 1) (by omega))
        generalize num s.l (s.pos + n) 1 = bit at *
        generalize hnx2 : num s.l s.pos (n + 1) = nx at *
        have HNE := Lib.hid hnx2
        clear hnx2
        generalize num s.l s.pos n = nb at *
        have hb2 : bit ≤ 1 := by omega
        clear hnb hb1 hbn
        go_loopw [8, 9] (fun b k w3 => ∃ (j x : Nat), j ≤ n ∧ k = .int .i64 ((j : Int) + 1) ∧ b = .int .u32 x ∧ x ≤ 65536 ∧ Hid (x = 2 ^ j * bit) ∧ ∃ m, w3 = w2.drewN m) (fun _ k _ => n + 1 - (intOf k).toNat)
        case atStart => exact ⟨0, bit, by omega, rfl, rfl, by omega, by simp [Hid], 0, rfl⟩
        case round =>
          obtain ⟨j, x, hj, rfl, rfl, hx, HX, m3, rfl⟩ := hrel
          by_cases hjn : j < n
          · have hx2 : Hid (x * 2 = 2 ^ (j + 1) * bit) := by unfold Hid; rw [HX.out, Nat.pow_succ, Nat.mul_right_comm]
            have hx3 : x * 2 ≤ 65536 := by
              rw [hx2.out]
              have h1 : 2 ^ (j + 1) ≤ 2 ^ 16 := Nat.pow_le_pow_right (by decide) (by omega)
              have h2 := Nat.mul_le_mul h1 hb2
              omega
            go_wp2_with fail
            go_roundw
            case rel => exact ⟨j + 1, x * 2, by omega, by go_num, by go_num, hx3, hx2, _, rfl⟩
            case measure => simp [intOf]; omega
          · obtain rfl : j = n := by omega
            have hsum : (nb : Int) + x = (nx : Nat) := by have h1 := HNB.out; have h2 := HX.out; omega
            clear HX HNB
            go_wp2_with fail
            go_loopw [10] (fun k w3 => ∃ p : Nat, p ≤ L.length ∧ k = .int .i64 p ∧ Hid (∀ p', p' < p → ¬ (len L p' = j + 1 ∧ nx = scode L p')) ∧ ∃ m, w3 = w2.drewN m) (fun k _ => L.length - (intOf k).toNat)
            case atStart => exact ⟨0, by omega, rfl, fun p' hp => by omega, _, rfl⟩
            case round =>
              obtain ⟨p, hp, rfl, HR, m4, rfl⟩ := hrel
              by_cases hpl : p < L.length
              · obtain ⟨b, off, cap', hv, e0, e1⟩ := HCA.out _ K2 p hpl
                simp only [Value.slice.injEq] at hv
                obtain ⟨h1, h2, rfl⟩ := hv
                clear h2
                subst h1
                have HSP := Lib.hid (HSN.out p hpl)
                by_cases hl : len L p = j + 1
                · by_cases hcd : nx = scode L p
                  · have hpi : p = i := (HSP.out hl).1 hcd
                    subst hpi
                    have hres : Hid (s.nextS L = ((p : Int), 0, { s with pos := s.pos + (j + 1) })) := by unfold Hid; rw [HNX.out, if_pos (by omega), hl]
                    rw [hl] at e1
                    rw [← hcd] at e0
                    clear HR HSP HSN HSB HNX hl hcd
                    go_wp2_with fail
                    go_ret2
                    rw [hres.out]
                    exact ⟨rfl, hq2.drewN _, K2.drewN _⟩
                  · have hcd2 : (((scode L p : Nat) : Int) == (nx : Int)) = false := by
                      simp only [beq_eq_false_iff_ne, ne_eq]; intro e; exact hcd (Int.ofNat.inj e).symm
                    have HR2 : Hid (∀ p', p' < p + 1 → ¬ (len L p' = j + 1 ∧ nx = scode L p')) := by
                      intro p' hp'
                      by_cases e : p' = p
                      · subst e; exact fun h => hcd h.2
                      · exact HR.out p' (by omega)
                    rw [hl] at e1
                    generalize scode L p = cd at e0 hcd2
                    clear HR HSP hl hcd
                    go_wp2_with fail
                    go_roundw
                    case rel => exact ⟨p + 1, by omega, by go_num, HR2, _, rfl⟩
                    case measure => simp [intOf]; omega
                · have HR2 : Hid (∀ p', p' < p + 1 → ¬ (len L p' = j + 1 ∧ nx = scode L p')) := by
                    intro p' hp'
                    by_cases e : p' = p
                    · subst e; exact fun h => hl h.1
                    · exact HR.out p' (by omega)
                  have hl2 : (((len L p : Nat) : Int) == (j : Int) + 1) = false := by simp; omega
                  generalize scode L p = cd at e0
                  generalize len L p = lp at e1 hl2
                  clear HR HSP hl
                  go_wp2_with fail
                  go_roundw
                  case rel => exact ⟨p + 1, by omega, by go_num, HR2, _, rfl⟩
                  case measure => simp [intOf]; omega
              · obtain rfl : p = L.length := by omega
                have hlt : j + 1 < len L i := by
                  rcases Nat.lt_or_ge (j + 1) (len L i) with h | h
                  · exact h
                  · exfalso
                    have he : len L i = j + 1 := by omega
                    exact HR.out i hi ⟨he, (HSN.out i hi he).2 rfl⟩
                clear HR HSN
                go_wp2_with fail
                go_roundw
                case rel => exact ⟨j + 1, hlt, by omega, by go_num, by rw [HNE.out], hq2.drewN _, K2.drewN _⟩
                case measure => simp [intOf]; omega
      · have hnle : n = s.left := by omega
        rw [bits1_short s n hE hnle] at HBC
        have hgt : ¬ len L i ≤ s.left := by omega
        have HN2 := HNX.out
        rw [if_neg hgt] at HN2
        have HN3 := Lib.hid HN2
        clear HN2 HNX hq
        go_wp2_with fail
        refine HBC.out.mono ?_; rintro e w2 ⟨rfl, hq2, k2⟩
        have K2 := hK.trans k2 (by simp)
        have c2 := hq2.1.cell 2 _ rfl
        go_wp2_with fail
        go_quiet (fail)
        go_wp2_with fail
        go_ret2
        rw [HN3.out, ← hnle]
        exact ⟨rfl, hq2.drewN _, K2.drewN _⟩
  · have hne := Lib.hid (nextS_err L s hE)
    have hb : s.bits 1 = (0, s) := by
      unfold RS.bits
      rw [if_neg (by omega), if_pos hE, if_pos (by omega), RS.fail_fail _ _ hE]
    have HBC := Lib.hid (rbits_c w q v s 1 h)
    rw [hb] at HBC
    have hEe := Lib.hid h.E
    have herr : ((s.err : Int) != 0) = true := by have := h.E; simp; omega
    obtain ⟨a, cap, rfl, _⟩ := hc.shape
    clear hb hc hcq h hE h16 h1 hf
    go_enter Try.func22, Try.ntmps22
    go_wp2_with fail
    refine wp_loop_rounds 1 ?_
    rw [rounds_succ]
    go_wp2_with fail
    refine HBC.out.mono ?_; rintro e w2 ⟨rfl, hq2, k2⟩
    have c2 := hq2.1.cell 2 _ rfl
    go_wp2_with fail
    go_quiet (fail)
    go_wp2_with fail
    go_ret2
    rw [hne.out, hEe.out]
    exact ⟨rfl, hq2.drewN _, k2.drewN _⟩
end Go.Proofs.Ytblogjpoijfpbaa
