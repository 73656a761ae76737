/- The document's Next. -/
import Derived.Test.YtdhdfedbhanijaaRefCan3
namespace Go.Proofs.Ytdhdfedbhanijaa
set_option linter.unusedVariables false
set_option linter.unusedSimpArgs false
open Go.ChangeShapes Go.WideShapes Go.ChangeAt Go.RowKit

/-- what reading a word answers: symbol, error, and the reader's state -/
def RS.next (L : List Nat) (s : RS) : Int × Nat × RS :=
  if s.E ≠ 0 then (-1, s.E, s) else
  match pick L (tr 16 (num s.l s.pos 16) 0) (min 16 s.left) with
  | some i => ((i : Int), 0, { s with pos := s.pos + len L i })
  | none => (-1, if s.left < longest L then 3 else 7, s)
theorem RS.next_err (L : List Nat) (s : RS) (h : s.E ≠ 0) : s.next L = (-1, s.E, s) := by unfold RS.next; rw [if_pos h]
theorem RS.next_hit (L : List Nat) (s : RS) (h : s.E = 0) (i : Nat) (hp : pick L (tr 16 (num s.l s.pos 16) 0) (min 16 s.left) = some i) : s.next L = ((i : Int), 0, { s with pos := s.pos + len L i }) := by
  unfold RS.next; rw [if_neg (by omega), hp]
theorem RS.next_none (L : List Nat) (s : RS) (h : s.E = 0) (hp : pick L (tr 16 (num s.l s.pos 16) 0) (min 16 s.left) = none) : s.next L = (-1, if s.left < longest L then 3 else 7, s) := by
  unfold RS.next; rw [if_neg (by omega), hp]
theorem mask32 (x n : Nat) (hx : x < 4294967296) (hn : n ≤ 16) : Go.bits .and .u32 (x : Int) (IntKind.u32.wrap (IntKind.u32.wrap (2 ^ n) - 1)) = ((x % 2 ^ n : Nat) : Int) := by
  have h2 : 2 ^ n ≤ 2 ^ 16 := Nat.pow_le_pow_right (by decide) hn
  have h3 : 0 < 2 ^ n := Nat.two_pow_pos n
  have e1 : IntKind.u32.wrap (IntKind.u32.wrap (2 ^ n) - 1) = ((2 ^ n - 1 : Nat) : Int) := by
    rw [show ((2 : Int) ^ n) = ((2 ^ n : Nat) : Int) by simp, IntKind.wrap_u32, IntKind.wrap_u32]
    generalize 2 ^ n = q at h2 h3
    omega
  rw [e1, u32_and_nat _ _ hx (by omega), Nat.and_two_pow_sub_one_eq_mod]
theorem mask32' (x n : Nat) (hx : x < 4294967296) (hn : n ≤ 16) : ∃ P : Nat, (2 : Int) ^ n % 4294967296 = P ∧ 1 ≤ P ∧ P ≤ 65536 ∧ Go.bits .and .u32 (x : Int) ((P : Int) - 1) = ((x % 2 ^ n : Nat) : Int) := by
  have h2 : 2 ^ n ≤ 2 ^ 16 := Nat.pow_le_pow_right (by decide) hn
  have h3 : 0 < 2 ^ n := Nat.two_pow_pos n
  refine ⟨2 ^ n, ?_, h3, h2, ?_⟩
  · rw [show ((2 : Int) ^ n) = ((2 ^ n : Nat) : Int) by simp]
    generalize 2 ^ n = q at h2 h3
    omega
  · rw [show (((2 ^ n : Nat) : Int) - 1) = ((2 ^ n - 1 : Nat) : Int) by omega, u32_and_nat _ _ hx (by omega), Nat.and_two_pow_sub_one_eq_mod]
/-- is word k the one? as bits -/
theorem hit_bits (L : List Nat) (x k h : Nat) (hk : k < L.length) (hL : ∀ y ∈ L, y ≤ 16) (hwt : wt L ≤ 65536) (h0 : 0 < len L k) : x % 2 ^ len L k = code L k ↔ hit L (tr 16 x 0) k := by
  have h16 : len L k ≤ 16 := by rw [len_get L k hk]; exact hL _ (List.getElem_mem hk)
  unfold code hit
  rw [bits_word x (wd L k) (len L k) h16 (wd_lt L k hk hL hwt h0)]
  exact ⟨fun h => ⟨hk, h0, h16, h⟩, fun h => h.2.2.2⟩
set_option maxRecDepth 100000 in
set_option maxHeartbeats 2000000 in
theorem refnext_c (w : World) (q : Nat) (v cv : Value) (s : RS) (L : List Nat) (hL : ∀ x ∈ L, x ≤ 16) (hwt : wt L ≤ 65536) (hc : Cds w cv L) (h : Rr w q v s) : Calls Try.prog 26 #[cv, .pointer (some ⟨q, 0, none⟩)] w fun e w' => e = .returned (.tuple #[.int .i64 (s.next L).1, .int .i64 (s.next L).2.1]) ∧ Rr w' q v (s.next L).2.2 ∧ Keep [q] w w' := by
  have c2 := h.1.cell 2 _ rfl
  have hE := h.E
  obtain ⟨a, cap, rfl, hm⟩ := hc.shape
  by_cases he : s.E = 0
  · have he2 : ((s.err : Int) != 0) = false := by simp; omega
    have hlk : s.look 16 = (num s.l s.pos 16, min 16 s.left) := by unfold RS.look; rw [if_neg (by omega)]; rfl
    have HK := Lib.hid (rlook_c w q v s 16 h)
    rw [hlk] at HK
    have HI := Lib.hid (fun i hi => hc.at i hi)
    have HB := Lib.hid (fun k hk h0 => hit_bits L (num s.l s.pos 16) k 0 hk hL hwt h0)
    have HS := Lib.hid (RS.next_hit L s he)
    have HN := Lib.hid (RS.next_none L s he)
    have HP := Lib.hid (pick_some L (tr 16 (num s.l s.pos 16) 0) (min 16 s.left) · hL)
    have HPN := Lib.hid (pick_none L (tr 16 (num s.l s.pos 16) 0) (min 16 s.left) hL)
    have HLG := Lib.hid (fun n => reflongest_c (w.drewN n) _ L hL (hc.drewN n))
    have H16 := Lib.hid (fun i => Nat.le_trans (longest_ge L i) (longest_le L 16 hL))
    have hx : num s.l s.pos 16 < 65536 := num_lt s.l s.pos 16
    generalize num s.l s.pos 16 = x at hx HK HB HS HN HP HPN
    have hmin : min 16 s.left ≤ 16 := by omega
    have hmin2 : min 16 s.left ≤ s.left := by omega
    have hle := RS.left_le s h.2.2.1
    generalize min 16 s.left = mn at HK HS HN HP HPN hmin hmin2
    have hlen16 := longest_le L 16 hL
    clear hL hc hlk hE
    have HH := Lib.hid h
    have HEE := Lib.hid he
    clear he
    go_enter Try.func26, Try.ntmps26
    go_wp2_with fail
    refine HK.out.mono ?_; rintro e w1 ⟨rfl, m1, rfl⟩
    go_wp2_with fail
    go_loopw [8] (fun i wr => ∃ k : Nat, k ≤ L.length ∧ i = .int .i64 k ∧ Hid (∀ j, j < k → ¬ (hit L (tr 16 x 0) j ∧ len L j ≤ mn)) ∧ ∃ n, wr = w.drewN n) (fun i _ => L.length - (intOf i).toNat)
    case atStart => exact ⟨0, by omega, rfl, fun j hj => by omega, _, rfl⟩
    case round =>
      obtain ⟨k, hk, rfl, HR, n, rfl⟩ := hrel
      by_cases hlt : k < L.length
      · obtain ⟨b, off, cap', hv, e0, e1⟩ := HI.out k hlt
        simp only [Value.slice.injEq] at hv
        obtain ⟨rfl, _, rfl⟩ := hv
        have h16 := H16.out k
        by_cases hm0 : hit L (tr 16 x 0) k ∧ len L k ≤ mn
        · have hpos : 0 < len L k := hm0.1.2.1
          have hx2 : x % 2 ^ len L k = code L k := (HB.out k hlt hpos).2 hm0.1
          have HP2 : Hid (pick L (tr 16 x 0) mn = some k) := (HP.out k).2 hm0
          have HS2 := Lib.hid (HS.out k HP2.out)
          obtain ⟨P, hP, hP1, hP2, hmk⟩ := mask32' x (len L k) (by omega) h16
          rw [hx2] at hmk
          have hzm := hm0.2
          have hl0 : s.left = 8 * s.l.length - s.pos := by unfold RS.left; rw [if_pos HEE.out]
          have hp1 := h.2.2.1.1
          have hlm : s.l.length ≤ 140737488355328 := h.2.2.1.2.1
          have H2 := (h.drewN n).setPos (s.pos + len L k) (by omega)
          have K2 : Keep [q] w ((w.drewN n).setCell ⟨q, 1, none⟩ (.int .i64 (s.pos + len L k : Nat))) := ((Keep.refl _ _).drewN n).setCell (by simp) _
          have f1 := h.1.free 1
          have c1 := h.1.cell 1 _ rfl
          generalize code L k = cd at *
          generalize len L k = z at *
          clear hm0 hx2 HP2 HB HP HN HPN hl0 HH HEE HR h
          go_wp2_with fail
          go_ret2
          rw [HS2.out]
          exact ⟨rfl, H2, K2⟩
        · have HR2 : Hid (∀ j, j < k + 1 → ¬ (hit L (tr 16 x 0) j ∧ len L j ≤ mn)) := by
            intro j hj
            by_cases e : j = k
            · subst e; exact hm0
            · exact HR.out j (by omega)
          by_cases hz0 : len L k = 0
          · rw [hz0] at e1
            clear hz0 hm0 HR
            go_wp2_with fail
            go_roundw
            case rel => exact ⟨k + 1, by omega, by go_num, HR2, _, rfl⟩
            case measure => simp [intOf]; omega
          by_cases hzm : mn < len L k
          · generalize len L k = z at *
            clear hm0 HR
            go_wp2_with fail
            go_roundw
            case rel => exact ⟨k + 1, by omega, by go_num, HR2, _, rfl⟩
            case measure => simp [intOf]; omega
          · have hpos : 0 < len L k := by omega
            have hne : x % 2 ^ len L k ≠ code L k := fun e => hm0 ⟨(HB.out k hlt hpos).1 e, by omega⟩
            obtain ⟨P, hP, hP1, hP2, hmk⟩ := mask32' x (len L k) (by omega) h16
            have hbe : (((x % 2 ^ len L k : Nat) : Int) == ((code L k : Nat) : Int)) = false := by
              simp only [beq_eq_false_iff_ne, ne_eq]; intro e; exact hne (Int.ofNat.inj e)
            generalize x % 2 ^ len L k = xm at hmk hbe
            generalize code L k = cd at e0 hbe
            generalize len L k = z at e1 h16 hz0 hzm hpos hP
            clear hm0 HR hne
            go_wp2_with fail
            go_roundw
            case rel => exact ⟨k + 1, by omega, by go_num, HR2, _, rfl⟩
            case measure => simp [intOf]; omega
      · obtain rfl : k = L.length := by omega
        have HP2 : Hid (pick L (tr 16 x 0) mn = none) := HPN.out.2 (fun i hi => by
          have := HR.out i hi.1
          rcases Nat.lt_or_ge mn (len L i) with h1 | h1
          · exact h1
          · exact absurd ⟨hi, h1⟩ this)
        have HN2 := Lib.hid (HN.out HP2.out)
        clear HR HP2 HB HP HPN HN HS HI
        go_wp2_with fail
        refine (rleft_c _ _ _ _ (HH.out.drewN n)).mono ?_; rintro e w2 ⟨rfl, m2, rfl⟩
        go_wp2_with fail
        refine (HLG.out (n + m2)).mono ?_; rintro e w2 ⟨rfl, m3, rfl⟩
        by_cases hll : s.left < longest L
        · rw [if_pos hll] at HN2
          generalize longest L = lg at *
          go_wp2_with fail
          go_ret2
          rw [HN2.out]
          exact ⟨rfl, HH.out.drewN _, (Keep.refl _ _).drewN _⟩
        · rw [if_neg hll] at HN2
          generalize longest L = lg at *
          go_wp2_with fail
          go_ret2
          rw [HN2.out]
          exact ⟨rfl, HH.out.drewN _, (Keep.refl _ _).drewN _⟩
  · have he2 : ((s.err : Int) != 0) = true := by simp; omega
    have HF := Lib.hid (RS.next_err L s he)
    have HE := Lib.hid hE
    clear hE he hc
    go_enter Try.func26, Try.ntmps26
    go_wp2_with fail
    go_quiet (fail)
    go_wp2_with fail
    go_ret2
    rw [HF.out, HE.out]
    exact ⟨rfl, h.drewN _, (Keep.refl _ _).drewN _⟩
end Go.Proofs.Ytdhdfedbhanijaa
