/- The document's own table of layer 10: At, Next, Child. -/
import Derived.Test.YtpjebbhjagllgaaLzMath
import Derived.Test.YtpjebbhjagllgaaGr
import Derived.Test.YtpjebbhjagllgaaKept
import Derived.BigQuiet
namespace Go.Proofs.Ytpjebbhjagllgaa
set_option linter.unusedVariables false
set_option linter.unusedSimpArgs false
open Go.ChangeShapes Go.WideShapes Go.ChangeAt Go.RowKit

/-- a row of the document's table -/
def ER : El Lk := ⟨3, 64, 55, 24, fun r => [.int .i64 r.code, .int .i64 r.par, .int .u8 r.byt.toNat]⟩
theorem ERg : ER.Good := by
  refine ⟨by decide, fun _ => rfl, fun x u hu => ?_, by kernel_rfl, Try.underlying55, by decide⟩
  simp only [ER, List.mem_cons, List.not_mem_nil, or_false] at hu
  rcases hu with rfl | rfl | rfl <;> rfl
theorem Gs.lk {w : World} {v : Value} {rows : List Lk} (h : Gs ER w v rows) (i : Nat) (hi : i < rows.length) : ∃ b off cap, v = .slice (some ⟨b, off, none⟩) rows.length cap ∧ w.cell? ⟨b, off + i * 3, none⟩ = some (.int .i64 (rw' rows i).code) ∧
    w.cell? ⟨b, off + i * 3 + 1, none⟩ = some (.int .i64 (rw' rows i).par) ∧ w.cell? ⟨b, off + i * 3 + 2, none⟩ = some (.int .u8 (rw' rows i).byt.toNat) := by
  obtain ⟨b, off, cap, hv, hc⟩ := h.at ERg i hi
  rw [rw'_get _ _ hi]
  exact ⟨b, off, cap, hv, hc 0 (by decide), hc 1 (by decide), hc 2 (by decide)⟩
/-- block q is the document's table s, v its rows -/
def RT (w : World) (q : Nat) (v : Value) (s : LT) : Prop := Blk w q #[v, .int .i64 s.last] 57 ∧ Gs ER w v s.rows ∧ s.ok ∧ s.rows.length ≤ 8000 ∧ ∀ b, v.ownBlock = some b → b ≠ q ∧ b < w.heap.size
theorem RT.keep {w w' : World} {q : Nat} {v : Value} {s : LT} {S : List Nat} (h : RT w q v s) (k : Keep S w w') (hq : q ∉ S) (hv : s.rows ≠ [] → ∀ b, v.ownBlock = some b → b ∉ S) : RT w' q v s :=
  ⟨h.1.keep k hq, h.2.1.keep' ERg k hv, h.2.2.1, h.2.2.2.1, fun b hb => ⟨(h.2.2.2.2 b hb).1, Nat.lt_of_lt_of_le (h.2.2.2.2 b hb).2 k.size⟩⟩
theorem RT.drewN {w : World} {q : Nat} {v : Value} {s : LT} (h : RT w q v s) (n : Nat) : RT (w.drewN n) q v s := h.keep ((Keep.refl [] w).drewN _) (by simp) (by simp)
set_option maxRecDepth 100000 in
set_option maxHeartbeats 2000000 in
theorem rat_c (w : World) (q : Nat) (v : Value) (s : LT) (c : Int) (h : RT w q v s) : Calls Try.prog 29 #[.pointer (some ⟨q, 0, none⟩), .int .i64 c] w fun e w' => e = .returned (.int .i64 (atI s.rows c)) ∧ ∃ n, w' = w.drewN n := by
  obtain ⟨hB, hG, hok, hlen, _⟩ := h
  have c0 : w.cell? ⟨q, 0, none⟩ = some v := hB.cell 0 _ rfl
  have hsrt := hok.srt
  clear hB hok
  generalize s.rows = rows at *
  have HAT := Lib.hid (fun i hi => hG.lk i hi)
  have HLA := Lib.hid (lwb_all rows hsrt c)
  have HUN := Lib.hid (lwb_unique rows c)
  have HSR := Lib.hid hsrt
  obtain ⟨a, cap, rfl, _⟩ := hG.sh
  clear hG hsrt
  go_enter Try.func29, Try.ntmps29
  go_wp2_with fail
  go_quiet (fail)
  go_wp2_with fail
  go_loopw [5, 6] (fun lo hi wr => ∃ l k : Nat, l ≤ k ∧ k ≤ rows.length ∧ lo = .int .i64 l ∧ hi = .int .i64 k ∧ Hid (∀ i, i < l → ((rw' rows i).code : Int) < c) ∧ Hid (∀ i, k ≤ i → i < rows.length → c ≤ ((rw' rows i).code : Int)) ∧ ∃ m, wr = w.drewN m) (fun lo hi _ => (intOf hi).toNat - (intOf lo).toNat)
  case atStart => exact ⟨0, rows.length, by omega, by omega, rfl, rfl, fun i h => by omega, fun i h1 h2 => by omega, _, rfl⟩
  case round =>
    obtain ⟨l, k, hlk, hk, rfl, rfl, HL, HK, m, rfl⟩ := hrel
    by_cases hlt : l < k
    · obtain ⟨d, hd⟩ : ∃ d, (l + k) / 2 = d := ⟨_, rfl⟩
      have hdi : ((l : Int) + k) / 2 = d := by omega
      have d1 : l ≤ d := by omega
      have d2 : d < k := by omega
      obtain ⟨b, off, cap', hv, e0, _, _⟩ := HAT.out d (by omega)
      simp only [Value.slice.injEq] at hv
      obtain ⟨rfl, x1, rfl⟩ := hv
      clear x1 hd
      have hdl : (d : Int) < rows.length := by omega
      by_cases hc : ((rw' rows d).code : Int) < c
      · have HL2 : Hid (∀ i, i < d + 1 → ((rw' rows i).code : Int) < c) := fun i hi => by
          rcases Nat.lt_or_ge i d with h | h
          · have := HSR.out i d h (by omega); omega
          · obtain rfl : i = d := by omega
            exact hc
        generalize (rw' rows d).code = z at *
        go_wp2_with fail
        go_roundw
        case rel => exact ⟨d + 1, k, by omega, hk, by go_num, rfl, HL2, HK, _, rfl⟩
        case measure => simp [intOf]; omega
      · have HK2 : Hid (∀ i, d ≤ i → i < rows.length → c ≤ ((rw' rows i).code : Int)) := fun i h1 h2 => by
          rcases Nat.eq_or_lt_of_le h1 with h | h
          · subst h; omega
          · have := HSR.out d i h h2; omega
        generalize (rw' rows d).code = z at *
        go_wp2_with fail
        go_roundw
        case rel => exact ⟨l, d, d1, by omega, rfl, by rw [hdi], HL, HK2, _, rfl⟩
        case measure => simp [intOf]; omega
    · obtain rfl : l = k := by omega
      have hl : l = lwb rows c := HUN.out l hk HL.out (fun h => HK.out l (Nat.le_refl _) h)
      by_cases hin : l < rows.length
      · obtain ⟨b, off, cap', hv, e0, _, _⟩ := HAT.out l hin
        simp only [Value.slice.injEq] at hv
        obtain ⟨rfl, x1, rfl⟩ := hv
        clear x1
        have hdl : (l : Int) < rows.length := by omega
        by_cases hc : ((rw' rows l).code : Int) = c
        · have HR : Hid (atI rows c = l) := by unfold Hid atI; rw [← hl, if_pos ⟨hin, hc⟩]
          have hce : (((rw' rows l).code : Int) == c) = true := by simpa using hc
          clear hl hc
          generalize (rw' rows l).code = z at *
          go_wp2_with fail
          go_ret
          exact ⟨by rw [HR.out]; rfl, _, rfl⟩
        · have HR : Hid (atI rows c = -1) := by unfold Hid atI; rw [← hl, if_neg (fun g => hc g.2)]
          have hce : (((rw' rows l).code : Int) == c) = false := by simpa using hc
          clear hl hc
          generalize (rw' rows l).code = z at *
          go_wp2_with fail
          go_ret
          exact ⟨by rw [HR.out]; rfl, _, rfl⟩
      · have HR : Hid (atI rows c = -1) := by unfold Hid atI; rw [← hl, if_neg (fun g => hin g.1)]
        clear hl
        go_wp2_with fail
        go_ret
        exact ⟨by rw [HR.out]; rfl, _, rfl⟩
theorem nxF_succ (rows : List Lk) (f i : Nat) : nxF rows (f + 1) i = if i < 8192 then (if atI rows (i : Nat) < 0 then (i : Int) else nxF rows f (i + 1)) else -1 := rfl
set_option maxRecDepth 100000 in
set_option maxHeartbeats 2000000 in
theorem rnext_c (w : World) (q : Nat) (v : Value) (s : LT) (h : RT w q v s) : Calls Try.prog 27 #[.pointer (some ⟨q, 0, none⟩)] w fun e w' => e = .returned (.int .i64 s.next) ∧ ∃ n, w' = w.drewN n := by
  have c1 : w.cell? ⟨q, 1, none⟩ = some (.int .i64 s.last) := h.1.cell 1 _ rfl
  have HA := Lib.hid (fun m c => rat_c (w.drewN m) q v s c (h.drewN m))
  have hlast := h.2.2.1.last.2
  have HN : Hid (s.next = nxF s.rows 8192 (s.last + 1)) := rfl
  clear h
  generalize s.last = la at *
  generalize s.next = nx at *
  generalize s.rows = rows at *
  have HS := Lib.hid (nxF_succ rows)
  go_enter Try.func27, Try.ntmps27
  go_wp2_with fail
  go_loopw [3] (fun iv wr => ∃ (i f : Nat), i ≤ 8192 ∧ 8192 ≤ i + f ∧ iv = .int .i64 i ∧ Hid (nx = nxF rows f i) ∧ ∃ m, wr = w.drewN m) (fun iv _ => 8192 - (intOf iv).toNat)
  case atStart => exact ⟨la + 1, 8192, by omega, by omega, by go_num, HN, 0, rfl⟩
  case round =>
    clear HN
    obtain ⟨i, f, hi, hf, rfl, HN, m, rfl⟩ := hrel
    by_cases hlt : i < 8192
    · obtain ⟨f', rfl⟩ : ∃ f', f = f' + 1 := ⟨f - 1, by omega⟩
      have hst := HN.out
      rw [HS.out, if_pos hlt] at hst
      have HAI := Lib.hid (HA.out m (i : Int))
      rcases Int.lt_or_le (atI rows (i : Nat)) 0 with hneg | hpos
      · rw [if_pos hneg] at hst
        have HST := Lib.hid hst
        clear hst
        generalize atI rows (i : Nat) = z at *
        go_wp2_with fail
        refine HAI.out.mono ?_; rintro e w2 ⟨rfl, m2, rfl⟩
        go_wp2_with fail
        go_ret
        exact ⟨by rw [HST.out]; rfl, _, rfl⟩
      · have hn : ¬ atI rows (i : Nat) < 0 := by omega
        rw [if_neg hn] at hst
        have HST := Lib.hid hst
        clear hst
        generalize atI rows (i : Nat) = z at *
        go_wp2_with fail
        refine HAI.out.mono ?_; rintro e w2 ⟨rfl, m2, rfl⟩
        go_wp2_with fail
        go_roundw
        case rel => exact ⟨i + 1, f', by omega, by omega, by go_num, HST, _, rfl⟩
        case measure => simp [intOf]; omega
    · have HST : Hid (nx = -1) := by
        unfold Hid; rw [HN.out]
        cases f with
        | zero => rfl
        | succ f => rw [HS.out, if_neg hlt]
      obtain rfl : i = 8192 := by omega
      clear hlt
      go_wp2_with fail
      go_ret
      exact ⟨by rw [HST.out]; rfl, _, rfl⟩
/-- the first k rows have no such link -/
theorem child_none (s : LT) (p : Int) (c : UInt8) (h : ∀ i, i < s.rows.length → ¬ (((rw' s.rows i).par : Int) = p ∧ (rw' s.rows i).byt = c)) : s.child p c = -1 := by
  unfold LT.child
  have : (s.rows.find? fun r => decide ((r.par : Int) = p ∧ r.byt = c)) = none := by
    rw [List.find?_eq_none]
    intro r hr
    obtain ⟨i, hi, rfl⟩ := (mem_iff_rw' _ _).1 hr
    simpa using h i hi
  rw [this]
theorem child_some (s : LT) (p : Int) (c : UInt8) (k : Nat) (hk : k < s.rows.length) (h1 : ((rw' s.rows k).par : Int) = p ∧ (rw' s.rows k).byt = c) (h : ∀ i, i < k → ¬ (((rw' s.rows i).par : Int) = p ∧ (rw' s.rows i).byt = c)) : s.child p c = (rw' s.rows k).code := by
  unfold LT.child
  have : (s.rows.find? fun r => decide ((r.par : Int) = p ∧ r.byt = c)) = some (rw' s.rows k) := by
    rw [List.find?_eq_some_iff_getElem]
    refine ⟨by simpa using h1, k, hk, (rw'_get _ _ hk).symm, fun j hj => ?_⟩
    have := h j hj
    rw [rw'_get _ _ (by omega)] at this
    show (!decide _) = true
    rw [decide_eq_false this]; rfl
  rw [this]
set_option maxRecDepth 100000 in
set_option maxHeartbeats 2000000 in
theorem rchild_c (w : World) (q : Nat) (v : Value) (s : LT) (p : Int) (c : UInt8) (h : RT w q v s) : Calls Try.prog 30 #[.pointer (some ⟨q, 0, none⟩), .int .i64 p, .int .u8 c.toNat] w fun e w' => e = .returned (.int .i64 (s.child p c)) ∧ ∃ n, w' = w.drewN n := by
  obtain ⟨hB, hG, hok, hlen, _⟩ := h
  have c0 : w.cell? ⟨q, 0, none⟩ = some v := hB.cell 0 _ rfl
  have HN := Lib.hid (child_none s p c)
  have HS := Lib.hid (child_some s p c)
  clear hB hok
  generalize s.child p c = ans at *
  generalize s.rows = rows at *
  have HAT := Lib.hid (fun i hi => hG.lk i hi)
  obtain ⟨a, cap, rfl, _⟩ := hG.sh
  clear hG
  go_enter Try.func30, Try.ntmps30
  go_wp2_with fail
  go_loopw [7] (fun iv wr => ∃ i : Nat, i ≤ rows.length ∧ iv = .int .i64 i ∧ Hid (∀ j, j < i → ¬ (((rw' rows j).par : Int) = p ∧ (rw' rows j).byt = c)) ∧ ∃ m, wr = w.drewN m) (fun iv _ => rows.length - (intOf iv).toNat)
  case atStart => exact ⟨0, by omega, rfl, fun j h => by omega, 0, rfl⟩
  case round =>
    obtain ⟨i, hi, rfl, HJ, m, rfl⟩ := hrel
    by_cases hlt : i < rows.length
    · obtain ⟨b, off, cap', hv, e0, e1, e2⟩ := HAT.out i hlt
      simp only [Value.slice.injEq] at hv
      obtain ⟨rfl, x1, rfl⟩ := hv
      clear x1
      have hdl : (i : Int) < rows.length := by omega
      by_cases hm : ((rw' rows i).par : Int) = p ∧ (rw' rows i).byt = c
      · have HR := Lib.hid (HS.out i hlt hm HJ.out)
        obtain ⟨h1, h2⟩ := hm
        have g1 : (((rw' rows i).par : Int) == p) = true := by simpa using h1
        have g2 : (((rw' rows i).byt.toNat : Int) == (c.toNat : Int)) = true := by rw [h2]; simp
        clear h1 h2
        generalize (rw' rows i).par = z1 at *
        generalize (rw' rows i).byt.toNat = z2 at *
        generalize (rw' rows i).code = z0 at *
        go_wp2_with fail
        go_ret
        exact ⟨by rw [HR.out]; rfl, _, rfl⟩
      · have HJ2 : Hid (∀ j, j < i + 1 → ¬ (((rw' rows j).par : Int) = p ∧ (rw' rows j).byt = c)) := fun j hj => by
          rcases Nat.lt_or_ge j i with h | h
          · exact HJ.out j h
          · obtain rfl : j = i := by omega
            exact hm
        by_cases h1 : ((rw' rows i).par : Int) = p
        · have g1 : (((rw' rows i).par : Int) == p) = true := by simpa using h1
          have g2 : (((rw' rows i).byt.toNat : Int) == (c.toNat : Int)) = false := by
            rw [beq_eq_false_iff_ne]
            intro h2
            exact hm ⟨h1, UInt8.toNat_inj.1 (by omega)⟩
          clear h1 hm
          generalize (rw' rows i).par = z1 at *
          generalize (rw' rows i).byt.toNat = z2 at *
          go_wp2_with fail
          go_roundw
          case rel => exact ⟨i + 1, by omega, by go_num, HJ2, _, rfl⟩
          case measure => simp [intOf]; omega
        · have g1 : (((rw' rows i).par : Int) == p) = false := by simpa using h1
          clear h1 hm
          generalize (rw' rows i).par = z1 at *
          go_wp2_with fail
          go_roundw
          case rel => exact ⟨i + 1, by omega, by go_num, HJ2, _, rfl⟩
          case measure => simp [intOf]; omega
    · obtain rfl : i = rows.length := by omega
      have HR := Lib.hid (HN.out HJ.out)
      go_wp2_with fail
      go_ret
      exact ⟨by rw [HR.out]; rfl, _, rfl⟩
end Go.Proofs.Ytpjebbhjagllgaa
