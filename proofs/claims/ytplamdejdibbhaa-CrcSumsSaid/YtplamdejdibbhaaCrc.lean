/- Contracts of crc.Table, Add and Sum. -/
import Derived.Test.YtplamdejdibbhaaRefCrc
import Derived.Test.YtplamdejdibbhaaArr
namespace Go.Proofs.Ytplamdejdibbhaa
set_option linter.unusedVariables false
set_option linter.unusedSimpArgs false
open Go.ChangeShapes Go.WideShapes Go.ChangeAt Go.RowKit

theorem arrInfo : (Try.prog.info? 23).map (fun i => (i.zero, i.size)) = some (some (.agg (Array.replicate 256 (.int .u32 0))), 256) := by kernel_rfl
theorem bits_odd (y : Nat) (hy : y < 4294967296) : bits .and .u32 (y : Int) 1 = ((y % 2 : Nat) : Int) := by
  have := u32_and_nat y 1 hy (by decide)
  rw [show ((1 : Nat) : Int) = 1 from rfl] at this
  rw [this, Nat.and_one_is_mod]
theorem step_c (w : World) (u : Nat) (hu : u < 4294967296) : Calls Try.prog 19 #[.int .u32 u] w fun e w' => e = .returned (.int .u32 (cstep u)) ∧ w' = w := by
  have ho := bits_odd u hu
  by_cases hodd : u % 2 = 1
  · have e1 : (((u % 2 : Nat) : Int) == 0) = false := by simp [hodd]
    have hx : bits .xor .u32 ((u : Int) / 2) 3988292384 = ((cstep u : Nat) : Int) := by
      have := u32_xor_nat (u / 2) 3988292384 (by omega) (by decide)
      rw [show ((u : Int) / 2) = ((u / 2 : Nat) : Int) by omega]
      unfold cstep; rw [if_pos hodd]; exact this
    generalize cstep u = z at hx ⊢
    generalize u % 2 = par at ho e1
    clear hodd
    go_enter Try.func19, Try.ntmps19
    go_wp2
    go_ret
    exact ⟨rfl, rfl⟩
  · have e1 : (((u % 2 : Nat) : Int) == 0) = true := by simp; omega
    have hx : (u : Int) / 2 = ((cstep u : Nat) : Int) := by unfold cstep; rw [if_neg hodd]; simp
    have HX := Lib.hid hx; clear hx
    generalize cstep u = z at HX ⊢
    generalize u % 2 = par at ho e1
    clear hodd
    go_enter Try.func19, Try.ntmps19
    go_wp2
    go_ret
    rw [← HX.out]
    exact ⟨rfl, rfl⟩
set_option maxRecDepth 100000 in
set_option maxHeartbeats 4000000 in
theorem table_c (w : World) : Calls Try.prog 8 #[] w fun e w' => ∃ v, e = .returned v ∧ Tab v (csteps 8) ∧ Keep [] w w' := by
  have hz := (zero_of_info (P := Try.prog) arrInfo).1
  have hsz := (zero_of_info (P := Try.prog) arrInfo).2
  generalize hZ : Array.replicate 256 (Value.int .u32 0) = Z at hz
  have HZ : Hid (Z.size = 256 ∧ ∀ i, i < 256 → Z[i]? = some (.int .u32 0)) := by
    rw [← hZ]; refine ⟨by simp, fun i hi => ?_⟩
    rw [Array.getElem?_replicate, if_pos hi]
  have HS := Lib.hid hsz
  clear hZ hsz
  go_enter Try.func8, Try.ntmps8
  go_wp2_with fail
  have hb0 : Blk ((w.alloc (.cells Z 23)).alloc (.cells Z 23)) w.heap.size Z 23 := (Blk.new w Z _).alloc _
  have hb1 : Blk ((w.alloc (.cells Z 23)).alloc (.cells Z 23)) (w.heap.size + 1) Z 23 := by
    have := Blk.new (w.alloc (.cells Z 23)) Z 23
    simpa using this
  have KA : Keep [] w ((w.alloc (.cells Z 23)).alloc (.cells Z 23)) := ((Keep.refl [] w).alloc _).alloc _
  generalize (w.alloc (.cells Z 23)).alloc (.cells Z 23) = wA at hb0 hb1 KA ⊢
  go_loopw [4] (fun vi wr => ∃ (k : Nat) (cs : Array Value), k ≤ 256 ∧ vi = .int .u32 k ∧ cs.size = 256 ∧ Hid (∀ j, j < k → cs[j]? = some (.int .u32 (csteps 8 j))) ∧ Blk wr (w.heap.size + 1) cs 23 ∧ Blk wr w.heap.size Z 23 ∧ Keep [] w wr) (fun vi _ => 256 - (intOf vi).toNat)
  case atStart => exact ⟨0, Z, by omega, rfl, HZ.out.1, fun j hj => by omega, hb1, hb0, KA⟩
  case round =>
    obtain ⟨k, cs, hk, rfl, hcs, hT, h1, h0, KK⟩ := hrel
    by_cases hlt : k < 256
    · have f1 := h1.free k
      have hd : decide ((k : Int) < 256) = true := by simp; omega
      have c1 := h1.cell k (cs[k]'(by omega)) (Array.getElem?_eq_getElem (by omega))
      go_wp2_with fail
      go_loop [3, 8] (fun vx vi => ∃ (j : Nat) (u : Nat), j ≤ 8 ∧ vi = .int .i64 j ∧ vx = .int .u32 u ∧ u < 4294967296 ∧ Hid (csteps 8 k = csteps (8 - j) u)) (fun _ vi => 8 - (intOf vi).toNat)
      case atStart => exact ⟨0, k, by omega, rfl, by first | rfl | (congr 1; omega), by omega, rfl⟩
      case round =>
        obtain ⟨j, u, hj, rfl, rfl, hu, hh⟩ := hrel
        by_cases hlt8 : j < 8
        · have HN : Hid (csteps 8 k = csteps (8 - (j + 1)) (cstep u)) := by
            have h := hh.out
            rw [show 8 - j = (8 - (j + 1)) + 1 by omega, csteps] at h
            exact h
          have hu2 := cstep_lt u hu
          have hst := step_c wr u hu
          generalize cstep u = z at HN hu2 hst
          have HST := Lib.hid hst
          clear hst hh
          go_wp2_with fail
          refine HST.out.mono ?_; rintro e w1 ⟨rfl, rfl⟩
          go_wp2
          go_round
          case rel => exact ⟨j + 1, z, by omega, by go_num, rfl, hu2, HN⟩
          case measure => simp [intOf]; omega
        · obtain rfl : j = 8 := by omega
          have HN : Hid (csteps 8 k = u) := hh.out
          have h1' := h1.set k (.int .u32 (u : Int))
          have hs2 : (cs.setIfInBounds k (.int .u32 (u : Int))).size = 256 := by simpa using hcs
          have hT2 : Hid (∀ i, i < k + 1 → (cs.setIfInBounds k (.int .u32 (u : Int)))[i]? = some (.int .u32 (csteps 8 i))) := by
            intro i hi
            rw [Array.getElem?_setIfInBounds]
            by_cases h : k = i
            · subst h; rw [if_pos rfl, if_pos (by omega), HN.out]
            · rw [if_neg h]; exact hT.out i (by omega)
          have h0' : Blk (wr.setCell ⟨w.heap.size + 1, k, none⟩ (.int .u32 (u : Int))) w.heap.size Z 23 := h0.other (by simp) _
          have KK' : Keep [] w (wr.setCell ⟨w.heap.size + 1, k, none⟩ (.int .u32 (u : Int))) := KK.setCell (.inr (by simp)) _
          generalize cs.setIfInBounds k (.int .u32 (u : Int)) = cs2 at h1' hs2 hT2
          go_wp2_with fail
          go_roundw
          case rel => exact ⟨k + 1, cs2, by omega, by go_num, hs2, hT2, h1', h0', KK'⟩
          case measure => simp [intOf]; omega
    · obtain rfl : k = 256 := by omega
      have hld := h1.load (P := Try.prog) _ Try.underlying23 rfl (by rw [hcs]; exact HS.out)
      have hones : ∀ v ∈ cs.toList, v.oneCell' = true := by
        intro v hv
        obtain ⟨i, hi, he⟩ := List.getElem_of_mem hv
        have := hT.out i (by simpa [hcs] using hi)
        rw [← he]
        simp only [Array.length_toList] at hi
        rw [Array.getElem?_eq_getElem hi] at this
        simp only [Array.getElem_toList]
        rw [Option.some.inj this]; rfl
      have hst := h0.storeC (P := Try.prog) cs (by rw [hcs, HZ.out.1]) hones
      have hb2 := h0.setRow cs
      have K2 : Keep [] w (wr.setRow w.heap.size cs) := KK.trans (Keep.setRow _) (by simp)
      generalize wr.setRow w.heap.size cs = wB at hst hb2 K2
      have hld2 := hb2.load (P := Try.prog) _ Try.underlying23 rfl (by rw [hcs]; exact HS.out)
      clear hones KK hb0 hb1 KA h1 h0
      go_wp2_with fail
      refine wp_loadA 23 (.tmp 1) rfl (w.heap.size + 1) rfl cs hld ?_
      go_wp2_with fail
      refine bodyPost_ret (results_cellA rfl _ rfl hb2 _ Try.underlying23 rfl (by rw [hcs]; exact HS.out)) rfl ?_
      refine ⟨_, rfl, ⟨cs, rfl, hcs, fun i hi => ⟨hT.out i hi, ?_⟩⟩, K2⟩
      exact csteps_lt 8 i (by omega)
theorem table_v (w : World) : Calls Try.prog 8 #[] w fun e w' => e = .returned (.agg (tabOf (csteps 8))) ∧ Keep [] w w' :=
  (table_c w).mono fun e w' ⟨v, he, hv, hk⟩ => ⟨by rw [he, hv.eq], hk⟩
theorem not32 (s : Nat) (hs : s < 4294967296) : bits .xor .u32 IntKind.u32.max (s : Int) = ((s ^^^ 4294967295 : Nat) : Int) := by
  have := u32_xor_nat 4294967295 s (by decide) hs
  rw [Nat.xor_comm]; exact this
set_option maxHeartbeats 1000000 in
theorem add_c (w : World) (tv : Value) (T : Nat → Nat) (s : Nat) (v : Value) (l : List UInt8) (ht : Tab tv T) (hs : s < 4294967296) (h : Bs w v l) : Calls Try.prog 15 #[tv, .int .u32 s, v] w fun e w' => e = .returned (.int .u32 (crcWith T s l)) ∧ Keep [] w w' := by
  obtain ⟨cs, rfl, hsz, hcs⟩ := ht
  have h0 := not32 s hs
  have hlt0 := xor_lt32 s 4294967295 hs (by decide)
  unfold crcWith
  generalize s ^^^ 4294967295 = x0 at h0 hlt0 ⊢
  have KA : Keep [] w (w.alloc (.cells cs 23)) := (Keep.refl [] w).alloc _
  have HB : Blk (w.alloc (.cells cs 23)) w.heap.size cs 23 := Blk.new w cs _
  have hB := h.keep KA (by simp)
  have hn : l.length ≤ 9223372036854775807 := by obtain ⟨_, _, _, h1, h2⟩ := h.shape; unfold maxLen at h2; omega
  have hcell : ∀ k (hk : k < l.length), ∃ b off cap, v = .slice (some ⟨b, off, none⟩) l.length cap ∧ (w.alloc (.cells cs 23)).cell? ⟨b, off + k, none⟩ = some (.int .u8 (l[k].toNat)) := by
    rcases hB.cases with ⟨rfl, _⟩ | ⟨hp, b, off, cap, rfl, h1, h2, hb, hc⟩
    · intro k hk; simp at hk
    · intro k hk; exact ⟨b, off, cap, rfl, hc k hk⟩
  have HC := Lib.hid hcell
  have HT := Lib.hid (fun i (hi : i < 256) => HB.cell i _ (hcs i hi).1)
  have HCs := Lib.hid hcs
  have H0 := Lib.hid h0
  obtain ⟨a, cap, rfl, _, _⟩ := h.shape
  clear hcell h hB hcs HB hsz h0
  go_enter Try.func15, Try.ntmps15
  go_wp2_with fail
  generalize w.alloc (.cells cs 23) = wA at KA HC HT ⊢
  generalize w.heap.size = r at HT ⊢
  go_loopw [7, 14] (fun vx vi wr => ∃ (k : Nat) (y : Nat), k ≤ l.length ∧ vi = .int .i64 k ∧ vx = .int .u32 y ∧ y < 4294967296 ∧ Hid (y = wfold T x0 (l.take k)) ∧ ∃ n, wr = wA.drewN n) (fun _ vi _ => l.length - (intOf vi).toNat)
  case atStart => exact ⟨0, x0, by omega, rfl, by rw [H0.out], hlt0, rfl, 0, rfl⟩
  case round =>
    obtain ⟨k, y, hk, rfl, rfl, hy, hh, n, rfl⟩ := hrel
    by_cases hlt : k < l.length
    · obtain ⟨b, off, cap', hv, e1⟩ := HC.out k hlt
      simp only [Value.slice.injEq] at hv
      obtain ⟨rfl, _, rfl⟩ := hv
      have hb := l[k].toNat_lt
      have hi2 : y % 256 ^^^ l[k].toNat < 256 := Nat.xor_lt_two_pow (n := 8) (by omega) hb
      have hi1 : bits .xor .u8 ((y : Int) % 256) (l[k].toNat : Int) = ((y % 256 ^^^ l[k].toNat : Nat) : Int) := by
        have := u8_xor_nat (y % 256) l[k].toNat (by omega) hb
        rw [← this]; simp
      have e2 := HT.out _ hi2
      have hTl := (HCs.out _ hi2).2
      have hx : bits .xor .u32 ((T (y % 256 ^^^ l[k].toNat) : Nat) : Int) ((y : Int) / 256) = ((wbyte T y l[k] : Nat) : Int) := by
        have := u32_xor_nat (T (y % 256 ^^^ l[k].toNat)) (y / 256) hTl (by omega)
        unfold wbyte
        rw [← this]; simp
      have hlx : wbyte T y l[k] < 4294967296 := xor_lt32 _ _ hTl (by omega)
      have hsn : Hid (wbyte T y l[k] = wfold T x0 (l.take (k + 1))) := by
        unfold Hid; rw [List.take_succ_eq_append_getElem hlt, wfold_snoc, ← hh.out]
      generalize wbyte T y l[k] = z at hx hlx hsn
      generalize T (y % 256 ^^^ l[k].toNat) = tt at e2 hTl hx
      generalize y % 256 ^^^ l[k].toNat = ii at hi1 hi2 e2
      generalize l[k].toNat = c at e1 hb hi1
      clear hh
      go_wp2_with fail
      go_roundw
      case rel => exact ⟨k + 1, z, by omega, by go_num, rfl, hlx, hsn, _, rfl⟩
      case measure => simp [intOf]; omega
    · obtain rfl : k = l.length := by omega
      have hx := not32 y hy
      have h := hh.out
      rw [List.take_of_length_le (Nat.le_refl _)] at h
      have HH := Lib.hid h; have HX := Lib.hid hx
      clear h hx hh
      go_wp2
      go_ret
      rw [← HH.out, ← HX.out]
      exact ⟨rfl, KA.drewN _⟩
theorem sum_c (w : World) (v : Value) (l : List UInt8) (h : Bs w v l) : Calls Try.prog 13 #[v] w fun e w' => e = .returned (.int .u32 (crcSum 0 l)) ∧ Keep [] w w' := by
  have hc := Lib.hid (crcWith_steps 0 l)
  go_enter Try.func13, Try.ntmps13
  go_wp2_with fail
  refine (table_c w).mono ?_; rintro e w1 ⟨tv, rfl, ht, k1⟩
  have ha := Lib.hid (add_c w1 tv _ 0 v l ht (by decide) (h.keep k1 (by simp)))
  go_wp2_with fail
  refine ha.out.mono ?_; rintro e w2 ⟨rfl, k2⟩
  go_wp2_with fail
  go_ret
  rw [← hc.out]
  exact ⟨rfl, k1.trans k2 (by simp)⟩
end Go.Proofs.Ytplamdejdibbhaa
