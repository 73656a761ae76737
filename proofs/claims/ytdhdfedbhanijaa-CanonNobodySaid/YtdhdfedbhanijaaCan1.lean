/- Contracts of canon's counts, first words, starts, weight, longest over arrays by lengths. -/
import Derived.Test.YtdhdfedbhanijaaRefCan4
import Derived.Test.YtdhdfedbhanijaaInts
namespace Go.Proofs.Ytdhdfedbhanijaa
set_option linter.unusedVariables false
set_option linter.unusedSimpArgs false
open Go.ChangeShapes Go.WideShapes Go.ChangeAt Go.RowKit

/-- an array by lengths -/
def BL (f : Nat → Nat) : Array Value := ((List.range 17).map fun n => Value.int .i64 (f n)).toArray
theorem BL_size (f : Nat → Nat) : (BL f).size = 17 := by simp [BL]
theorem BL_get (f : Nat → Nat) (n : Nat) (h : n < 17) : (BL f)[n]? = some (.int .i64 (f n)) := by
  simp [BL, List.getElem?_range h]
theorem BL_eq {cs : Array Value} {f : Nat → Nat} (hs : cs.size = 17) (h : ∀ n, n < 17 → cs[n]? = some (.int .i64 (f n))) : cs = BL f := by
  apply Array.ext_getElem?
  intro i
  by_cases hi : i < 17
  · rw [h i hi, BL_get f i hi]
  · rw [Array.getElem?_eq_none (by omega), Array.getElem?_eq_none (by rw [BL_size]; omega)]
theorem BL_set (f : Nat → Nat) (n : Nat) (y : Nat) (h : n < 17) : (BL f).setIfInBounds n (.int .i64 y) = BL fun i => if i = n then y else f i := by
  refine BL_eq (by simp [BL_size]) fun i hi => ?_
  rw [Array.getElem?_setIfInBounds, BL_size]
  by_cases e : n = i
  · subst e; simp [h]
  · rw [if_neg e, BL_get f i hi, if_neg (fun h => e h.symm)]
theorem BL_one (f : Nat → Nat) : ∀ v ∈ (BL f).toList, v.oneCell' = true := by
  intro v hv
  simp only [BL, List.mem_map] at hv
  obtain ⟨n, _, rfl⟩ := hv
  rfl
theorem BL_zero : BL (fun _ => 0) = Array.replicate 17 (.int .i64 0) := rfl
theorem lenInfo : (Try.prog.info? 64).map (fun i => (i.zero, i.size)) = some (some (.agg (Array.replicate 17 (.int .i64 0))), 17) := by kernel_rfl
theorem lenSize : (Try.prog.info? 64).map (·.size) = some 17 := by kernel_rfl
theorem wpList_loadL {ops : Array Oper} {rest : List Oper} {o : Oper} {a : Act} {w : World} {Q : Exit → Act → World → Prop} (hgd : o.guard = none) (x : Operand) (ho : o.op = .load 64 x)
    (g : Nat) (hx : a.eval x = .pointer (some ⟨g, 0, none⟩)) (f : Nat → Nat) (hb : Blk w g (BL f) 64)
    (h : wpList Try.prog ops Q rest (a.put o.dst (.agg (BL f))) w) : wpList Try.prog ops Q (o :: rest) a w :=
  wpList_load_row hgd 64 x ho g hx _ _ _ _ hb Try.underlying64 rfl (by rw [BL_size]; exact lenSize) h
theorem wpList_storeL {ops : Array Oper} {rest : List Oper} {o : Oper} {a : Act} {w : World} {Q : Exit → Act → World → Prop} (hgd : o.guard = none) (x y : Operand) (ho : o.op = .store 64 x y)
    (g : Nat) (f : Nat → Nat) (hx : a.eval x = .pointer (some ⟨g, 0, none⟩)) (hy : a.eval y = .agg (BL f)) (t : TypeId) (old : Array Value) (hb : Blk w g old t) (hold : old.size = 17)
    (h : wpList Try.prog ops Q rest (a.put o.dst undef) (w.setRow g (BL f))) : wpList Try.prog ops Q (o :: rest) a w :=
  wpList_store_row hgd 64 x y ho g _ hx hy t old hb (by rw [BL_size]; exact lenSize) (by rw [hold, BL_size]) (Array.all_eq_true_iff_forall_mem.2 fun v hv => BL_one f v (by simpa using hv)) h
theorem results_cellL {fn : Func} {p : Tmp} (h : fn.results = #[.cell p 64]) (tmps : Array Value) {w : World} {g : Nat} {f : Nat → Nat} (hp : tmps.getD p undef = .pointer (some ⟨g, 0, none⟩)) (hb : Blk w g (BL f) 64) :
    (results fn tmps).run Try.prog w = .ok (.agg (BL f)) w :=
  results_cellA h tmps hp hb _ Try.underlying64 rfl (by rw [BL_size]; exact lenSize)
/-- how many words have each length -/
def cnt (L : List Nat) (n : Nat) : Nat := if n = 0 then 0 else L.count n
/-- how many words are shorter -/
def stt (L : List Nat) : Nat → Nat
  | 0 => 0
  | n + 1 => stt L n + cnt L n
theorem cnt_le (L : List Nat) (n : Nat) : cnt L n ≤ L.length := by unfold cnt; split; omega; exact List.count_le_length
theorem stt_le (L : List Nat) (n : Nat) : stt L n ≤ n * L.length := by
  induction n with
  | zero => simp [stt]
  | succ n ih => have := cnt_le L n; rw [stt, Nat.add_mul]; omega
theorem maybe_c (w : World) (v : Value) (zs : List Int) (h : Is .i64 w v zs) : Calls Try.prog 40 #[v] w fun e w' => e = .returned (.bool (mayB zs)) ∧ ∃ n, w' = w.drewN n := by
  have hl := h.len
  have HI := Lib.hid (fun i hi => h.at i hi)
  obtain ⟨a, cap, rfl, _, _⟩ := h.shape
  by_cases hbig : 4096 < zs.length
  · have hb : mayB zs = false := by rw [Bool.eq_false_iff]; intro hm; have := (may_iff zs).1 hm; omega
    rw [hb]
    clear hb h
    go_enter Try.func40, Try.ntmps40
    go_wp2
    go_ret
    exact ⟨rfl, 0, rfl⟩
  clear h
  go_enter Try.func40, Try.ntmps40
  go_wp2_with fail
  go_loopw [10] (fun i wr => ∃ k : Nat, k ≤ zs.length ∧ i = .int .i64 k ∧ Hid (∀ j (hj : j < zs.length), j < k → 0 ≤ zs[j] ∧ zs[j] ≤ 16) ∧ ∃ n, wr = w.drewN n) (fun i _ => zs.length - (intOf i).toNat)
  case atStart => exact ⟨0, by omega, rfl, fun j _ hj => by omega, 0, rfl⟩
  case round =>
    obtain ⟨k, hk, rfl, HR, n, rfl⟩ := hrel
    by_cases hlt : k < zs.length
    · obtain ⟨b, off, cap', hv, e1⟩ := HI.out k hlt
      simp only [Value.slice.injEq] at hv
      obtain ⟨rfl, hvv, rfl⟩ := hv
      clear hvv
      by_cases hbad : zs[k] < 0 ∨ 16 < zs[k]
      · have hc := Lib.hid (bad_at k hlt hbad)
        generalize zs[k] = z at e1 hbad
        by_cases hneg : z < 0
        · clear hbad
          go_wp2_with fail
          go_ret
          exact ⟨by rw [hc.out]; rfl, _, rfl⟩
        · have : 16 < z := by omega
          clear hbad
          go_wp2_with fail
          go_ret
          exact ⟨by rw [hc.out]; rfl, _, rfl⟩
      · have HR2 : Hid (∀ j (hj : j < zs.length), j < k + 1 → 0 ≤ zs[j] ∧ zs[j] ≤ 16) := by
          intro j hj hjk
          by_cases e : j = k
          · subst e; omega
          · exact HR.out j hj (by omega)
        generalize zs[k] = z at e1 hbad
        have h1 : 0 ≤ z := by omega
        have h2 : z ≤ 16 := by omega
        clear hbad HR
        go_wp2_with fail
        go_roundw
        case rel => exact ⟨k + 1, by omega, by go_num, HR2, _, rfl⟩
        case measure => simp [intOf]; omega
    · obtain rfl : k = zs.length := by omega
      have hm : mayB zs = true := (may_iff zs).2 ⟨by omega, fun z hz => by
        obtain ⟨j, hj, rfl⟩ := List.getElem_of_mem hz
        exact HR.out j hj hj⟩
      have HM := Lib.hid hm
      clear hm HR
      go_wp2_with fail
      go_ret
      exact ⟨by rw [HM.out]; rfl, _, rfl⟩

theorem acc_le (zs : List Int) (hm : mayB zs = true) (n : Nat) (hn : n ≤ 16) : acc (Ln zs) n ≤ 4096 * 32768 := by
  have h1 := acc_mono (Ln zs) n 16 hn
  rw [acc16 _ (may_Ln hm)] at h1
  have := wt_le zs 4096 ((may_iff zs).1 hm).1
  omega
theorem fst_le (zs : List Int) (hm : mayB zs = true) (n : Nat) (hn : n ≤ 16) : fst (Ln zs) n ≤ 4096 * 32768 := by
  cases n with
  | zero => simp [fst]
  | succ n =>
    have h1 := fst_acc (Ln zs) n (by omega)
    have h2 := acc_le zs hm n (by omega)
    have h3 : 0 < 2 ^ (16 - (n + 1)) := Nat.pow_pos (by decide)
    have := Nat.le_mul_of_pos_right (fst (Ln zs) (n + 1)) h3
    omega
set_option maxHeartbeats 2000000 in
theorem counts_c (w : World) (v : Value) (zs : List Int) (h : Is .i64 w v zs) (hm : mayB zs = true) : Calls Try.prog 33 #[v] w fun e w' => e = .returned (.agg (BL (cnt (Ln zs)))) ∧ Keep [] w w' := by
  have hz := (zero_of_info (P := Try.prog) lenInfo).1
  have hsz := (zero_of_info (P := Try.prog) lenInfo).2
  rw [← BL_zero] at hz
  have hl := ((may_iff zs).1 hm).1
  have HM := Lib.hid (may_get hm)
  have KA : Keep [] w ((w.alloc (.cells (BL fun _ => 0) 64)).alloc (.cells (BL fun _ => 0) 64)) := ((Keep.refl [] w).alloc _).alloc _
  have HI := Lib.hid (fun i hi => h.at i hi)
  obtain ⟨a, cap, rfl, _, _⟩ := h.shape
  have hb0 : Blk ((w.alloc (.cells (BL fun _ => 0) 64)).alloc (.cells (BL fun _ => 0) 64)) w.heap.size (BL fun _ => 0) 64 := (Blk.new w _ _).alloc _
  have hb1 : Blk ((w.alloc (.cells (BL fun _ => 0) 64)).alloc (.cells (BL fun _ => 0) 64)) (w.heap.size + 1) (BL fun _ => 0) 64 := by
    have := Blk.new (w.alloc (.cells (BL fun _ => 0) 64)) (BL fun _ => 0) 64
    simpa using this
  clear h
  generalize hZ : BL (fun _ => 0) = Z at hz hb0 hb1 KA HI
  have HZ := Lib.hid hZ
  have HS := Lib.hid hsz
  clear hZ hsz
  go_enter Try.func33, Try.ntmps33
  go_wp2_with fail
  go_loopw [8] (fun i wr => ∃ k : Nat, k ≤ zs.length ∧ i = .int .i64 k ∧ Blk wr (w.heap.size + 1) (BL fun n => ((Ln zs).take k).count n) 64 ∧ Blk wr w.heap.size Z 64 ∧ Keep [] w wr) (fun i _ => zs.length - (intOf i).toNat)
  case atStart => exact ⟨0, by omega, rfl, by simpa [HZ.out] using hb1, hb0, KA⟩
  case round =>
    obtain ⟨k, hk, rfl, h1, h0, KK⟩ := hrel
    by_cases hlt : k < zs.length
    · obtain ⟨b, off, cap', hv, e1⟩ := HI.out k hlt
      simp only [Value.slice.injEq] at hv
      obtain ⟨rfl, hvv, rfl⟩ := hv
      obtain ⟨hz1, hz2⟩ := HM.out k hlt
      have hsn : (Ln zs).take (k + 1) = (Ln zs).take k ++ [len (Ln zs) k] := by
        have hk2 : k < (Ln zs).length := by rw [Ln_length]; exact hlt
        rw [List.take_succ_eq_append_getElem hk2, len_get _ _ hk2]
      rw [hz1] at e1
      have e2 := KK.cellW e1
      have c1 := h1.cell (len (Ln zs) k) _ (BL_get _ _ (by omega))
      have f1 := h1.free (len (Ln zs) k)
      have hcl : ((Ln zs).take k).count (len (Ln zs) k) ≤ k := Nat.le_trans List.count_le_length (by rw [List.length_take]; omega)
      have hs1 := h1.set (len (Ln zs) k) (.int .i64 (((Ln zs).take k).count (len (Ln zs) k) + 1 : Nat))
      rw [BL_set _ _ _ (by omega)] at hs1
      have he : (BL fun i => if i = len (Ln zs) k then ((Ln zs).take k).count (len (Ln zs) k) + 1 else ((Ln zs).take k).count i) = BL fun n => ((Ln zs).take (k + 1)).count n := by
        congr 1; funext i
        rw [hsn, List.count_append]
        by_cases e : i = len (Ln zs) k
        · subst e; simp
        · rw [if_neg e]; simp [List.count_cons, Ne.symm e]
      rw [he] at hs1
      have h0' : Blk (wr.setCell ⟨w.heap.size + 1, len (Ln zs) k, none⟩ (.int .i64 (((Ln zs).take k).count (len (Ln zs) k) + 1 : Nat))) w.heap.size Z 64 := h0.other (by simp) _
      have KK' : Keep [] w (wr.setCell ⟨w.heap.size + 1, len (Ln zs) k, none⟩ (.int .i64 (((Ln zs).take k).count (len (Ln zs) k) + 1 : Nat))) := KK.setCell (.inr (by simp)) _
      generalize ((Ln zs).take k).count (len (Ln zs) k) = cc at c1 hcl hs1 h0' KK'
      generalize len (Ln zs) k = z at *
      clear hvv hz1 hsn he e1
      go_wp2_with fail
      go_roundw
      case rel => exact ⟨k + 1, by omega, by go_num, hs1, h0', KK'⟩
      case measure => simp [intOf]; omega
    · obtain rfl : k = zs.length := by omega
      rw [List.take_of_length_le (by rw [Ln_length]; omega)] at h1
      have f1 := h1.free 0
      have c1 := h1.cell 0 _ (BL_get _ _ (by omega))
      have hs1 := h1.set 0 (.int .i64 (0 : Nat))
      rw [BL_set _ _ _ (by omega)] at hs1
      have h0' : Blk (wr.setCell ⟨w.heap.size + 1, 0, none⟩ (.int .i64 (0 : Nat))) w.heap.size Z 64 := h0.other (by simp) _
      have KK' : Keep [] w (wr.setCell ⟨w.heap.size + 1, 0, none⟩ (.int .i64 (0 : Nat))) := KK.setCell (.inr (by simp)) _
      have he : (BL fun i => if i = 0 then 0 else (Ln zs).count i) = BL (cnt (Ln zs)) := rfl
      rw [he] at hs1
      have hb2 := h0'.setRow (BL (cnt (Ln zs)))
      have K2 : Keep [] w ((wr.setCell ⟨w.heap.size + 1, 0, none⟩ (.int .i64 (0 : Nat))).setRow w.heap.size (BL (cnt (Ln zs)))) := KK'.trans (Keep.setRow _) (by simp)
      have hz17 : Z.size = 17 := by rw [← HZ.out, BL_size]
      clear hb0 hb1 KA h1 h0 KK KK' HI he
      go_wp2_with (first | refine wpList_loadL rfl _ rfl _ rfl _ hs1 ?_ | refine wpList_storeL rfl _ _ rfl _ _ rfl rfl _ _ h0' hz17 ?_)
      refine bodyPost_ret (results_cellL rfl _ rfl hb2) rfl ?_
      exact ⟨rfl, K2⟩
set_option maxHeartbeats 2000000 in
theorem weight_c (w : World) (L : List Nat) (hb : ∀ n, n ≤ 16 → acc L n ≤ 4096 * 32768) (hL : L.length ≤ 4096) : Calls Try.prog 41 #[.agg (BL (cnt L))] w fun e w' => e = .returned (.int .i64 (acc L 16)) ∧ Keep [] w w' := by
  have HB := Blk.new w (BL (cnt L)) 64
  have KA : Keep [] w (w.alloc (.cells (BL (cnt L)) 64)) := (Keep.refl [] w).alloc _
  have HC := Lib.hid (cnt_le L)
  have HA := Lib.hid hb
  go_enter Try.func41, Try.ntmps41
  go_wp2_with (refine wpList_loadL rfl _ rfl _ rfl _ HB ?_)
  generalize w.alloc (.cells (BL (cnt L)) 64) = wA at HB KA ⊢
  have HI := Lib.hid (fun (w : World) (k : Nat) (hk : k < 17) => run_index_arr (P := Try.prog) w 64 3 17 .i64 _ _ .i64 k _ Try.underlying64 Try.underlying3 rfl rfl hk (BL_get (cnt L) k hk))
  go_loopw [3, 7] (fun x i wr => ∃ k y : Nat, k ≤ 17 ∧ i = .int .i64 k ∧ x = .int .i64 y ∧ y ≤ 4096 * 32768 ∧ Hid (y = acc L (k - 1)) ∧ ∃ n, wr = wA.drewN n) (fun _ i _ => 17 - (intOf i).toNat)
  case atStart => exact ⟨0, 0, by omega, rfl, rfl, by omega, rfl, 0, rfl⟩
  case round =>
    obtain ⟨k, y, hk, rfl, rfl, hy, HY, n, rfl⟩ := hrel
    by_cases hlt : k < 17
    · have hi := HI.out (wA.drewN n) k hlt
      have hc := HC.out k
      have hn : acc L k = y + cnt L k * 2 ^ (16 - k) := by
        rw [HY.out]
        cases k with
        | zero => simp [acc, cnt]
        | succ k => rw [acc, Nat.add_sub_cancel]; simp [cnt]
      have hn2 := HA.out k (by omega)
      rw [hn] at hn2
      have hs : ((16 : Int) - k).toNat = 16 - k := by omega
      generalize hq : cnt L k * 2 ^ (16 - k) = q at hn hn2
      generalize cnt L k = c at hi hc hq
      go_wp2_with fail
      have e : wrap64 ((c : Int) * 2 ^ (16 - k)) = (q : Int) := by
        rw [show (c : Int) * 2 ^ (16 - k) = (q : Int) by rw [← hq]; simp]
        unfold wrap64; omega
      rw [e, IntWalk.wrap64_in _ (by omega)]
      refine ⟨⟨k + 1, y + q, by omega, by go_num, by go_num, hn2, by rw [Nat.add_sub_cancel]; exact hn.symm, n, rfl⟩, ?_⟩
      simp [intOf]; omega
    · obtain rfl : k = 17 := by omega
      go_wp2_with fail
      go_ret
      exact ⟨by rw [HY.out]; rfl, KA.drewN n⟩
theorem upto1 (f : Nat → Nat) (h : f 0 = 0) : (fun n => if n < 1 then f n else 0) = fun _ => 0 := by
  funext n
  by_cases e : n = 0
  · subst e; simp [h]
  · rw [if_neg (by omega)]
theorem uptoS (f : Nat → Nat) (m : Nat) : (fun i => if i = m then f m else if i < m then f i else 0) = fun n => if n < m + 1 then f n else 0 := by
  funext n
  by_cases e : n = m
  · subst e; simp
  · rw [if_neg e]
    by_cases e2 : n < m
    · rw [if_pos e2, if_pos (by omega)]
    · rw [if_neg e2, if_neg (by omega)]
theorem upto17 (f : Nat → Nat) : BL (fun n => if n < 17 then f n else 0) = BL f := by
  refine BL_eq (BL_size _) fun n hn => ?_
  rw [BL_get _ _ hn, if_pos hn]
set_option maxHeartbeats 2000000 in
theorem firsts_c (w : World) (L : List Nat) (hb : ∀ n, n ≤ 16 → fst L n ≤ 4096 * 32768) (hL : L.length ≤ 4096) : Calls Try.prog 34 #[.agg (BL (cnt L))] w fun e w' => e = .returned (.agg (BL (fst L))) ∧ Keep [] w w' := by
  have hz := (zero_of_info (P := Try.prog) lenInfo).1
  rw [← BL_zero] at hz
  have HB := Blk.new w (BL (cnt L)) 64
  have KA : Keep [] w (w.alloc (.cells (BL (cnt L)) 64)) := (Keep.refl [] w).alloc _
  have HC := Lib.hid (cnt_le L)
  have HA := Lib.hid hb
  generalize hZ : BL (fun _ => 0) = Z at hz
  have HZ := Lib.hid hZ
  clear hZ
  go_enter Try.func34, Try.ntmps34
  go_wp2_with fail
  have hb0 : Blk (((w.alloc (.cells (BL (cnt L)) 64)).alloc (.cells Z 64)).alloc (.cells Z 64)) w.heap.size (BL (cnt L)) 64 := (HB.alloc _).alloc _
  have hb1 : Blk (((w.alloc (.cells (BL (cnt L)) 64)).alloc (.cells Z 64)).alloc (.cells Z 64)) (w.heap.size + 1) Z 64 := by
    have := (Blk.new (w.alloc (.cells (BL (cnt L)) 64)) Z 64).alloc (.cells Z 64)
    simpa using this
  have hb2 : Blk (((w.alloc (.cells (BL (cnt L)) 64)).alloc (.cells Z 64)).alloc (.cells Z 64)) (w.heap.size + 1 + 1) Z 64 := by
    have := Blk.new ((w.alloc (.cells (BL (cnt L)) 64)).alloc (.cells Z 64)) Z 64
    simpa using this
  have KB := (KA.alloc (.cells Z 64)).alloc (.cells Z 64)
  have hz17 : Z.size = 17 := by rw [← HZ.out, BL_size]
  generalize ((w.alloc (.cells (BL (cnt L)) 64)).alloc (.cells Z 64)).alloc (.cells Z 64) = wA at hb0 hb1 hb2 KB ⊢
  clear HB KA
  go_loopw [4] (fun i wr => ∃ k : Nat, 1 ≤ k ∧ k ≤ 17 ∧ i = .int .i64 k ∧ Blk wr w.heap.size (BL (cnt L)) 64 ∧ Blk wr (w.heap.size + 1) Z 64 ∧ Blk wr (w.heap.size + 1 + 1) (BL fun n => if n < k then fst L n else 0) 64 ∧ Keep [] w wr) (fun i _ => 17 - (intOf i).toNat)
  case atStart => exact ⟨1, by omega, by omega, rfl, hb0, hb1, by
    rw [← HZ.out] at hb2
    rw [upto1 (fst L) rfl]; exact hb2, KB⟩
  case round =>
    obtain ⟨k, hk1, hk, rfl, h0, h1, h2, KK⟩ := hrel
    by_cases hlt : k < 17
    · obtain ⟨m, rfl⟩ : ∃ m, k = m + 1 := ⟨k - 1, by omega⟩
      have c1 := h2.cell m _ (BL_get _ _ (by omega))
      rw [if_pos (by omega)] at c1
      have c2 := h0.cell m _ (BL_get _ _ (by omega))
      have hc := HC.out m
      have hn : fst L (m + 1) = 2 * (fst L m + cnt L m) := by rw [fst]; congr 1
      have hn2 := HA.out (m + 1) (by omega)
      rw [hn] at hn2
      have hd0 := h0.drewN 1
      have hd1 := h1.drewN 1
      have hd2 := h2.drewN 1
      have KD := KK.drewN 1
      clear h0 h1 h2 KK
      have HF : Hid (fst L (m + 1) = 2 * (fst L m + cnt L m)) := hn
      clear hn
      generalize hcc : cnt L m = c at c2 hc hn2 HF
      generalize haa : fst L m = a at c1 hn2 HF
      go_wp2_with fail
      have hm0 : (0 : Int) ≤ m + 1 := by omega
      have hm17 : (m : Int) < 17 := by omega
      have hw1 : IntKind.i64.wrap (m : Int) = m := by rw [IntKind.wrap_i64]; omega
      have hw2 : IntKind.i64.wrap ((a : Int) + c) = a + c := by rw [IntKind.wrap_i64]; omega
      have hw3 : IntKind.i64.wrap (((a : Int) + c) * 2) = 2 * (a + c) := by rw [IntKind.wrap_i64]; omega
      go_still_tail 12, (by kernel_rfl)
      change wpList _ _ _ _ _ (wr.drewN 1)
      generalize wr.drewN 1 = w2 at hd0 hd1 hd2 KD ⊢
      have f1 := hd2.free (m + 1)
      have c3 := hd2.cell (m + 1) _ (BL_get _ _ (by omega))
      have hs2 := hd2.set (m + 1) (.int .i64 (fst L (m + 1) : Nat))
      rw [BL_set _ _ _ (by omega), uptoS (fst L), HF.out] at hs2
      have hs1 := hd1.other (p := ⟨w.heap.size + 1 + 1, m + 1, none⟩) (by simp) (.int .i64 (2 * (a + c) : Nat))
      have hs0 := hd0.other (p := ⟨w.heap.size + 1 + 1, m + 1, none⟩) (by simp; omega) (.int .i64 (2 * (a + c) : Nat))
      have KS : Keep [] w (w2.setCell ⟨w.heap.size + 1 + 1, m + 1, none⟩ (.int .i64 (2 * (a + c) : Nat))) := KD.setCell (.inr (by simp; omega)) _
      clear hd0 hd1 hd2 KD hcc haa
      go_wp2_with fail
      go_roundw
      case rel => exact ⟨m + 2, by omega, by omega, by go_num, hs0, hs1, hs2, KS⟩
      case measure => simp [intOf]; omega
    · obtain rfl : k = 17 := by omega
      rw [upto17] at h2
      have hb3 := h1.setRow (BL (fst L))
      have K2 : Keep [] w (wr.setRow (w.heap.size + 1) (BL (fst L))) := KK.trans (Keep.setRow _) (by simp)
      go_wp2_with (first | refine wpList_loadL rfl _ rfl _ rfl _ h2 ?_ | refine wpList_storeL rfl _ _ rfl _ _ rfl rfl _ _ h1 hz17 ?_)
      refine bodyPost_ret (results_cellL rfl _ rfl hb3) rfl ?_
      exact ⟨rfl, K2⟩
set_option maxHeartbeats 2000000 in
theorem starts_c (w : World) (L : List Nat) (hL : L.length ≤ 4096) : Calls Try.prog 38 #[.agg (BL (cnt L))] w fun e w' => e = .returned (.agg (BL (stt L))) ∧ Keep [] w w' := by
  have hz := (zero_of_info (P := Try.prog) lenInfo).1
  rw [← BL_zero] at hz
  have HB := Blk.new w (BL (cnt L)) 64
  have KA : Keep [] w (w.alloc (.cells (BL (cnt L)) 64)) := (Keep.refl [] w).alloc _
  have HC := Lib.hid (cnt_le L)
  have HA := Lib.hid (stt_le L)
  generalize hZ : BL (fun _ => 0) = Z at hz
  have HZ := Lib.hid hZ
  clear hZ
  go_enter Try.func38, Try.ntmps38
  go_wp2_with fail
  have hb0 : Blk (((w.alloc (.cells (BL (cnt L)) 64)).alloc (.cells Z 64)).alloc (.cells Z 64)) w.heap.size (BL (cnt L)) 64 := (HB.alloc _).alloc _
  have hb1 : Blk (((w.alloc (.cells (BL (cnt L)) 64)).alloc (.cells Z 64)).alloc (.cells Z 64)) (w.heap.size + 1) Z 64 := by
    have := (Blk.new (w.alloc (.cells (BL (cnt L)) 64)) Z 64).alloc (.cells Z 64)
    simpa using this
  have hb2 : Blk (((w.alloc (.cells (BL (cnt L)) 64)).alloc (.cells Z 64)).alloc (.cells Z 64)) (w.heap.size + 1 + 1) Z 64 := by
    have := Blk.new ((w.alloc (.cells (BL (cnt L)) 64)).alloc (.cells Z 64)) Z 64
    simpa using this
  have KB := (KA.alloc (.cells Z 64)).alloc (.cells Z 64)
  have hz17 : Z.size = 17 := by rw [← HZ.out, BL_size]
  generalize ((w.alloc (.cells (BL (cnt L)) 64)).alloc (.cells Z 64)).alloc (.cells Z 64) = wA at hb0 hb1 hb2 KB ⊢
  clear HB KA
  go_loopw [4] (fun i wr => ∃ k : Nat, 1 ≤ k ∧ k ≤ 17 ∧ i = .int .i64 k ∧ Blk wr w.heap.size (BL (cnt L)) 64 ∧ Blk wr (w.heap.size + 1) Z 64 ∧ Blk wr (w.heap.size + 1 + 1) (BL fun n => if n < k then stt L n else 0) 64 ∧ Keep [] w wr) (fun i _ => 17 - (intOf i).toNat)
  case atStart => exact ⟨1, by omega, by omega, rfl, hb0, hb1, by
    rw [← HZ.out] at hb2
    rw [upto1 (stt L) rfl]; exact hb2, KB⟩
  case round =>
    obtain ⟨k, hk1, hk, rfl, h0, h1, h2, KK⟩ := hrel
    by_cases hlt : k < 17
    · obtain ⟨m, rfl⟩ : ∃ m, k = m + 1 := ⟨k - 1, by omega⟩
      have c1 := h2.cell m _ (BL_get _ _ (by omega))
      rw [if_pos (by omega)] at c1
      have c2 := h0.cell m _ (BL_get _ _ (by omega))
      have hc := HC.out m
      have hn : stt L (m + 1) = stt L m + cnt L m := by rw [stt]
      have hn2 : stt L (m + 1) ≤ 17 * 4096 := by have := HA.out (m + 1); have := Nat.mul_le_mul (show m + 1 ≤ 17 by omega) hL; omega
      rw [hn] at hn2
      have hd0 := h0.drewN 1
      have hd1 := h1.drewN 1
      have hd2 := h2.drewN 1
      have KD := KK.drewN 1
      clear h0 h1 h2 KK
      have HF : Hid (stt L (m + 1) = stt L m + cnt L m) := hn
      clear hn
      generalize hcc : cnt L m = c at c2 hc hn2 HF
      generalize haa : stt L m = a at c1 hn2 HF
      go_wp2_with fail
      have hm0 : (0 : Int) ≤ m + 1 := by omega
      have hm17 : (m : Int) < 17 := by omega
      have hw1 : IntKind.i64.wrap (m : Int) = m := by rw [IntKind.wrap_i64]; omega
      have hw2 : IntKind.i64.wrap ((a : Int) + c) = a + c := by rw [IntKind.wrap_i64]; omega
      go_still_tail 11, (by kernel_rfl)
      change wpList _ _ _ _ _ (wr.drewN 1)
      generalize wr.drewN 1 = w2 at hd0 hd1 hd2 KD ⊢
      have f1 := hd2.free (m + 1)
      have c3 := hd2.cell (m + 1) _ (BL_get _ _ (by omega))
      have hs2 := hd2.set (m + 1) (.int .i64 (stt L (m + 1) : Nat))
      rw [BL_set _ _ _ (by omega), uptoS (stt L), HF.out] at hs2
      have hs1 := hd1.other (p := ⟨w.heap.size + 1 + 1, m + 1, none⟩) (by simp) (.int .i64 (a + c : Nat))
      have hs0 := hd0.other (p := ⟨w.heap.size + 1 + 1, m + 1, none⟩) (by simp; omega) (.int .i64 (a + c : Nat))
      have KS : Keep [] w (w2.setCell ⟨w.heap.size + 1 + 1, m + 1, none⟩ (.int .i64 (a + c : Nat))) := KD.setCell (.inr (by simp; omega)) _
      clear hd0 hd1 hd2 KD hcc haa
      go_wp2_with fail
      go_roundw
      case rel => exact ⟨m + 2, by omega, by omega, by go_num, hs0, hs1, hs2, KS⟩
      case measure => simp [intOf]; omega
    · obtain rfl : k = 17 := by omega
      rw [upto17] at h2
      have hb3 := h1.setRow (BL (stt L))
      have K2 : Keep [] w (wr.setRow (w.heap.size + 1) (BL (stt L))) := KK.trans (Keep.setRow _) (by simp)
      go_wp2_with (first | refine wpList_loadL rfl _ rfl _ rfl _ h2 ?_ | refine wpList_storeL rfl _ _ rfl _ _ rfl rfl _ _ h1 hz17 ?_)
      refine bodyPost_ret (results_cellL rfl _ rfl hb3) rfl ?_
      exact ⟨rfl, K2⟩
theorem longest_cnt (L : List Nat) (hL : ∀ x ∈ L, x ≤ 16) (n : Nat) (h : ∀ m, n < m → m ≤ 16 → cnt L m = 0) : longest L ≤ n := by
  refine longest_le L n fun x hx => ?_
  rcases Nat.lt_or_ge n x with h1 | h1
  · have h2 := h x h1 (hL x hx)
    unfold cnt at h2
    rw [if_neg (by omega)] at h2
    have := List.count_pos_iff.2 hx
    omega
  · exact h1
theorem longest_ge_cnt (L : List Nat) (n : Nat) (h : cnt L n ≠ 0) : n ≤ longest L := by
  unfold cnt at h
  by_cases h0 : n = 0
  · omega
  · rw [if_neg h0] at h
    have hm : n ∈ L := List.count_pos_iff.1 (by omega)
    obtain ⟨i, hi, e⟩ := List.getElem_of_mem hm
    have := longest_ge L i
    rw [len_get L i hi, e] at this
    exact this
set_option maxHeartbeats 2000000 in
theorem blongest_c (w : World) (L : List Nat) (hL : ∀ x ∈ L, x ≤ 16) : Calls Try.prog 37 #[.agg (BL (cnt L))] w fun e w' => e = .returned (.int .i64 (longest L)) ∧ Keep [] w w' := by
  have HB := Blk.new w (BL (cnt L)) 64
  have KA : Keep [] w (w.alloc (.cells (BL (cnt L)) 64)) := (Keep.refl [] w).alloc _
  have HL := Lib.hid (longest_cnt L hL)
  have HG := Lib.hid (longest_ge_cnt L)
  clear hL
  go_enter Try.func37, Try.ntmps37
  go_wp2_with fail
  generalize w.alloc (.cells (BL (cnt L)) 64) = wA at HB KA ⊢
  go_loopw [3] (fun i wr => ∃ k : Nat, k ≤ 16 ∧ i = .int .i64 k ∧ Hid (∀ m, k < m → m ≤ 16 → cnt L m = 0) ∧ ∃ n, wr = wA.drewN n) (fun i _ => (intOf i).toNat)
  case atStart => exact ⟨16, by omega, rfl, fun m h1 h2 => by omega, 0, rfl⟩
  case round =>
    obtain ⟨k, hk, rfl, HR, n, rfl⟩ := hrel
    by_cases h0 : k = 0
    · subst h0
      have HF := Lib.hid (Nat.le_zero.1 (HL.out 0 HR.out))
      go_wp2_with fail
      go_ret
      exact ⟨by rw [HF.out]; rfl, KA.drewN n⟩
    · have c1 := (HB.drewN n).cell k _ (BL_get _ _ (by omega))
      have hkp : (0 : Int) < k := by omega
      have hk17 : (k : Int) < 17 := by omega
      have h00 : (0 : Int) ≤ k := by omega
      by_cases hc : cnt L k = 0
      · have HR2 : Hid (∀ m, k - 1 < m → m ≤ 16 → cnt L m = 0) := by
          intro m h1 h2
          by_cases e : m = k
          · subst e; exact hc
          · exact HR.out m (by omega) h2
        rw [hc] at c1
        clear hc HR
        go_wp2_with fail
        go_roundw
        case rel => exact ⟨k - 1, by omega, by go_num, HR2, n, rfl⟩
        case measure => simp [intOf]; omega
      · have HF : Hid (longest L = k) := by
          have h1 := HL.out k HR.out
          have h2 := HG.out k hc
          unfold Hid; omega
        have hb : (((cnt L k : Nat) : Int) == 0) = false := by simp; omega
        generalize cnt L k = c at c1 hb
        clear hc
        go_wp2_with fail
        go_ret
        exact ⟨by rw [HF.out]; rfl, KA.drewN n⟩
end Go.Proofs.Ytdhdfedbhanijaa
