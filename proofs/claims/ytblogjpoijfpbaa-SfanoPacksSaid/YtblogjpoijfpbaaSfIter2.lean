/- sfano's fromLast hands out the symbols as they stand by falling lengths, of one length by falling symbols. -/
import Derived.Test.YtblogjpoijfpbaaSfIter
namespace Go.Proofs.Ytblogjpoijfpbaa
set_option linter.unusedVariables false
set_option linter.unusedSimpArgs false
open Go.ChangeShapes Go.WideShapes Go.ChangeAt Go.RowKit Go.Shelf
attribute [local go_sem] Oper.semAt_some

theorem Mks.alloc {B : Nat} {Ds : List Nat} {W : World} (h : Mks B Ds W) (o : Obj) : Mks B Ds (W.alloc o) :=
  ⟨h.nodup, fun D hD => ⟨(h.at_ D hD).1, (((Keep.refl [] W).alloc o).block D (Array.getElem?_eq_some_iff.1 (h.at_ D hD).2).1 (by simp)).trans (h.at_ D hD).2⟩⟩
theorem keepsFrom_of {B : Nat} {S : List Nat} {W W' : World} (h : Keep S W W') (hs : ∀ x ∈ S, x < B) : KeepsFrom B W W' :=
  ⟨h.size, fun k o hB hk _ => (h.block k (Array.getElem?_eq_some_iff.1 hk).1 (fun hm => by have := hs k hm; omega)).trans hk⟩
/-- what stands between two rounds over lengths: n is the next length, pre has been handed out -/
structure FL (L : List Nat) (S : List Nat) (l by_ bn : Nat) (J : Nat → World → Prop) (W0 : World) (n : Nat) (pre : List Nat) (Ds : List Nat) (W : World) : Prop where
  le : n ≤ 16
  split : ordS L 16 = pre ++ ordS L n
  j : J pre.length W
  yield_ : W.cell? ⟨by_, 0, none⟩ = some (.func (.yield l) #[] #[])
  num : W.cell? ⟨bn, 0, none⟩ = some (.int .i64 n)
  lts : W0.heap.size ≤ by_ ∧ W0.heap.size ≤ bn ∧ by_ < W.heap.size ∧ bn < W.heap.size
  mks : Mks W0.heap.size Ds W
  len : Ds.length + n = 16
  keep : Keep (l :: S) W0 W
theorem FL.alloc {L S : List Nat} {l by_ bn : Nat} {J : Nat → World → Prop} {W0 : World} {n : Nat} {pre Ds : List Nat} {W : World} (h : FL L S l by_ bn J W0 n pre Ds W) (hJ : OwnFrom W0.heap.size J) (o : Obj) : FL L S l by_ bn J W0 n pre Ds (W.alloc o) :=
  ⟨h.le, h.split, hJ.alloc o h.j, ((Keep.refl [] W).alloc o).cell h.yield_ (by simp), ((Keep.refl [] W).alloc o).cell h.num (by simp), by have := h.lts; simp; omega, h.mks.alloc o, h.len, h.keep.alloc o⟩
set_option maxRecDepth 100000 in
set_option maxHeartbeats 4000000 in
theorem fromlast_steps (S : List Nat) (Bs g off cap : Nat) (L : List Nat) (hL : L.length ≤ 256) (w : World) (hBn : Bs < w.heap.size) (hgn : g < w.heap.size) (hBS : Bs ∉ S) (hgS : g ∉ S) (hSn : ∀ x ∈ S, x < w.heap.size)
    (hb : w.cell? ⟨Bs, 0, none⟩ = some (.slice (some ⟨g, off, none⟩) L.length cap)) (hv : ∀ j, j < L.length → w.cell? ⟨g, off + j, none⟩ = some (.int .i64 (len L j))) :
    StepsByO Try.prog 48 #[.pointer (some ⟨Bs, 0, none⟩)] (fun j : Nat => #[.int .i64 j]) S (ordS L 16) w := by
  intro l J W hl1 hl2 hW hJo hY h0
  rw [callsIn_wide]
  rw [← callsIn_wide (n := 5)]
  have hBW : ∀ k, k < w.heap.size → W.heap[k]? = w.heap[k]? := fun k hk => hW.block k hk
  have HB := Lib.hid ((World.cell?_of_block (w := w) (a := ⟨Bs, 0, none⟩) (hBW Bs hBn)).trans hb)
  have HV := Lib.hid (fun j hj => (World.cell?_of_block (w := w) (a := ⟨g, off + j, none⟩) (hBW g hgn)).trans (hv j hj))
  have HY := Lib.hid hY
  have HN : Hid (Bs < W.heap.size ∧ g < W.heap.size ∧ l < W.heap.size ∧ w.heap.size ≤ l ∧ Bs < w.heap.size ∧ g < w.heap.size) := ⟨by omega, by omega, hl2, hl1, hBn, hgn⟩
  have HS : Hid ((∀ x ∈ S, x < w.heap.size) ∧ Bs ∉ S ∧ g ∉ S) := ⟨hSn, hBS, hgS⟩
  have HJo := Lib.hid hJo
  clear hb hv hY hW hBn hgn hSn hBS hgS hl1 hl2 hBW hJo
  refine callsIn_of_wp_marks Try.func48 rfl trivial ?_ rfl
  simp only [Try.ntmps48, List.size_toArray, List.length_cons, List.length_nil, Nat.reduceAdd, Nat.reduceSub, Array.replicate_succ, Array.replicate_zero, List.push_toArray, List.append_toArray, List.nil_append, List.cons_append]
  gi_wp2_with fail
  have hFL : FL L S l W.heap.size (W.heap.size + 1) J W 16 [] [] ((W.alloc (.cells #[.func (.yield l) #[] #[]] 70)).alloc (.cells #[.int .i64 16] 3)) := by
    have hk : Keep (l :: S) W ((W.alloc (.cells #[.func (.yield l) #[] #[]] 70)).alloc (.cells #[.int .i64 16] 3)) := ((Keep.refl _ W).alloc _).alloc _
    have b1 := (Blk.new W #[.func (.yield l) #[] #[]] 70).alloc (.cells #[.int .i64 16] 3)
    have b2 := Blk.new (W.alloc (.cells #[.func (.yield l) #[] #[]] 70)) #[.int .i64 16] 3
    rw [World.size_alloc] at b2
    exact ⟨by omega, rfl, HJo.out.alloc _ (HJo.out.alloc _ h0), b1.cell 0 _ rfl, b2.cell 0 _ rfl, by simp; omega, ⟨List.nodup_nil, fun D hD => by cases hD⟩, rfl, hk⟩
  obtain ⟨by_, hby⟩ : ∃ x, W.heap.size = x := ⟨_, rfl⟩
  rw [show W.heap.size + 1 = by_ + 1 by omega] at hFL ⊢
  have hFL2 : FL L S l by_ (by_ + 1) J W 16 [] [] ((W.alloc (.cells #[.func (.yield l) #[] #[]] 70)).alloc (.cells #[.int .i64 16] 3)) := by rw [← hby]; rw [← hby] at hFL; exact hFL
  clear hFL
  generalize ((W.alloc (.cells #[.func (.yield l) #[] #[]] 70)).alloc (.cells #[.int .i64 16] 3)) = W1 at hFL2 ⊢
  rw [hby]
  clear hby
  refine wpIn_loop (fun a wr => ∃ (bn n : Nat) (pre Ds : List Nat) (u4 u5 u6 u7 u8 u9 u10 u11 u12 u13 u14 u15 u16 u17 u18 u19 u20 u21 u22 u23 : Value), a = { tmps := #[.func (.yield l) #[] #[], .pointer (some ⟨Bs, 0, none⟩), .pointer (some ⟨by_, 0, none⟩), .pointer (some ⟨bn, 0, none⟩), u4, u5, u6, u7, u8, u9, u10, u11, u12, u13, u14, u15, u16, u17, u18, u19, u20, u21, u22, u23], defers := marks Ds } ∧ FL L S l by_ bn J W n pre Ds wr) (fun a _ => 17 - a.defers.length) ?_ ?_
  · exact ⟨_, 16, [], [], _, _, _, _, _, _, _, _, _, _, _, _, _, _, _, _, _, _, _, _, rfl, hFL2⟩
  rintro a wr ⟨bn, n, pre, Ds, u4, u5, u6, u7, u8, u9, u10, u11, u12, u13, u14, u15, u16, u17, u18, u19, u20, u21, u22, u23, rfl, hF⟩
  clear hFL2 h0
  rcases Nat.eq_zero_or_pos n with hn | hn
  · subst hn
    have hsp := hF.split
    rw [ordS, List.append_nil] at hsp
    have hJ := hF.j
    rw [← hsp] at hJ
    have hnum := hF.num
    have hmk := hF.mks
    clear hsp hF
    gi_wp2_with fail
    exact leaves_marks W.heap.size (fun W' => J (ordS L 16).length W') (fun s W1 W2 row h hg hr => HJo.out _ W1 W2 row h hg hr) (fun w => results_none rfl _ _ _) (fun W' hj => ⟨⟨_, rfl⟩, hj⟩) Ds wr hmk hJ
  · have hnum := hF.num
    have hq : Hid (0 < n ∧ n ≤ 16) := ⟨hn, hF.le⟩
    have hni : (0 : Int) < (n : Int) := by omega
    have hcb := hF.keep.cell HB.out (by have := HN.out; have := HS.out; simp; exact ⟨by omega, this.2.1⟩)
    have HF := Lib.hid hF
    clear hF
    gi_wp2_with fail
    refine ⟨trivial, (callsIn_wide.2 (backward64_c _ _ _ _)).mono ?_⟩
    rintro e w' ⟨rfl, rfl⟩
    have F1 := HF.out.alloc HJo.out (.cells #[.slice (some ⟨g, off, none⟩) L.length cap] 22)
    have B1 := (Blk.new wr #[.slice (some ⟨g, off, none⟩) L.length cap] 22).cell 0 (.slice (some ⟨g, off, none⟩) L.length cap) rfl
    have hbW := HF.out.keep.size
    have hsz : (wr.alloc (.cells #[.slice (some ⟨g, off, none⟩) L.length cap] 22)).heap.size = wr.heap.size + 1 := by simp
    generalize (wr.alloc (.cells #[.slice (some ⟨g, off, none⟩) L.length cap] 22)) = w1 at F1 B1 hsz ⊢
    obtain ⟨bs, hbs⟩ : ∃ x, wr.heap.size = x := ⟨_, rfl⟩
    rw [hbs] at B1 hsz hbW ⊢
    clear hbs HF hnum hcb
    gi_wp2_with fail
    have HF := Lib.hid F1
    have hsW : W.heap.size ≤ w1.heap.size := F1.keep.size
    have HV1 : ∀ j, j < L.length → w1.cell? ⟨g, off + j, none⟩ = some (.int .i64 (len L j)) := fun j hj => F1.keep.cell (HV.out j hj) (by have := HN.out; have := HS.out; simp; exact ⟨by omega, this.2.2⟩)
    refine range_steps (gf := 58) (lb := #[.pointer (some ⟨bs, 0, none⟩)]) rfl (enters_of Try.func58 (by kernel_rfl) rfl)
      (backward64_steps (l :: S) w1.heap.size bs g off L.length cap (by omega) (len L) w1 (Nat.le_refl _) (by omega) (by have := HN.out; omega) (by have := HN.out; have := HS.out; simp; refine ⟨by omega, fun hm => ?_⟩; have := this.1 bs hm; omega) (by have := HN.out; have := HS.out; simp; exact ⟨by omega, this.2.2⟩) B1 HV1)
      (fun h k => h.trans k) (KB.put (Nat.le_refl _)) (fun _ => rfl)
      (fun k Wk => KB (l :: S) w1.heap.size w1 Wk ∧ J (pre ++ part L n k).length Wk)
      (fun k W1 W2 row h hg hr => ⟨h.1.grown h.1.size hg (fun r e => .inr (hr r e).1), HJo.out _ _ _ row h.2 hg (fun r e => ⟨by have := (hr r e).1; omega, (hr r e).2⟩)⟩)
      ⟨KB.refl _ _ _, by rw [part_zero, List.append_nil]; exact F1.j⟩
      (fun j => { tmps := #[.func (.yield l) #[] #[], .pointer (some ⟨Bs, 0, none⟩), .pointer (some ⟨by_, 0, none⟩), .pointer (some ⟨bn, 0, none⟩), .int .i64 j, .int .i64 (len L j), .int .i64 n, .bool true, u8, u9, .slice (some ⟨g, off, none⟩) L.length cap, .func (.func 58) #[] #[.pointer (some ⟨bs, 0, none⟩)], .int .i64 j, .int .i64 (len L j), u14, u15, u16, u17, u18, u19, u20, u21, u22, u23], defers := [] }) ?assign ?body ?done
    case assign =>
      intro l x W KK hK
      gi_wp2
      exact hK
    case body =>
      intro l' k j Wk hx hT
      obtain ⟨hk, hj⟩ := dwn_get L.length k j hx
      have hnb := hT.1.cell F1.num (by have := F1.lts; show bn < _; omega) (by have := HN.out; have := HS.out; have := F1.lts; simp; refine ⟨by omega, fun hm => ?_⟩; have := HS.out.1 bn hm; omega)
      have hyb := hT.1.cell F1.yield_ (by have := F1.lts; show by_ < _; omega) (by have := HN.out; have := HS.out; have := F1.lts; simp; refine ⟨by omega, fun hm => ?_⟩; have := HS.out.1 by_ hm; omega)
      have HT := Lib.hid hT
      have HKF := Lib.hid (fun (W' : World) (h : Keep (l :: S) Wk W') => keepsFrom_of (B := w1.heap.size) h (by have := HN.out; have := HS.out; intro x hx; rcases List.mem_cons.1 hx with rfl | hx; omega; have := this.1 x hx; omega))
      by_cases he : len L j = n
      · have hat : (ordS L 16)[(pre ++ part L n k).length]? = some j := by
          obtain ⟨M, hM⟩ := ofLen_split L n k hk (by rw [← hj]; exact he)
          obtain ⟨m, rfl⟩ : ∃ m, n = m + 1 := ⟨n - 1, by omega⟩
          rw [HF.out.split, ordS, hM, ← hj, List.append_assoc, ← List.append_assoc pre, List.getElem?_append_right (Nat.le_refl _), Nat.sub_self]
          rfl
        have hnx : Hid ((pre ++ part L n (k + 1)).length = (pre ++ part L n k).length + 1) := by
          unfold Hid
          rw [part_hit L n k hk (by rw [← hj]; exact he)]
          simp only [List.length_append, List.length_cons, List.length_nil]; omega
        obtain ⟨fn, tmps, assign, body, hy, hR⟩ := HY.out _ j Wk hat hT.2
        rw [he]
        clear hat hT hx hj hk F1 B1 HV1 he
        gi_wp2_with fail
        refine (roundIn_wide hR).mono ?_
        rintro e W3 ⟨rfl, hJ3, hk3⟩
        clear hR hy
        gi_wp2_with fail
        exact ⟨HKF.out _ hk3, KB.of_keep hk3 HT.out.1.size (fun x hx => .inl hx), HT.out.1.trans (KB.of_keep hk3 HT.out.1.size (fun x hx => .inl hx)), by rw [hnx.out]; exact hJ3⟩
      · have hnx : Hid (part L n (k + 1) = part L n k) := part_miss L n k hk (by rw [← hj]; exact he)
        have hne : ((len L j : Int) == (n : Int)) = false := by rw [beq_eq_false_iff_ne]; omega
        clear hT hx hj hk F1 B1 HV1
        generalize len L j = z at hne he ⊢
        clear he
        gi_wp2_with fail
        refine ⟨fun f h => (by cases h), ?_⟩
        gi_wp2_with fail
        exact ⟨KeepsFrom.refl _ _, KB.refl _ _ _, HT.out.1, by rw [hnx.out]; exact HT.out.2⟩
    case done =>
      intro D Wd hD hT hDh
      rw [dwn_len, part_all] at hT
      have hnb := hT.1.cell F1.num (by have := F1.lts; show bn < _; omega) (by have := HN.out; have := HS.out; have := F1.lts; simp; refine ⟨by omega, fun hm => ?_⟩; have := HS.out.1 bn hm; omega)
      have hyb := hT.1.cell F1.yield_ (by have := F1.lts; show by_ < _; omega) (by have := HN.out; have := HS.out; have := F1.lts; simp; refine ⟨by omega, fun hm => ?_⟩; have := HS.out.1 by_ hm; omega)
      have HT := Lib.hid hT
      have HD := Lib.hid hDh
      have HYB := Lib.hid hyb
      have hw1 : IntKind.i64.wrap ((n : Int) - 1) = ((n - 1 : Nat) : Int) := by have := hq.out; rw [IntKind.wrap_i64]; omega
      clear hT hDh hyb B1 HV1 F1
      gi_wp2_with fail
      refine ⟨⟨Wd.heap.size, n - 1, pre ++ ofLen L n, D :: Ds, _, _, _, _, _, _, _, _, _, _, _, _, _, _, _, _, _, _, _, _, rfl, ?_⟩, ?_⟩
      · have hF := HF.out
        have hk1 := HT.out.1
        have hl := hF.lts
        have hq2 := hq.out
        have hM : Mks W.heap.size (D :: Ds) Wd := by
          refine ⟨List.nodup_cons.2 ⟨fun hm => ?_, hF.mks.nodup⟩, fun D' hD' => ?_⟩
          · have := (Array.getElem?_eq_some_iff.1 (hF.mks.at_ D hm).2).1
            omega
          · rcases List.mem_cons.1 hD' with rfl | hD'
            · exact ⟨by omega, HD.out⟩
            · obtain ⟨m1, m2⟩ := hF.mks.at_ D' hD'
              refine ⟨m1, (hk1.block D' (Array.getElem?_eq_some_iff.1 m2).1 (fun hm => ?_)).trans m2⟩
              have h1 := HN.out
              rcases List.mem_cons.1 hm with rfl | hm
              · omega
              · have := HS.out.1 D' hm; omega
        refine ⟨by omega, ?_, HJo.out.alloc _ HT.out.2, ((Keep.refl [] Wd).alloc _).cell HYB.out (by simp), (Blk.new Wd #[.int .i64 ((n - 1 : Nat) : Int)] 3).cell 0 _ rfl, ?_, hM.alloc _, ?_, (hF.keep.trans hk1.keep (fun x hx => .inl hx)).alloc _⟩
        · obtain ⟨m, rfl⟩ : ∃ m, n = m + 1 := ⟨n - 1, by omega⟩
          rw [hF.split, ordS, List.append_assoc]
          rfl
        · have := hk1.size
          simp; omega
        · have := hF.len
          simp; omega
      · have h1 := HF.out.len
        have h2 := hq.out
        simp only [marks, List.length_cons, List.length_map]
        omega
end Go.Proofs.Ytblogjpoijfpbaa
