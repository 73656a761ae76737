/- The landed table of layer 10: New, Add. -/
import Derived.Test.YtpjebbhjagllgaaLz2
namespace Go.Proofs.Ytpjebbhjagllgaa
set_option linter.unusedVariables false
set_option linter.unusedSimpArgs false
open Go.ChangeShapes Go.WideShapes Go.ChangeAt Go.RowKit

/-- what make makes: n elements, each the zero one -/
theorem El.cells_made {α : Type} {E : El α} (G : E.Good) (x : α) (z : Array Value) (hz : E.enc x = z.toList) (n : Nat) : (madeCells z (n * E.sz)).toList = E.cells (List.replicate n x) := by
  have hzs : z.size = E.sz := by have := G.len x; rw [hz] at this; simpa using this
  apply List.ext_getElem?
  intro j
  by_cases hj : j < n * E.sz
  · have hp := G.pos
    have hq : j / E.sz < n := (Nat.div_lt_iff_lt_mul hp).2 hj
    have hm : j % E.sz < E.sz := Nat.mod_lt _ hp
    have hd : j / E.sz * E.sz + j % E.sz = j := by rw [Nat.mul_comm]; exact Nat.div_add_mod _ _
    have h1 := El.cells_get G (List.replicate n x) (j / E.sz) (j % E.sz) (by simpa using hq) hm
    rw [hd] at h1
    rw [h1, List.getElem_replicate, hz]
    have h2 : (z[j % z.size]! : Value) = z[j % E.sz]'(by omega) := by simp only [hzs]; exact getElem!_pos z _ (by omega)
    rw [Array.getElem?_toList, Array.getElem?_toList, Array.getElem?_eq_getElem (show j < (madeCells z (n * E.sz)).size by rw [size_madeCells]; exact hj), Array.getElem?_eq_getElem (show j % E.sz < z.size by rw [hzs]; exact hm)]
    unfold madeCells
    simp [h2]
  · rw [List.getElem?_eq_none (by rw [Array.length_toList, size_madeCells]; omega), List.getElem?_eq_none (by rw [El.cells_len G, List.length_replicate]; omega)]
theorem OwnG.made {α : Type} {E : El α} (G : E.Good) (w : World) (x : α) (z : Array Value) (hz : E.enc x = z.toList) (n : Nat) (hn : n ≤ maxLen) : OwnG E (w.alloc (.cells (madeCells z (n * E.sz)) E.ty)) (.slice (some ⟨w.heap.size, 0, none⟩) n n) (List.replicate n x) := by
  have h := World.ownsRow_lit (base := 0) (e := E.ty) (size := E.sz) w (madeCells z (n * E.sz)) n (Nat.zero_le _) hn (size_madeCells _ _)
  unfold OwnG
  rw [List.length_replicate, ← El.cells_made G x z hz]
  exact h
theorem slotInfo : (Try.prog.info? 61).map (fun i => (i.zero, i.size, i.bytes)) = some (some (.agg #[.int .i16 0, .int .u8 0, .bool false]), 3, 4) := by kernel_rfl
theorem slotBuilt : Try.prog.built 61 [] = some #[.int .i16 0, .int .u8 0, .bool false] := by kernel_rfl
theorem run_make_slots (w : World) : (Instr.makeSlice 49 (.int .i64 8192) (.int .i64 8192)).run Try.prog w = .ok (.slice (some ⟨w.heap.size, 0, none⟩) 8192 8192) (w.alloc (.cells (madeCells #[.int .i16 0, .int .u8 0, .bool false] (8192 * ES.sz)) 61)) := by
  obtain ⟨i, hi, hz⟩ := Option.map_eq_some_iff.1 slotInfo
  simp only [Prod.mk.injEq] at hz
  have := run_make (P := Try.prog) (w := w) 49 61 i _ Try.underlying49 hi hz.1 .i64 .i64 8192 8192 (by omega) (by omega) (by rw [hz.2.2]; omega) (by omega)
  rw [this, hz.2.1]
  rfl
theorem slots_no : slots (sloF []) = List.replicate 8192 Slt.no := by
  apply List.ext_getElem
  · rw [slots_len, List.length_replicate]
  · intro i h1 h2
    rw [slots_get, List.getElem_replicate]
    exact sloF_none ((lk_at [] _).2 (by rw [atI_nil]; omega))
/-- three cells of a slot stored anew -/
theorem slot_store {w : World} {sb : Nat} {f : Nat → Slt} (h : OwnG ES w (.slice (some ⟨sb, 0, none⟩) 8192 8192) (slots f)) (n : Nat) (hn : n < 8192) (p : Nat) (c : UInt8) (b : Bool) :
    OwnG ES (((w.setCell ⟨sb, n * 3, none⟩ (.int .i16 p)).setCell ⟨sb, n * 3 + 1, none⟩ (.int .u8 c.toNat)).setCell ⟨sb, n * 3 + 2, none⟩ (.bool b)) (.slice (some ⟨sb, 0, none⟩) 8192 8192) (slots fun k => if k = n then ⟨p, c, b⟩ else f k) := by
  have h1 := h.store ESg n 0 (by rw [slots_len]; exact hn) (by decide) ⟨p, (f n).byt, (f n).on⟩ (.int .i16 p) (by rw [slots_get]; rfl)
  rw [slots_set] at h1
  have h2 := h1.store ESg n 1 (by rw [slots_len]; exact hn) (by decide) ⟨p, c, (f n).on⟩ (.int .u8 c.toNat) (by rw [slots_get, if_pos rfl]; rfl)
  rw [slots_set] at h2
  have h3 := h2.store ESg n 2 (by rw [slots_len]; exact hn) (by decide) ⟨p, c, b⟩ (.bool b) (by rw [slots_get, if_pos rfl]; rfl)
  rw [slots_set] at h3
  have e : (fun k => if k = n then (⟨p, c, b⟩ : Slt) else if k = n then ⟨p, c, (f n).on⟩ else if k = n then ⟨p, (f n).byt, (f n).on⟩ else f k) = fun k => if k = n then ⟨p, c, b⟩ else f k := by
    funext k; by_cases hk : k = n
    · simp [hk]
    · simp [hk]
  rw [e] at h3
  exact h3
set_option maxRecDepth 100000 in
set_option maxHeartbeats 2000000 in
theorem lnew_c (w : World) : Calls Try.prog 8 #[] w fun e w' => ∃ q sb g, e = .returned (.pointer (some ⟨q, 0, none⟩)) ∧ LTb w' q sb (.slice none 0 0) g 0 [] LT.new ∧ Keep [] w w' ∧ w.heap.size ≤ q ∧ w.heap.size ≤ sb ∧ w.heap.size ≤ g := by
  have hmk := run_make_slots w
  obtain ⟨w1, hw1⟩ : ∃ w1, w1 = w.alloc (.cells (madeCells #[.int .i16 0, .int .u8 0, .bool false] (8192 * ES.sz)) 61) := ⟨_, rfl⟩
  have HO := Lib.hid (OwnG.made ESg w Slt.no #[.int .i16 0, .int .u8 0, .bool false] rfl 8192 (by unfold maxLen; omega))
  have HK := Lib.hid ((Keep.refl [] w).alloc (.cells (madeCells #[.int .i16 0, .int .u8 0, .bool false] (8192 * ES.sz)) 61))
  have hsz : w1.heap.size = w.heap.size + 1 := by rw [hw1]; simp
  rw [show ES.ty = 61 from rfl, ← hw1, ← slots_no] at HO
  rw [← hw1] at HK hmk
  have hmm := @run_makeMap Try.prog 51 w1
  have HM := Lib.hid (LinkM.made w1)
  have HK2 := Lib.hid (HK.out.alloc (.map #[] 0))
  have HO2 := Lib.hid (HO.out.keep ((Keep.refl [] w1).alloc (.map #[] 0)) (by simp))
  have hsz2 : (w1.alloc (.map #[] 0)).heap.size = w.heap.size + 2 := by simp [hsz]
  rw [hsz] at HM
  obtain ⟨w2, hw2⟩ : ∃ w2, w2 = w1.alloc (.map #[] 0) := ⟨_, rfl⟩
  rw [← hw2] at HM HK2 HO2 hsz2
  rw [hsz, ← hw2] at hmm
  have HX := Lib.hid (Blk.new w2 #[.slice (some ⟨w.heap.size, 0, none⟩) 8192 8192, .slice none 0 0, .map (some (w.heap.size + 1)), .int .i64 0, .int .i64 257] 53)
  rw [hsz2] at HX
  have HS := Lib.hid hsz2
  clear HO HK hsz hw1 hw2 hsz2
  go_enter Try.func8, Try.ntmps8
  go_wp2_with fail
  go_ret
  have hs2 := HS.out
  rw [hs2]
  refine ⟨w.heap.size + 2, w.heap.size, w.heap.size + 1, rfl, ⟨?_, HO2.out.keep ((Keep.refl [] w2).alloc _) (by simp), OwnG.nil EI _, ⟨_, HM.out.keep ((Keep.refl [] w2).alloc _) (by simp), Lst.nil _⟩, Gvn.nil, Nat.le_refl _, LT.new_ok, by omega, by omega, by omega, fun b hb => by simp [Value.ownBlock] at hb⟩, HK2.out.alloc _, by omega, by omega, by omega⟩
  have := HX.out
  rw [FullS.new.next (by omega)]
  exact this
theorem ladd_no (w : World) (q sb : Nat) (vg : Value) (g k : Nat) (gs : List Nat) (s : LT) (p : Int) (c : UInt8) (h : LTb w q sb vg g k gs s) (hn : s.next < 0 ∨ ¬ parOk p) : Calls Try.prog 10 #[.pointer (some ⟨q, 0, none⟩), .int .i64 p, .int .u8 c.toNat] w fun e w' => e = .returned (.int .i64 (-1)) ∧ w = w' := by
  have HN := Lib.hid (lnext_c w q sb vg g k gs s h)
  have HI := Lib.hid (iscode_c w p)
  have hnx := h.next_wf.1
  clear h
  generalize s.next = nx at *
  by_cases h1 : nx < 0
  · have h2 : (nx == -1) = true := by simp; omega
    clear hn hnx h1
    go_enter Try.func10, Try.ntmps10
    go_wp2_with fail
    refine HN.out.mono ?_; rintro e w' ⟨rfl, rfl⟩
    clear HN
    go_wp2_with fail
    go_ret
    exact ⟨rfl, rfl⟩
  · have h2 : (nx == -1) = false := by simp; omega
    have hp : ¬ parOk p := by rcases hn with h | h; exact absurd h h1; exact h
    clear hn hnx h1
    by_cases h3 : 0 ≤ p ∧ p < 8192
    · rw [decide_eq_true h3] at HI
      have h4 : (p == 256) = true := by unfold parOk at hp; simp; omega
      clear hp h3
      go_enter Try.func10, Try.ntmps10
      go_wp2_with fail
      refine HN.out.mono ?_; rintro e w' ⟨rfl, rfl⟩
      clear HN
      go_wp2_with fail
      refine HI.out.mono ?_; rintro e w' ⟨rfl, rfl⟩
      clear HI
      go_wp2_with fail
      go_ret
      exact ⟨rfl, rfl⟩
    · rw [decide_eq_false h3] at HI
      clear hp h3
      go_enter Try.func10, Try.ntmps10
      go_wp2_with fail
      refine HN.out.mono ?_; rintro e w' ⟨rfl, rfl⟩
      clear HN
      go_wp2_with fail
      refine HI.out.mono ?_; rintro e w' ⟨rfl, rfl⟩
      clear HI
      go_wp2_with fail
      go_ret
      exact ⟨rfl, rfl⟩
set_option maxRecDepth 100000 in
set_option maxHeartbeats 4000000 in
theorem ladd_yes (w : World) (q sb : Nat) (vg : Value) (g k : Nat) (gs : List Nat) (s : LT) (p : Nat) (c : UInt8) (n : Nat) (h : LTb w q sb vg g k gs s) (hn : s.next = (n : Int)) (hp : parOk p) (hfree : atI s.rows (n : Nat) < 0) (hn1 : 257 ≤ n) (hn2 : n < 8192)
    (hok : LT.ok ⟨ins s.rows ⟨n, p, c⟩, n⟩) : Calls Try.prog 10 #[.pointer (some ⟨q, 0, none⟩), .int .i64 (p : Int), .int .u8 c.toNat] w fun e w' => e = .returned (.int .i64 n) ∧
    ∃ vg', LTb w' q sb vg' g k (gs ++ [n]) ⟨ins s.rows ⟨n, p, c⟩, n⟩ ∧ Keep ([q, sb, g] ++ vg.ownBlock.toList) w w' ∧ ∀ b, vg'.ownBlock = some b → vg.ownBlock = some b ∨ w.heap.size ≤ b := by
  have HN := Lib.hid (lnext_c w q sb vg g k gs s h)
  have HI := Lib.hid (iscode_c w (p : Int))
  rw [hn] at HN
  unfold parOk at hp
  rw [decide_eq_true (show 0 ≤ (p : Int) ∧ (p : Int) < 8192 by omega)] at HI
  have d1 : ((n : Int) == -1) = false := by simp
  have d2 : ((p : Int) == 256) = false := by simp; omega
  have hw : IntKind.i16.wrap (p : Int) = p := by simp [IntKind.wrap, IntKind.bits, IntKind.signed]; omega
  have hw2 : IntKind.i64.wrap ((n : Int) + 1) = (n : Int) + 1 := by rw [IntKind.wrap_i64]; omega
  have hlen := h.ok.len
  have HGL := Lib.hid h.per.len
  obtain ⟨L, hL, hlst⟩ := h.lea
  -- the slot
  have hS := Lib.hid (slot_store h.slo n hn2 p c true)
  have f0 := h.slo.free (n * 3)
  have f1 := h.slo.free (n * 3 + 1)
  have f2 := h.slo.free (n * 3 + 2)
  obtain ⟨s0, s1, s2⟩ := h.slot n hn2
  have c0 : w.cell? ⟨q, 0, none⟩ = some (.slice (some ⟨sb, 0, none⟩) 8192 8192) := h.box.cell 0 _ rfl
  obtain ⟨a, cap, hvg, _, _⟩ := h.giv.gs.sh
  subst hvg
  obtain ⟨w3, hw3⟩ : ∃ w3, ((w.setCell ⟨sb, n * 3, none⟩ (.int .i16 p)).setCell ⟨sb, n * 3 + 1, none⟩ (.int .u8 c.toNat)).setCell ⟨sb, n * 3 + 2, none⟩ (.bool true) = w3 := ⟨_, rfl⟩
  have K3 := Lib.hid (((((Keep.refl [sb] w).setCell (p := ⟨sb, n * 3, none⟩) (.inl (by simp)) (.int .i16 p)).setCell (p := ⟨sb, n * 3 + 1, none⟩) (.inl (by simp)) (.int .u8 c.toNat)).setCell (p := ⟨sb, n * 3 + 2, none⟩) (.inl (by simp)) (.bool true)))
  rw [hw3] at hS K3
  have HB3 := Lib.hid (h.box.keep K3.out (by simp [h.qs]))
  have HG3 := Lib.hid (h.giv.keep K3.out (by intro b hb; simp; exact (h.vb b hb).2.1))
  have c1 : w3.cell? ⟨q, 1, none⟩ = some (.slice a gs.length cap) := HB3.out.cell 1 _ rfl
  have HFR := Lib.hid (fun (w' : World) (c' : w'.cell? ⟨q, 0, none⟩ = some (.slice (some ⟨sb, 0, none⟩) 8192 8192)) (hs : ∀ j, j < 8192 → w'.cell? ⟨sb, j * 3 + 2, none⟩ = some (.bool (sloF (ins s.rows ⟨n, p, c⟩) j).on)) => lfree_c w' q sb (ins s.rows ⟨n, p, c⟩) n c' (by omega) hs)
  have HH := Lib.hid h
  have HL := Lib.hid hL
  have HLS := Lib.hid hlst
  have HSI := Lib.hid (sloF_ins h.ok.srt ⟨n, p, c⟩ hfree)
  have HOK := Lib.hid hok
  have hse : (fun k => if k = n then (⟨p, c, true⟩ : Slt) else sloF s.rows k) = sloF (ins s.rows ⟨n, p, c⟩) := by funext k; exact (HSI.out k).symm
  rw [hse] at hS
  have HW3 := Lib.hid hw3
  have HFREE := Lib.hid ((lk_at s.rows (n : Nat)).2 hfree)
  clear hL h hlst hn hfree hok hse hp
  go_enter Try.func10, Try.ntmps10
  go_wp2_with fail
  refine HN.out.mono ?_; rintro e w' ⟨rfl, rfl⟩
  clear HN
  go_wp2_with fail
  refine HI.out.mono ?_; rintro e w' ⟨rfl, rfl⟩
  clear HI
  have hgl : gs.length ≤ 7935 := by have := HGL.out; omega
  have HG4 : Hid (OwnG EI (w3.alloc (.cells #[.int .i64 n] 3)) (.slice a gs.length cap) gs) := HG3.out.keep ((Keep.refl [] w3).alloc _) (by simp)
  have HL4 : Hid (Gs EI (w3.alloc (.cells #[.int .i64 n] 3)) (.slice (some ⟨w3.heap.size, 0, none⟩) 1 1) [n]) := Gs.lit EIg [n] 1 (Blk.new w3 #[.int .i64 n] 3) rfl rfl (by unfold maxLen; omega)
  go_wp2_with (at_builtin; (refine wpList_appendG EIg (.tmp 35) (.tmp 37) rfl rfl (.slice a gs.length cap) gs rfl HG4.out _ [n] rfl HL4.out (by simp; omega) ?_); (intro v5 w5 ho5 hk5 hb5); (obtain ⟨a5, cap5, hv5, _⟩ := ho5.gs.sh); (subst hv5); (have hk35 : Keep (Value.slice a gs.length cap).ownBlock.toList w3 w5 := ((Keep.refl _ w3).alloc _).trans hk5 (fun x hx => .inl hx)); (have HB5 := Lib.hid (HB3.out.keep hk35 (by simpa using fun hb => (HH.out.vb q hb).1 rfl))); (have f5 := HB5.out.free 1); (have c5 := HB5.out.cell 0 _ rfl); (have c51 := HB5.out.cell 1 _ rfl))
  have hl1 : (gs ++ [n]).length = gs.length + 1 := by simp
  have HB6 := Lib.hid (HB5.out.set 1 (.slice a5 (gs.length + 1) cap5))
  have HK56 : Hid (Keep [q] w5 (w5.setCell ⟨q, 1, none⟩ (.slice a5 (gs.length + 1) cap5))) := (Keep.refl _ _).setCell (.inl (by simp)) _
  have HS5 := Lib.hid (hS.out.keep hk35 (by intro b hb; simp [Value.ownBlock] at hb; subst hb; simpa using fun hb => (HH.out.vb _ hb).2.1 rfl))
  have HS6 := Lib.hid (HS5.out.keep HK56.out (by intro b hb; simp [Value.ownBlock] at hb; subst hb; simpa using Ne.symm HH.out.qs))
  have HO5 := Lib.hid ho5
  have HB5b := Lib.hid hb5
  have HK35 := Lib.hid hk35
  have h3s : w3.heap.size = w.heap.size := by rw [← HW3.out]; simp
  have h5q : ∀ b, (Value.slice a5 (gs ++ [n]).length cap5).ownBlock = some b → b ≠ q ∧ b ≠ sb ∧ b ≠ g ∧ b < w5.heap.size := fun b hb => by
    have hlt := HO5.out.lt b hb
    rcases HB5b.out b hb with h1 | h1
    · exact ⟨(HH.out.vb b h1).1, (HH.out.vb b h1).2.1, (HH.out.vb b h1).2.2, hlt⟩
    · have e1 := HH.out.box.lt
      have e2 := HH.out.slo.lt sb rfl
      have e3 := HL.out.lt
      simp at h1
      omega
  have HQ5 := Lib.hid h5q
  clear h5q ho5 hb5 hk5 hk35 f5 c5 c51 hw3 hgl
  refine (HFR.out _ (HB6.out.cell 0 _ rfl) (fun j hj => ?_)).mono ?_
  · have := HS6.out.cell ESg j 2 (by rw [slots_len]; exact hj) (by decide)
    rw [slots_get] at this
    exact this
  rintro e w6 ⟨rfl, rfl⟩
  have f6 := HB6.out.free 4
  have c64 := HB6.out.cell 4 _ rfl
  obtain ⟨nx, hnx⟩ : ∃ nx, LT.next ⟨ins s.rows ⟨n, p, c⟩, n⟩ = nx := ⟨_, rfl⟩
  have HNX := Lib.hid hnx
  rw [hnx]
  clear hnx HFR
  go_wp2_with fail
  go_ret
  have HB7 := Lib.hid (HB6.out.set 4 (.int .i64 nx))
  have K7 : Hid (Keep [q] w5 ((w5.setCell ⟨q, 1, none⟩ (.slice a5 (gs.length + 1) cap5)).setCell ⟨q, 4, none⟩ (.int .i64 nx))) := HK56.out.setCell (.inl (by simp)) _
  have hkq : Keep (q :: (Value.slice a gs.length cap).ownBlock.toList) w3 ((w5.setCell ⟨q, 1, none⟩ (.slice a5 (gs.length + 1) cap5)).setCell ⟨q, 4, none⟩ (.int .i64 nx)) :=
    (HK35.out.mono (S' := q :: (Value.slice a gs.length cap).ownBlock.toList) (fun x hx => List.mem_cons_of_mem _ hx)).trans K7.out (fun x hx => .inl (by simp at hx; simp [hx]))
  have KALL := (K3.out.mono (S' := sb :: q :: (Value.slice a gs.length cap).ownBlock.toList) (fun x hx => by simp at hx; simp [hx])).trans hkq (fun x hx => .inl (List.mem_cons_of_mem _ hx))
  refine ⟨rfl, .slice a5 (gs.length + 1) cap5, ⟨?_, ?_, ?_, ⟨L, ?_, ?_⟩, ?_, ?_, HOK.out, HH.out.qs, HH.out.qg, HH.out.sg, ?_⟩, ?_, ?_⟩
  · rw [HNX.out]; exact HB7.out
  · refine HS5.out.keep K7.out ?_
    intro b hb; simp [Value.ownBlock] at hb; subst hb; simpa using Ne.symm HH.out.qs
  · have := HO5.out
    rw [hl1] at this
    exact this.keep K7.out (fun b hb => by have := (HQ5.out b (by rw [hl1]; exact hb)).1; simpa using this)
  · refine HL.out.keep KALL ?_
    intro hg
    rcases List.mem_cons.1 hg with h1 | hg
    · exact HH.out.sg h1.symm
    · rcases List.mem_cons.1 hg with h1 | hg
      · exact HH.out.qg h1.symm
      · exact (HH.out.vb g (by simpa using hg)).2.2 rfl
  · have hn : ∀ x ∈ gs.take k, x ≠ n := fun x hx e => by
      subst e
      obtain ⟨r, hr⟩ := (HH.out.per.mem HH.out.ok.srt x).1 (List.mem_of_mem_take hx)
      rw [HFREE.out] at hr; cases hr
    rw [List.take_append_of_le_length HH.out.kle]
    exact HLS.out.congr fun x hx => by rw [HSI.out, if_neg (hn x hx)]
  · exact HH.out.per.add ⟨n, p, c⟩
  · have := HH.out.kle; simp; omega
  · intro b hb; have := HQ5.out b (by rw [hl1]; exact hb); exact ⟨this.1, this.2.1, this.2.2.1⟩
  · refine KALL.mono fun x hx => ?_
    rcases List.mem_cons.1 hx with h1 | hx
    · simp [h1]
    · rcases List.mem_cons.1 hx with h1 | hx
      · simp [h1]
      · simpa using .inr (.inr (.inr (by simpa using hx)))
  · intro b hb
    rcases HB5b.out b (by rw [hl1]; exact hb) with h1 | h1
    · exact .inl h1
    · right; simp at h1; omega
end Go.Proofs.Ytpjebbhjagllgaa
