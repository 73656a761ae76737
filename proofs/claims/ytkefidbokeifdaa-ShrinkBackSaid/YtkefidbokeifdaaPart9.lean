/- Texts put together: Lz2 Lz3 Lz4 Lz5 Lz6 Lz -/
import Derived.Test.YtkefidbokeifdaaPart7
import Derived.Test.YtkefidbokeifdaaPart1
import Derived.Test.YtkefidbokeifdaaPart2
import Derived.Test.YtkefidbokeifdaaPart8
import Derived.Laws.ResultCell
import Derived.Laws.Tables
import Derived.ArgAppend
namespace Go.Proofs.Ytkefidbokeifdaa
set_option linter.unusedVariables false
set_option linter.unusedSimpArgs false
open Go.ChangeShapes Go.WideShapes Go.ChangeAt Go.RowKit

/-- what a reader of slots needs -/
structure SRd (w : World) (q sb : Nat) (rows : List Lk) : Prop where
  c0 : w.cell? ⟨q, 0, none⟩ = some (.slice (some ⟨sb, 0, none⟩) 8192 8192)
  sl : ∀ c, c < 8192 → w.cell? ⟨sb, c * 3, none⟩ = some (.int .i16 (sloF rows c).par) ∧ w.cell? ⟨sb, c * 3 + 1, none⟩ = some (.int .u8 (sloF rows c).byt.toNat) ∧ w.cell? ⟨sb, c * 3 + 2, none⟩ = some (.bool (sloF rows c).on)
  sm : ∀ c, (sloF rows c).par < 8192
theorem LTb.rd {w : World} {q sb : Nat} {vg : Value} {g k : Nat} {gs : List Nat} {s : LT} (h : LTb w q sb vg g k gs s) : SRd w q sb s.rows := ⟨h.box.cell 0 _ rfl, h.slot, sloF_small h.ok⟩
theorem SRd.keep {w w' : World} {q sb : Nat} {rows : List Lk} {S : List Nat} (h : SRd w q sb rows) (k : Keep S w w') (h1 : q ∉ S) (h2 : sb ∉ S) : SRd w' q sb rows :=
  ⟨k.cell h.c0 h1, fun c hc => ⟨k.cell (h.sl c hc).1 h2, k.cell (h.sl c hc).2.1 h2, k.cell (h.sl c hc).2.2 h2⟩, h.sm⟩
set_option maxRecDepth 100000 in
set_option maxHeartbeats 2000000 in
theorem lsize_c (w : World) (q sb : Nat) (rows : List Lk) (c : Int) (h : SRd w q sb rows) : Calls Try.prog 78 #[.pointer (some ⟨q, 0, none⟩), .int .i64 c] w fun e w' => e = .returned (.int .i64 (if 0 ≤ c ∧ c < 8192 then onF rows 7936 c 0 else 0 : Nat)) ∧ w = w' := by
  have c0 := h.c0
  have HM := Lib.hid (lmade_c w q sb c0)
  have HI := Lib.hid (iscode_c w c)
  by_cases hc : 0 ≤ c ∧ c < 8192
  · obtain ⟨c, rfl⟩ : ∃ c' : Nat, c = c' := ⟨c.toNat, by omega⟩
    have hcs : c < 8192 := by omega
    rw [decide_eq_true hc] at HI
    rw [if_pos hc]
    clear hc
    obtain ⟨R, hR⟩ : ∃ R, onF rows 7936 c 0 = R := ⟨_, rfl⟩
    have HR := Lib.hid hR
    rw [hR]
    clear hR
    have HSL := Lib.hid h.sl
    have HSM := Lib.hid h.sm
    have HB := Lib.hid (onF_byte rows)
    have HNo := Lib.hid (onF_none rows)
    have HNx := Lib.hid (onF_next rows)
    clear h
    go_enter Try.func78, Try.ntmps78
    go_wp2_with fail
    refine HM.out.mono ?_; rintro e w' ⟨rfl, rfl⟩
    clear HM
    go_wp2_with fail
    refine HI.out.mono ?_; rintro e w' ⟨rfl, rfl⟩
    clear HI
    go_wp2_with fail
    go_loopw [1, 5] (fun cv nv wr => ∃ (cc n f : Nat), cv = .int .i64 cc ∧ cc < 8192 ∧ nv = .int .i64 ((n : Int) + 1) ∧ n ≤ 7936 ∧ Hid (n + f = 7936) ∧ Hid (onF rows f cc n = R) ∧ wr = w) (fun cv nv _ => 7937 - (intOf nv).toNat)
    case atStart => exact ⟨c, 0, 7936, rfl, hcs, by simp, by omega, rfl, HR, rfl⟩
    case round =>
      obtain ⟨cc, n, f, rfl, hcc, rfl, hn, hnf, hr, rfl⟩ := hrel
      clear HR
      by_cases hlt : n < 7936
      · have h2 : (n : Int) + 1 ≤ 7936 := by omega
        obtain ⟨f', rfl⟩ : ∃ f', f = f' + 1 := ⟨f - 1, by have := hnf.out; omega⟩
        by_cases hb : cc < 256
        · have h3 : (cc : Int) < 256 := by omega
          have HE : Hid ((n : Int) + 1 = R) := by have := hr.out; rw [HB.out f' cc n hb] at this; show _ = _; omega
          clear hr hb hnf
          go_wp2_with fail
          go_ret
          exact ⟨by rw [← HE.out]; rfl, rfl⟩
        · have h3 : ¬ (cc : Int) < 256 := by omega
          obtain ⟨s0, s1, s2⟩ := HSL.out cc hcc
          cases hon : (sloF rows cc).on with
          | false =>
            rw [hon] at s2
            have HE : Hid (R = 0) := by have := hr.out; rw [HNo.out f' cc n hb hon] at this; exact this.symm
            clear hr hb hnf hon s0 s1
            go_wp2_with fail
            go_ret
            exact ⟨by rw [HE.out]; rfl, rfl⟩
          | true =>
            rw [hon] at s2
            have HE : Hid (onF rows f' (sloF rows cc).par (n + 1) = R) := by have := hr.out; rw [HNx.out f' cc n hb hon] at this; exact this
            have hps := HSM.out cc
            have HF : Hid (n + 1 + f' = 7936) := by have := hnf.out; show _ = _; omega
            clear hr hb hnf hon s1
            generalize (sloF rows cc).par = pp at *
            have hw : IntKind.i64.wrap (pp : Int) = pp := by rw [IntKind.wrap_i64]; omega
            go_wp2_with fail
            go_roundw
            case rel => exact ⟨pp, n + 1, f', rfl, hps, by go_num, by omega, HF, HE, trivial⟩
            case measure => simp [intOf]; omega
      · have h2 : ¬ (n : Int) + 1 ≤ 7936 := by omega
        have HE : Hid (R = 0) := by
          have := hr.out
          have h0 : f = 0 := by have := hnf.out; omega
          subst h0
          exact this.symm
        clear hr hnf hlt
        go_wp2_with fail
        go_ret
        exact ⟨by rw [HE.out]; rfl, rfl⟩
  · rw [decide_eq_false hc] at HI
    rw [if_neg hc]
    clear h hc
    go_enter Try.func78, Try.ntmps78
    go_wp2_with fail
    refine HM.out.mono ?_; rintro e w' ⟨rfl, rfl⟩
    clear HM
    go_wp2_with fail
    refine HI.out.mono ?_; rintro e w' ⟨rfl, rfl⟩
    clear HI
    go_wp2_with fail
    go_ret
    exact ⟨rfl, rfl⟩
theorem OwnB.cellAt {w : World} {g n cap : Nat} {l : List UInt8} (h : OwnB w (.slice (some ⟨g, 0, none⟩) n cap) l) (j : Nat) (hj : j < l.length) : ∃ old, w.cell? ⟨g, j, none⟩ = some old := by
  rcases h.cases with ⟨h, _⟩ | ⟨b, cp, hv, h1, h2, h3, _⟩
  · cases h
  · simp only [Value.slice.injEq, Option.some.injEq, Addr.mk.injEq] at hv
    obtain ⟨⟨hb, _⟩, _⟩ := hv
    subst hb
    exact ⟨_, h3 j hj⟩
/-- the last bytes of a row are t's -/
def Tail (n : Nat) (t xs : List UInt8) (a : Nat) : Prop := xs.length = n ∧ ∀ j, a < j → j < n → xs.getD j 0 = t.getD j 0
theorem Tail.set {n : Nat} {t xs : List UInt8} {a : Nat} (h : Tail n t xs (a + 1)) (ha : a + 1 < n) : Tail n t (xs.set (a + 1) (t.getD (a + 1) 0)) a := by
  refine ⟨by rw [List.length_set]; exact h.1, fun j h1 h2 => ?_⟩
  rw [List.getD_eq_getElem?_getD, List.getElem?_set]
  by_cases e : a + 1 = j
  · subst e; rw [if_pos rfl, if_pos (by rw [h.1]; exact ha)]; rfl
  · rw [if_neg e]; have := h.2 j (by omega) h2; rwa [List.getD_eq_getElem?_getD] at this
theorem Tail.all {t xs : List UInt8} (h : Tail t.length t xs 0) (ht : 0 < t.length) : xs.set 0 (t.getD 0 0) = t := by
  apply List.ext_getElem
  · rw [List.length_set]; exact h.1
  · intro i h1 h2
    rw [List.getElem_set]
    by_cases e : 0 = i
    · subst e; rw [if_pos rfl, List.getD_eq_getElem?_getD, List.getElem?_eq_getElem h2]; rfl
    · rw [if_neg e]
      have := h.2 i (by omega) h2
      rw [List.getD_eq_getElem?_getD, List.getD_eq_getElem?_getD, List.getElem?_eq_getElem h2, List.getElem?_eq_getElem (by rw [h.1]; exact h2)] at this
      exact this
set_option maxRecDepth 100000 in
set_option maxHeartbeats 4000000 in
theorem ltext_c (w : World) (q sb : Nat) (s : LT) (c : Int) (h : SRd w q sb s.rows) (ho : s.ok) (hl : s.rows.length ≤ 7935) (hq : q < w.heap.size) (hsb : sb < w.heap.size) : Calls Try.prog 71 #[.pointer (some ⟨q, 0, none⟩), .int .i64 c] w fun e w' =>
    ∃ v', e = .returned (.tuple #[v', .bool (s.text c).isSome]) ∧ OwnB w' v' ((s.text c).getD []) ∧ Keep [] w w' ∧ ∀ b, v'.ownBlock = some b → w.heap.size ≤ b := by
  have HZ := Lib.hid (lsize_c w q sb s.rows c h)
  cases ht : s.text c with
  | none =>
    have hz : (if 0 ≤ c ∧ c < 8192 then onF s.rows 7936 c 0 else 0 : Nat) = 0 := by
      split
      · rw [onF_text ho hl, ht]; rfl
      · rfl
    rw [hz] at HZ
    clear hz ht h ho hl
    go_enter Try.func71, Try.ntmps71
    go_wp2_with fail
    refine HZ.out.mono ?_; rintro e w' ⟨rfl, rfl⟩
    clear HZ
    go_wp2_with fail
    go_ret2
    exact ⟨_, rfl, OwnB.nil _, Keep.refl _ _, fun b hb => by simp [Value.ownBlock] at hb⟩
  | some t =>
    have hcc : 0 ≤ c ∧ c < 8192 := by
      have h1 := ht
      unfold LT.text at h1
      rw [txF_lk] at h1
      by_cases hb : 0 ≤ c ∧ c < 256
      · omega
      · rw [if_neg hb] at h1
        cases hlk : lk s.rows c with
        | none => rw [hlk] at h1; cases h1
        | some r => obtain ⟨h2, h3⟩ := (lk_iff _ ho.srt c r).1 hlk; have := ho.all r h2; omega
    have hz : (if 0 ≤ c ∧ c < 8192 then onF s.rows 7936 c 0 else 0 : Nat) = t.length := by
      rw [if_pos hcc, onF_text ho hl, ht]; rfl
    rw [hz] at HZ
    obtain ⟨c, rfl⟩ : ∃ c' : Nat, c = c' := ⟨c.toNat, by omega⟩
    have hcs : c < 8192 := by omega
    have htl : 0 < t.length := by have := txF_pos (show txF s.rows _ (c : Int) [] = some t from ht); simp at this; omega
    have htm : t.length ≤ 7936 := by have := txF_len _ _ _ _ _ (show txF s.rows (s.rows.length + 1) (c : Int) [] = some t from ht); simp at this; omega
    have HB0 : Hid (Bgn s.rows t c (t.length - 1)) := ⟨s.rows.length + 1, by
      rw [show t.length - 1 + 1 = t.length by omega, List.take_length]; exact ht⟩
    have HSL := Lib.hid (fun w' (k : Keep [] w w') => h.keep k (by simp) (by simp))
    have HMK := Lib.hid (run_make_bytes w t.length t.length (Nat.le_refl _) (by omega))
    have HOM := Lib.hid (OwnB.madeN w t.length (by unfold maxLen; omega))
    have HSM := Lib.hid h.sm
    clear hz ht h hcc
    generalize s.rows = rows at *
    clear ho hl
    simp only [Option.isSome_some, Option.getD_some]
    go_enter Try.func71, Try.ntmps71
    go_wp2_with fail
    refine HZ.out.mono ?_; rintro e w' ⟨rfl, rfl⟩
    clear HZ
    have hmk := HMK.out
    have hne : ((t.length : Int) == 0) = false := by simp; intro e; simp [e] at htl
    have hw1 : IntKind.i64.wrap ((t.length : Int) - 1) = ((t.length - 1 : Nat) : Int) := by rw [IntKind.wrap_i64]; omega
    go_wp2_with fail
    clear hmk hne HMK
    have HK0 : Hid (Keep [] w (w.alloc (.cells (madeCells #[.int .u8 0] t.length) 5))) := (Keep.refl [] w).alloc _
    obtain ⟨r, hr⟩ : ∃ r, w.heap.size = r := ⟨_, rfl⟩
    have HQ := Lib.hid hr
    have HO0 := HOM
    rw [hr] at HO0 ⊢
    clear HOM hr
    generalize w.alloc (.cells (madeCells #[.int .u8 0] t.length) 5) = w0 at HO0 HK0 ⊢
    go_loopw [1, 8] (fun cv av wr => ∃ (cc a : Nat) (xs : List UInt8), cv = .int .i64 cc ∧ cc < 8192 ∧ av = .int .i64 a ∧ a < t.length ∧ Hid (Bgn rows t cc a) ∧ Hid (Tail t.length t xs a) ∧ Hid (OwnB wr (.slice (some ⟨r, 0, none⟩) t.length t.length) xs) ∧ Hid (Keep [] w wr)) (fun cv av _ => (intOf av).toNat)
    case atStart => exact ⟨c, t.length - 1, List.replicate t.length 0, rfl, hcs, rfl, by omega, HB0, ⟨by simp, fun j h1 h2 => by omega⟩, HO0, HK0⟩
    case round =>
      obtain ⟨cc, a, xs, rfl, hcc, rfl, ha, hb, htl2, ho, hk⟩ := hrel
      clear HB0 HO0 HK0 hw1
      have hxl : xs.length = t.length := htl2.out.1
      by_cases hpos : 0 < a
      · obtain ⟨a, rfl⟩ : ∃ a', a = a' + 1 := ⟨a - 1, by omega⟩
        obtain ⟨b1, b2, b3⟩ := hb.out.step ha
        obtain ⟨sc0, sl, _⟩ := HSL.out wr hk.out
        obtain ⟨s0, s1, s2⟩ := sl cc hcc
        have hps := HSM.out cc
        rw [b1] at s1
        have HT2 := Lib.hid (htl2.out.set ha)
        have hfr := ho.out.free (a + 1)
        have HO2 := Lib.hid (ho.out.store (a + 1) (by rw [hxl]; exact ha) (t.getD (a + 1) 0))
        obtain ⟨old, hcl⟩ := ho.out.cellAt (a + 1) (by rw [hxl]; exact ha)
        have HKS : Hid (Keep [] w (wr.setCell ⟨r, a + 1, none⟩ (.int .u8 (t.getD (a + 1) 0).toNat))) := hk.out.setCell (.inr (by have := HQ.out; simp; omega)) _
        have HB2 := Lib.hid b2
        have HP : Hid (0 < a + 1) := hpos
        have hz1 : (a : Int) + 1 < (t.length : Int) := by omega
        have hz2 : 0 < (a : Int) + 1 := by omega
        have SC : SRd (wr.setCell ⟨r, a + 1, none⟩ (.int .u8 (t.getD (a + 1) 0).toNat)) q sb rows := HSL.out _ HKS.out
        have q0 := SC.c0
        obtain ⟨q1, q2, q3⟩ := SC.sl cc hcc
        clear sl b1 b2 b3 hb htl2 ho s0 s2 hk SC q2 q3 hpos
        generalize (sloF rows cc).par = pp at *
        have hw : IntKind.i64.wrap (pp : Int) = pp := by rw [IntKind.wrap_i64]; omega
        generalize t.getD (a + 1) 0 = ty at *
        go_wp2_with fail
        go_roundw
        case rel => exact ⟨pp, a, _, rfl, hps, by go_num, by omega, HB2, HT2, HO2, HKS⟩
        case measure => simp [intOf]
      · obtain rfl : a = 0 := by omega
        obtain ⟨b1, b2⟩ := hb.out.first htl
        have hall := htl2.out.all htl
        have hfr := ho.out.free 0
        have HO2 := Lib.hid (ho.out.store 0 (by rw [hxl]; exact htl) (t.getD 0 0))
        rw [hall] at HO2
        rw [b2] at HO2
        have hcn : (UInt8.ofNat cc).toNat = cc := by simp; omega
        rw [hcn] at HO2
        obtain ⟨old, hcl⟩ := ho.out.cellAt 0 (by rw [hxl]; exact htl)
        have HKS : Hid (Keep [] w (wr.setCell ⟨r, 0, none⟩ (.int .u8 (cc : Int)))) := hk.out.setCell (.inr (by have := HQ.out; simp; omega)) _
        have hw : IntKind.u8.wrap (cc : Int) = cc := by rw [IntKind.wrap_u8']; omega
        have hz1 : (0 : Int) < (t.length : Int) := by omega
        clear b2 hall hb htl2 ho hk hcn
        go_wp2_with fail
        go_ret2
        exact ⟨_, rfl, HO2.out, HKS.out, fun b hb => by have := HQ.out; simp [Value.ownBlock] at hb; omega⟩
/-- a struct that lies in a cell of its own, and one more result -/
theorem results_cellS {P : Program} {fn : Func} {p u : Tmp} {ty : TypeId} (h : fn.results = #[.cell p ty, .tmp u]) (tmps : Array Value) {w : World} {g : Nat} {c : Array Value} {t : TypeId} (hp : tmps.getD p undef = .pointer (some ⟨g, 0, none⟩)) (hb : Blk w g c t)
    (d : TypeDesc) (hu : P.underlying ty = some d) (hd : d.isRow = true) (hi : (P.info? ty).map (·.size) = some c.size) : (results fn tmps).run P w = .ok (.tuple #[.agg c, tmps.getD u undef]) w := by
  have hl := run_loadVar_mid (P := P) w g 0 ty c.toList d (fun j v hv => by rw [Nat.zero_add]; exact hb.cell j v (by simpa using hv)) hu hd (by simpa using hi)
  rw [results_cell_tmp h, hp]
  simp [asAddr, Result.andThen, hl]
end Go.Proofs.Ytkefidbokeifdaa
namespace Go.Proofs.Ytkefidbokeifdaa
set_option linter.unusedVariables false
set_option linter.unusedSimpArgs false
open Go.ChangeShapes Go.WideShapes Go.ChangeAt Go.RowKit

/-- what make makes: n elements, each the zero one -/
theorem El.cells_made {α : Type} {E : El α} (G : E.Good) (x : α) (z : Array Value) (hz : E.enc x = z.toList) (n : Nat) : (madeCells z (n * E.sz)).toList = E.cells (List.replicate n x) := by
  have hzs : z.size = E.sz := by have := G.len x; rw [hz] at this; simpa using this
  apply List.ext_getElem?
  intro j
  by_cases hj : j < n * E.sz
  · have hp := G.pos
    have hq : j / E.sz < n := (Nat.div_lt_iff_lt_mul hp).2 hj
    have hm : j % E.sz < E.sz := Nat.mod_lt _ hp
    have hd : j / E.sz * E.sz + j % E.sz = j := by rw [Nat.mul_comm]; exact Nat.div_add_mod _ _
    have h1 := El.cells_get G (List.replicate n x) (j / E.sz) (j % E.sz) (by simpa using hq) hm
    rw [hd] at h1
    rw [h1, List.getElem_replicate, hz]
    have h2 : (z[j % z.size]! : Value) = z[j % E.sz]'(by omega) := by simp only [hzs]; exact getElem!_pos z _ (by omega)
    rw [Array.getElem?_toList, Array.getElem?_toList, Array.getElem?_eq_getElem (show j < (madeCells z (n * E.sz)).size by rw [size_madeCells]; exact hj), Array.getElem?_eq_getElem (show j % E.sz < z.size by rw [hzs]; exact hm)]
    unfold madeCells
    simp [h2]
  · rw [List.getElem?_eq_none (by rw [Array.length_toList, size_madeCells]; omega), List.getElem?_eq_none (by rw [El.cells_len G, List.length_replicate]; omega)]
theorem OwnG.made {α : Type} {E : El α} (G : E.Good) (w : World) (x : α) (z : Array Value) (hz : E.enc x = z.toList) (n : Nat) (hn : n ≤ maxLen) : OwnG E (w.alloc (.cells (madeCells z (n * E.sz)) E.ty)) (.slice (some ⟨w.heap.size, 0, none⟩) n n) (List.replicate n x) := by
  have h := World.ownsRow_lit (base := 0) (e := E.ty) (size := E.sz) w (madeCells z (n * E.sz)) n (Nat.zero_le _) hn (size_madeCells _ _)
  unfold OwnG
  rw [List.length_replicate, ← El.cells_made G x z hz]
  exact h
theorem slotInfo : (Try.prog.info? 121).map (fun i => (i.zero, i.size, i.bytes)) = some (some (.agg #[.int .i16 0, .int .u8 0, .bool false]), 3, 4) := by kernel_rfl
theorem slotBuilt : Try.prog.built 121 [] = some #[.int .i16 0, .int .u8 0, .bool false] := by kernel_rfl
theorem run_make_slots (w : World) : (Instr.makeSlice 97 (.int .i64 8192) (.int .i64 8192)).run Try.prog w = .ok (.slice (some ⟨w.heap.size, 0, none⟩) 8192 8192) (w.alloc (.cells (madeCells #[.int .i16 0, .int .u8 0, .bool false] (8192 * ES.sz)) 121)) := by
  obtain ⟨i, hi, hz⟩ := Option.map_eq_some_iff.1 slotInfo
  simp only [Prod.mk.injEq] at hz
  have := run_make (P := Try.prog) (w := w) 97 121 i _ Try.underlying97 hi hz.1 .i64 .i64 8192 8192 (by omega) (by omega) (by rw [hz.2.2]; omega) (by omega)
  rw [this, hz.2.1]
  rfl
theorem slots_no : slots (sloF []) = List.replicate 8192 Slt.no := by
  apply List.ext_getElem
  · rw [slots_len, List.length_replicate]
  · intro i h1 h2
    rw [slots_get, List.getElem_replicate]
    exact sloF_none ((lk_at [] _).2 (by rw [atI_nil]; omega))
/-- three cells of a slot stored anew -/
theorem slot_store {w : World} {sb : Nat} {f : Nat → Slt} (h : OwnG ES w (.slice (some ⟨sb, 0, none⟩) 8192 8192) (slots f)) (n : Nat) (hn : n < 8192) (p : Nat) (c : UInt8) (b : Bool) :
    OwnG ES (((w.setCell ⟨sb, n * 3, none⟩ (.int .i16 p)).setCell ⟨sb, n * 3 + 1, none⟩ (.int .u8 c.toNat)).setCell ⟨sb, n * 3 + 2, none⟩ (.bool b)) (.slice (some ⟨sb, 0, none⟩) 8192 8192) (slots fun k => if k = n then ⟨p, c, b⟩ else f k) := by
  have h1 := h.store ESg n 0 (by rw [slots_len]; exact hn) (by decide) ⟨p, (f n).byt, (f n).on⟩ (.int .i16 p) (by rw [slots_get]; rfl)
  rw [slots_set] at h1
  have h2 := h1.store ESg n 1 (by rw [slots_len]; exact hn) (by decide) ⟨p, c, (f n).on⟩ (.int .u8 c.toNat) (by rw [slots_get, if_pos rfl]; rfl)
  rw [slots_set] at h2
  have h3 := h2.store ESg n 2 (by rw [slots_len]; exact hn) (by decide) ⟨p, c, b⟩ (.bool b) (by rw [slots_get, if_pos rfl]; rfl)
  rw [slots_set] at h3
  have e : (fun k => if k = n then (⟨p, c, b⟩ : Slt) else if k = n then ⟨p, c, (f n).on⟩ else if k = n then ⟨p, (f n).byt, (f n).on⟩ else f k) = fun k => if k = n then ⟨p, c, b⟩ else f k := by
    funext k; by_cases hk : k = n
    · simp [hk]
    · simp [hk]
  rw [e] at h3
  exact h3
set_option maxRecDepth 100000 in
set_option maxHeartbeats 2000000 in
theorem lnew_c (w : World) : Calls Try.prog 33 #[] w fun e w' => ∃ q sb g, e = .returned (.pointer (some ⟨q, 0, none⟩)) ∧ LTb w' q sb (.slice none 0 0) g 0 [] LT.new ∧ Keep [] w w' ∧ w.heap.size ≤ q ∧ w.heap.size ≤ sb ∧ w.heap.size ≤ g := by
  have hmk := run_make_slots w
  obtain ⟨w1, hw1⟩ : ∃ w1, w1 = w.alloc (.cells (madeCells #[.int .i16 0, .int .u8 0, .bool false] (8192 * ES.sz)) 121) := ⟨_, rfl⟩
  have HO := Lib.hid (OwnG.made ESg w Slt.no #[.int .i16 0, .int .u8 0, .bool false] rfl 8192 (by unfold maxLen; omega))
  have HK := Lib.hid ((Keep.refl [] w).alloc (.cells (madeCells #[.int .i16 0, .int .u8 0, .bool false] (8192 * ES.sz)) 121))
  have hsz : w1.heap.size = w.heap.size + 1 := by rw [hw1]; simp
  rw [show ES.ty = 121 from rfl, ← hw1, ← slots_no] at HO
  rw [← hw1] at HK hmk
  have hmm := @run_makeMap Try.prog 98 w1
  have HM := Lib.hid (LinkM.made w1)
  have HK2 := Lib.hid (HK.out.alloc (.map #[] 0))
  have HO2 := Lib.hid (HO.out.keep ((Keep.refl [] w1).alloc (.map #[] 0)) (by simp))
  have hsz2 : (w1.alloc (.map #[] 0)).heap.size = w.heap.size + 2 := by simp [hsz]
  rw [hsz] at HM
  obtain ⟨w2, hw2⟩ : ∃ w2, w2 = w1.alloc (.map #[] 0) := ⟨_, rfl⟩
  rw [← hw2] at HM HK2 HO2 hsz2
  rw [hsz, ← hw2] at hmm
  have HX := Lib.hid (Blk.new w2 #[.slice (some ⟨w.heap.size, 0, none⟩) 8192 8192, .slice none 0 0, .map (some (w.heap.size + 1)), .int .i64 0, .int .i64 257] 100)
  rw [hsz2] at HX
  have HS := Lib.hid hsz2
  clear HO HK hsz hw1 hw2 hsz2
  go_enter Try.func33, Try.ntmps33
  go_wp2_with fail
  go_ret
  have hs2 := HS.out
  rw [hs2]
  refine ⟨w.heap.size + 2, w.heap.size, w.heap.size + 1, rfl, ⟨?_, HO2.out.keep ((Keep.refl [] w2).alloc _) (by simp), OwnG.nil EI _, ⟨_, HM.out.keep ((Keep.refl [] w2).alloc _) (by simp), Lst.nil _⟩, Gvn.nil, Nat.le_refl _, LT.new_ok, by omega, by omega, by omega, fun b hb => by simp [Value.ownBlock] at hb⟩, HK2.out.alloc _, by omega, by omega, by omega⟩
  have := HX.out
  rw [FullS.new.next (by omega)]
  exact this
theorem ladd_no (w : World) (q sb : Nat) (vg : Value) (g k : Nat) (gs : List Nat) (s : LT) (p : Int) (c : UInt8) (h : LTb w q sb vg g k gs s) (hn : s.next < 0 ∨ ¬ parOk p) : Calls Try.prog 65 #[.pointer (some ⟨q, 0, none⟩), .int .i64 p, .int .u8 c.toNat] w fun e w' => e = .returned (.int .i64 (-1)) ∧ w = w' := by
  have HN := Lib.hid (lnext_c w q sb vg g k gs s h)
  have HI := Lib.hid (iscode_c w p)
  have hnx := h.next_wf.1
  clear h
  generalize s.next = nx at *
  by_cases h1 : nx < 0
  · have h2 : (nx == -1) = true := by simp; omega
    clear hn hnx h1
    go_enter Try.func65, Try.ntmps65
    go_wp2_with fail
    refine HN.out.mono ?_; rintro e w' ⟨rfl, rfl⟩
    clear HN
    go_wp2_with fail
    go_ret
    exact ⟨rfl, rfl⟩
  · have h2 : (nx == -1) = false := by simp; omega
    have hp : ¬ parOk p := by rcases hn with h | h; exact absurd h h1; exact h
    clear hn hnx h1
    by_cases h3 : 0 ≤ p ∧ p < 8192
    · rw [decide_eq_true h3] at HI
      have h4 : (p == 256) = true := by unfold parOk at hp; simp; omega
      clear hp h3
      go_enter Try.func65, Try.ntmps65
      go_wp2_with fail
      refine HN.out.mono ?_; rintro e w' ⟨rfl, rfl⟩
      clear HN
      go_wp2_with fail
      refine HI.out.mono ?_; rintro e w' ⟨rfl, rfl⟩
      clear HI
      go_wp2_with fail
      go_ret
      exact ⟨rfl, rfl⟩
    · rw [decide_eq_false h3] at HI
      clear hp h3
      go_enter Try.func65, Try.ntmps65
      go_wp2_with fail
      refine HN.out.mono ?_; rintro e w' ⟨rfl, rfl⟩
      clear HN
      go_wp2_with fail
      refine HI.out.mono ?_; rintro e w' ⟨rfl, rfl⟩
      clear HI
      go_wp2_with fail
      go_ret
      exact ⟨rfl, rfl⟩
set_option maxRecDepth 100000 in
set_option maxHeartbeats 4000000 in
theorem ladd_yes (w : World) (q sb : Nat) (vg : Value) (g k : Nat) (gs : List Nat) (s : LT) (p : Nat) (c : UInt8) (n : Nat) (h : LTb w q sb vg g k gs s) (hn : s.next = (n : Int)) (hp : parOk p) (hfree : atI s.rows (n : Nat) < 0) (hn1 : 257 ≤ n) (hn2 : n < 8192)
    (hok : LT.ok ⟨ins s.rows ⟨n, p, c⟩, n⟩) : Calls Try.prog 65 #[.pointer (some ⟨q, 0, none⟩), .int .i64 (p : Int), .int .u8 c.toNat] w fun e w' => e = .returned (.int .i64 n) ∧
    ∃ vg', LTb w' q sb vg' g k (gs ++ [n]) ⟨ins s.rows ⟨n, p, c⟩, n⟩ ∧ Keep ([q, sb, g] ++ vg.ownBlock.toList) w w' ∧ ∀ b, vg'.ownBlock = some b → vg.ownBlock = some b ∨ w.heap.size ≤ b := by
  have HN := Lib.hid (lnext_c w q sb vg g k gs s h)
  have HI := Lib.hid (iscode_c w (p : Int))
  rw [hn] at HN
  unfold parOk at hp
  rw [decide_eq_true (show 0 ≤ (p : Int) ∧ (p : Int) < 8192 by omega)] at HI
  have d1 : ((n : Int) == -1) = false := by simp
  have d2 : ((p : Int) == 256) = false := by simp; omega
  have hw : IntKind.i16.wrap (p : Int) = p := by simp [IntKind.wrap, IntKind.bits, IntKind.signed]; omega
  have hw2 : IntKind.i64.wrap ((n : Int) + 1) = (n : Int) + 1 := by rw [IntKind.wrap_i64]; omega
  have hlen := h.ok.len
  have HGL := Lib.hid h.per.len
  obtain ⟨L, hL, hlst⟩ := h.lea
  -- the slot
  have hS := Lib.hid (slot_store h.slo n hn2 p c true)
  have f0 := h.slo.free (n * 3)
  have f1 := h.slo.free (n * 3 + 1)
  have f2 := h.slo.free (n * 3 + 2)
  obtain ⟨s0, s1, s2⟩ := h.slot n hn2
  have c0 : w.cell? ⟨q, 0, none⟩ = some (.slice (some ⟨sb, 0, none⟩) 8192 8192) := h.box.cell 0 _ rfl
  obtain ⟨a, cap, hvg, _, _⟩ := h.giv.gs.sh
  subst hvg
  obtain ⟨w3, hw3⟩ : ∃ w3, ((w.setCell ⟨sb, n * 3, none⟩ (.int .i16 p)).setCell ⟨sb, n * 3 + 1, none⟩ (.int .u8 c.toNat)).setCell ⟨sb, n * 3 + 2, none⟩ (.bool true) = w3 := ⟨_, rfl⟩
  have K3 := Lib.hid (((((Keep.refl [sb] w).setCell (p := ⟨sb, n * 3, none⟩) (.inl (by simp)) (.int .i16 p)).setCell (p := ⟨sb, n * 3 + 1, none⟩) (.inl (by simp)) (.int .u8 c.toNat)).setCell (p := ⟨sb, n * 3 + 2, none⟩) (.inl (by simp)) (.bool true)))
  rw [hw3] at hS K3
  have HB3 := Lib.hid (h.box.keep K3.out (by simp [h.qs]))
  have HG3 := Lib.hid (h.giv.keep K3.out (by intro b hb; simp; exact (h.vb b hb).2.1))
  have c1 : w3.cell? ⟨q, 1, none⟩ = some (.slice a gs.length cap) := HB3.out.cell 1 _ rfl
  have HFR := Lib.hid (fun (w' : World) (c' : w'.cell? ⟨q, 0, none⟩ = some (.slice (some ⟨sb, 0, none⟩) 8192 8192)) (hs : ∀ j, j < 8192 → w'.cell? ⟨sb, j * 3 + 2, none⟩ = some (.bool (sloF (ins s.rows ⟨n, p, c⟩) j).on)) => lfree_c w' q sb (ins s.rows ⟨n, p, c⟩) n c' (by omega) hs)
  have HH := Lib.hid h
  have HL := Lib.hid hL
  have HLS := Lib.hid hlst
  have HSI := Lib.hid (sloF_ins h.ok.srt ⟨n, p, c⟩ hfree)
  have HOK := Lib.hid hok
  have hse : (fun k => if k = n then (⟨p, c, true⟩ : Slt) else sloF s.rows k) = sloF (ins s.rows ⟨n, p, c⟩) := by funext k; exact (HSI.out k).symm
  rw [hse] at hS
  have HW3 := Lib.hid hw3
  have HFREE := Lib.hid ((lk_at s.rows (n : Nat)).2 hfree)
  clear hL h hlst hn hfree hok hse hp
  go_enter Try.func65, Try.ntmps65
  go_wp2_with fail
  refine HN.out.mono ?_; rintro e w' ⟨rfl, rfl⟩
  clear HN
  go_wp2_with fail
  refine HI.out.mono ?_; rintro e w' ⟨rfl, rfl⟩
  clear HI
  have hgl : gs.length ≤ 7935 := by have := HGL.out; omega
  have HG4 : Hid (OwnG EI (w3.alloc (.cells #[.int .i64 n] 3)) (.slice a gs.length cap) gs) := HG3.out.keep ((Keep.refl [] w3).alloc _) (by simp)
  have HL4 : Hid (Gs EI (w3.alloc (.cells #[.int .i64 n] 3)) (.slice (some ⟨w3.heap.size, 0, none⟩) 1 1) [n]) := Gs.lit EIg [n] 1 (Blk.new w3 #[.int .i64 n] 3) rfl rfl (by unfold maxLen; omega)
  go_wp2_with (at_builtin; (refine wpList_appendG EIg (.tmp 35) (.tmp 37) rfl rfl (.slice a gs.length cap) gs rfl HG4.out _ [n] rfl HL4.out (by simp; omega) ?_); (intro v5 w5 ho5 hk5 hb5); (obtain ⟨a5, cap5, hv5, _⟩ := ho5.gs.sh); (subst hv5); (have hk35 : Keep (Value.slice a gs.length cap).ownBlock.toList w3 w5 := ((Keep.refl _ w3).alloc _).trans hk5 (fun x hx => .inl hx)); (have HB5 := Lib.hid (HB3.out.keep hk35 (by simpa using fun hb => (HH.out.vb q hb).1 rfl))); (have f5 := HB5.out.free 1); (have c5 := HB5.out.cell 0 _ rfl); (have c51 := HB5.out.cell 1 _ rfl))
  have hl1 : (gs ++ [n]).length = gs.length + 1 := by simp
  have HB6 := Lib.hid (HB5.out.set 1 (.slice a5 (gs.length + 1) cap5))
  have HK56 : Hid (Keep [q] w5 (w5.setCell ⟨q, 1, none⟩ (.slice a5 (gs.length + 1) cap5))) := (Keep.refl _ _).setCell (.inl (by simp)) _
  have HS5 := Lib.hid (hS.out.keep hk35 (by intro b hb; simp [Value.ownBlock] at hb; subst hb; simpa using fun hb => (HH.out.vb _ hb).2.1 rfl))
  have HS6 := Lib.hid (HS5.out.keep HK56.out (by intro b hb; simp [Value.ownBlock] at hb; subst hb; simpa using Ne.symm HH.out.qs))
  have HO5 := Lib.hid ho5
  have HB5b := Lib.hid hb5
  have HK35 := Lib.hid hk35
  have h3s : w3.heap.size = w.heap.size := by rw [← HW3.out]; simp
  have h5q : ∀ b, (Value.slice a5 (gs ++ [n]).length cap5).ownBlock = some b → b ≠ q ∧ b ≠ sb ∧ b ≠ g ∧ b < w5.heap.size := fun b hb => by
    have hlt := HO5.out.lt b hb
    rcases HB5b.out b hb with h1 | h1
    · exact ⟨(HH.out.vb b h1).1, (HH.out.vb b h1).2.1, (HH.out.vb b h1).2.2, hlt⟩
    · have e1 := HH.out.box.lt
      have e2 := HH.out.slo.lt sb rfl
      have e3 := HL.out.lt
      simp at h1
      omega
  have HQ5 := Lib.hid h5q
  clear h5q ho5 hb5 hk5 hk35 f5 c5 c51 hw3 hgl
  refine (HFR.out _ (HB6.out.cell 0 _ rfl) (fun j hj => ?_)).mono ?_
  · have := HS6.out.cell ESg j 2 (by rw [slots_len]; exact hj) (by decide)
    rw [slots_get] at this
    exact this
  rintro e w6 ⟨rfl, rfl⟩
  have f6 := HB6.out.free 4
  have c64 := HB6.out.cell 4 _ rfl
  obtain ⟨nx, hnx⟩ : ∃ nx, LT.next ⟨ins s.rows ⟨n, p, c⟩, n⟩ = nx := ⟨_, rfl⟩
  have HNX := Lib.hid hnx
  rw [hnx]
  clear hnx HFR
  go_wp2_with fail
  go_ret
  have HB7 := Lib.hid (HB6.out.set 4 (.int .i64 nx))
  have K7 : Hid (Keep [q] w5 ((w5.setCell ⟨q, 1, none⟩ (.slice a5 (gs.length + 1) cap5)).setCell ⟨q, 4, none⟩ (.int .i64 nx))) := HK56.out.setCell (.inl (by simp)) _
  have hkq : Keep (q :: (Value.slice a gs.length cap).ownBlock.toList) w3 ((w5.setCell ⟨q, 1, none⟩ (.slice a5 (gs.length + 1) cap5)).setCell ⟨q, 4, none⟩ (.int .i64 nx)) :=
    (HK35.out.mono (S' := q :: (Value.slice a gs.length cap).ownBlock.toList) (fun x hx => List.mem_cons_of_mem _ hx)).trans K7.out (fun x hx => .inl (by simp at hx; simp [hx]))
  have KALL := (K3.out.mono (S' := sb :: q :: (Value.slice a gs.length cap).ownBlock.toList) (fun x hx => by simp at hx; simp [hx])).trans hkq (fun x hx => .inl (List.mem_cons_of_mem _ hx))
  refine ⟨rfl, .slice a5 (gs.length + 1) cap5, ⟨?_, ?_, ?_, ⟨L, ?_, ?_⟩, ?_, ?_, HOK.out, HH.out.qs, HH.out.qg, HH.out.sg, ?_⟩, ?_, ?_⟩
  · rw [HNX.out]; exact HB7.out
  · refine HS5.out.keep K7.out ?_
    intro b hb; simp [Value.ownBlock] at hb; subst hb; simpa using Ne.symm HH.out.qs
  · have := HO5.out
    rw [hl1] at this
    exact this.keep K7.out (fun b hb => by have := (HQ5.out b (by rw [hl1]; exact hb)).1; simpa using this)
  · refine HL.out.keep KALL ?_
    intro hg
    rcases List.mem_cons.1 hg with h1 | hg
    · exact HH.out.sg h1.symm
    · rcases List.mem_cons.1 hg with h1 | hg
      · exact HH.out.qg h1.symm
      · exact (HH.out.vb g (by simpa using hg)).2.2 rfl
  · have hn : ∀ x ∈ gs.take k, x ≠ n := fun x hx e => by
      subst e
      obtain ⟨r, hr⟩ := (HH.out.per.mem HH.out.ok.srt x).1 (List.mem_of_mem_take hx)
      rw [HFREE.out] at hr; cases hr
    rw [List.take_append_of_le_length HH.out.kle]
    exact HLS.out.congr fun x hx => by rw [HSI.out, if_neg (hn x hx)]
  · exact HH.out.per.add ⟨n, p, c⟩
  · have := HH.out.kle; simp; omega
  · intro b hb; have := HQ5.out b (by rw [hl1]; exact hb); exact ⟨this.1, this.2.1, this.2.2.1⟩
  · refine KALL.mono fun x hx => ?_
    rcases List.mem_cons.1 hx with h1 | hx
    · simp [h1]
    · rcases List.mem_cons.1 hx with h1 | hx
      · simp [h1]
      · simpa using .inr (.inr (.inr (by simpa using hx)))
  · intro b hb
    rcases HB5b.out b (by rw [hl1]; exact hb) with h1 | h1
    · exact .inl h1
    · right; simp at h1; omega
end Go.Proofs.Ytkefidbokeifdaa
namespace Go.Proofs.Ytkefidbokeifdaa
set_option linter.unusedVariables false
set_option linter.unusedSimpArgs false
open Go.ChangeShapes Go.WideShapes Go.ChangeAt Go.RowKit

/-- an array of 8192 truth values -/
def BA (f : Nat → Bool) : Array Value := ((List.range 8192).map fun n => Value.bool (f n)).toArray
theorem BA_size (f : Nat → Bool) : (BA f).size = 8192 := by unfold BA; rw [List.size_toArray, List.length_map, List.length_range]
theorem BA_get (f : Nat → Bool) (n : Nat) (h : n < 8192) : (BA f)[n]? = some (.bool (f n)) := by
  unfold BA; rw [List.getElem?_toArray, List.getElem?_map, List.getElem?_range h]; rfl
theorem BA_eq {cs : Array Value} {f : Nat → Bool} (hs : cs.size = 8192) (h : ∀ n, n < 8192 → cs[n]? = some (.bool (f n))) : cs = BA f := by
  apply Array.ext_getElem?
  intro i
  by_cases hi : i < 8192
  · rw [h i hi, BA_get f i hi]
  · rw [Array.getElem?_eq_none (by omega), Array.getElem?_eq_none (by rw [BA_size]; omega)]
theorem BA_set (f : Nat → Bool) (n : Nat) (y : Bool) (h : n < 8192) : (BA f).setIfInBounds n (.bool y) = BA fun i => if i = n then y else f i := by
  refine BA_eq (by rw [Array.size_setIfInBounds, BA_size]) fun i hi => ?_
  rw [Array.getElem?_setIfInBounds, BA_size]
  by_cases e : n = i
  · subst e; rw [if_pos rfl, if_pos h, if_pos rfl]
  · rw [if_neg e, BA_get f i hi, if_neg (fun h => e h.symm)]
theorem BA_one (f : Nat → Bool) : ∀ v ∈ (BA f).toList, v.oneCell' = true := by
  intro v hv
  obtain ⟨i, he⟩ := List.mem_iff_getElem?.1 hv
  have hi : i < (BA f).toList.length := (List.getElem?_eq_some_iff.1 he).1
  rw [Array.length_toList, BA_size] at hi
  rw [Array.getElem?_toList, BA_get f i hi] at he
  obtain rfl := Option.some.inj he
  rfl
/-- a row doubled n times -/
def dbl : Nat → List Value → List Value
  | 0, l => l
  | n + 1, l => (dbl n l).append (dbl n l)
theorem dbl_len (n : Nat) (l : List Value) : (dbl n l).length = l.length * 2 ^ n := by
  induction n with
  | zero => simp [dbl]
  | succ n ih =>
    show (dbl n l ++ dbl n l).length = _
    rw [List.length_append, ih, Nat.pow_succ, ← Nat.mul_assoc]; omega
theorem dbl_mem (n : Nat) (l : List Value) (v : Value) (h : v ∈ dbl n l) : v ∈ l := by
  induction n with
  | zero => exact h
  | succ n ih =>
    have h2 : v ∈ dbl n l ++ dbl n l := h
    rcases List.mem_append.1 h2 with h2 | h2 <;> exact ih h2
def leaf64 : List Value := [.bool false, .bool false, .bool false, .bool false, .bool false, .bool false, .bool false, .bool false, .bool false, .bool false, .bool false, .bool false, .bool false, .bool false, .bool false, .bool false, .bool false, .bool false, .bool false, .bool false, .bool false, .bool false, .bool false, .bool false, .bool false, .bool false, .bool false, .bool false, .bool false, .bool false, .bool false, .bool false, .bool false, .bool false, .bool false, .bool false, .bool false, .bool false, .bool false, .bool false, .bool false, .bool false, .bool false, .bool false, .bool false, .bool false, .bool false, .bool false, .bool false, .bool false, .bool false, .bool false, .bool false, .bool false, .bool false, .bool false, .bool false, .bool false, .bool false, .bool false, .bool false, .bool false, .bool false, .bool false]
theorem leaf64_len : leaf64.length = 64 := rfl
theorem leaf64_mem (v : Value) (h : v ∈ leaf64) : v = .bool false := by
  have e : leaf64 = List.replicate 64 (.bool false) := rfl
  rw [e] at h
  exact List.eq_of_mem_replicate h
theorem baInfoD : (Try.prog.info? 117).map (fun i => (i.zero, i.size)) = some (some (.agg (dbl 7 leaf64).toArray), 8192) := by kernel_rfl
theorem BA_zero : (dbl 7 leaf64).toArray = BA fun _ => false := by
  have hl : (dbl 7 leaf64).length = 8192 := by rw [dbl_len, leaf64_len]
  refine BA_eq (by rw [List.size_toArray, hl]) fun n hn => ?_
  rw [List.getElem?_toArray, List.getElem?_eq_getElem (by rw [hl]; exact hn)]
  rw [leaf64_mem _ (dbl_mem 7 leaf64 _ (List.getElem_mem _))]
theorem baInfo : (Try.prog.info? 117).map (fun i => (i.zero, i.size)) = some (some (.agg (BA fun _ => false)), 8192) := by rw [← BA_zero]; exact baInfoD
theorem baSize : (Try.prog.info? 117).map (·.size) = some 8192 := by kernel_rfl
theorem wpList_loadBA {ops : Array Oper} {rest : List Oper} {o : Oper} {a : Act} {w : World} {Q : Exit → Act → World → Prop} (hgd : o.guard = none) (x : Operand) (ho : o.op = .load 117 x)
    (g : Nat) (hx : a.eval x = .pointer (some ⟨g, 0, none⟩)) (f : Nat → Bool) (hb : Blk w g (BA f) 117)
    (h : wpList Try.prog ops Q rest (a.put o.dst (.agg (BA f))) w) : wpList Try.prog ops Q (o :: rest) a w :=
  wpList_load_row hgd 117 x ho g hx _ _ _ _ hb Try.underlying117 rfl (by rw [BA_size]; exact baSize) h
theorem wpList_storeBA {ops : Array Oper} {rest : List Oper} {o : Oper} {a : Act} {w : World} {Q : Exit → Act → World → Prop} (hgd : o.guard = none) (x y : Operand) (ho : o.op = .store 117 x y)
    (g : Nat) (f : Nat → Bool) (hx : a.eval x = .pointer (some ⟨g, 0, none⟩)) (hy : a.eval y = .agg (BA f)) (t : TypeId) (old : Array Value) (hb : Blk w g old t) (hold : old.size = 8192)
    (h : wpList Try.prog ops Q rest (a.put o.dst undef) (w.setRow g (BA f))) : wpList Try.prog ops Q (o :: rest) a w :=
  wpList_store_row hgd 117 x y ho g _ hx hy t old hb (by rw [BA_size]; exact baSize) (by rw [hold, BA_size]) (Array.all_eq_true_iff_forall_mem.2 fun v hv => BA_one f v (by simpa using hv)) h
theorem results_cellBA {fn : Func} {p : Tmp} (h : fn.results = #[.cell p 117]) (tmps : Array Value) {w : World} {g : Nat} {f : Nat → Bool} (hp : tmps.getD p undef = .pointer (some ⟨g, 0, none⟩)) (hb : Blk w g (BA f) 117) :
    (results fn tmps).run Try.prog w = .ok (.agg (BA f)) w :=
  results_cellA h tmps hp hb _ Try.underlying117 rfl (by rw [BA_size]; exact baSize)
/-- the first i codes' parents -/
def parF (rows : List Lk) (cs : List Nat) (c : Nat) : Bool := cs.any fun x => (sloF rows x).par == c
theorem parF_next (rows : List Lk) (cs : List Nat) (x : Nat) : parF rows (cs ++ [x]) = fun c => if c = (sloF rows x).par then true else parF rows cs c := by
  funext c
  unfold parF
  rw [List.any_append]
  by_cases e : c = (sloF rows x).par
  · subst e; simp
  · rw [if_neg e]
    have : ((sloF rows x).par == c) = false := by simpa using fun h => e h.symm
    simp [this]
theorem parF_all {rows : List Lk} {gs : List Nat} (h : Gvn rows gs) (hs : srt rows) : parF rows gs = isPar rows := by
  funext c
  rw [Bool.eq_iff_iff, h.par hs]
  unfold parF
  rw [List.any_eq_true]
  constructor
  · rintro ⟨x, h1, h2⟩; exact ⟨x, h1, by simpa using h2⟩
  · rintro ⟨x, h1, h2⟩; exact ⟨x, h1, by simpa using h2⟩
set_option maxRecDepth 100000 in
set_option maxHeartbeats 4000000 in
theorem lparents_c (w : World) (q sb : Nat) (vg : Value) (g k : Nat) (gs : List Nat) (s : LT) (h : LTb w q sb vg g k gs s) : Calls Try.prog 69 #[.pointer (some ⟨q, 0, none⟩)] w fun e w' => e = .returned (.agg (BA (isPar s.rows))) ∧ Keep [] w w' := by
  have hz := (zero_of_info (P := Try.prog) baInfo).1
  have HP := Lib.hid (parF_all h.per h.ok.srt)
  have HN := Lib.hid (parF_next s.rows)
  have HKK := Lib.hid (fun w' (kp : Keep [] w w') => h.keep kp (by simp) (by simp) (by simp) (by simp))
  have HSM := Lib.hid h.rd.sm
  have HGM := Lib.hid (fun c hc => h.per.small h.ok (c := c) hc)
  obtain ⟨a, cap, hvg, _, _⟩ := h.giv.gs.sh
  subst hvg
  generalize hP : isPar s.rows = PF at *
  obtain ⟨Z, hZ⟩ : ∃ Z, BA (fun _ => false) = Z := ⟨_, rfl⟩
  rw [hZ] at hz
  have HZ := Lib.hid hZ
  have hB0 := Blk.new w Z 117
  have hB1 := Blk.new (w.alloc (.cells Z 117)) Z 117
  have hB0' := hB0.alloc (.cells Z 117)
  have K0 := Lib.hid (((Keep.refl [] w).alloc (.cells Z 117)).alloc (.cells Z 117))
  have hsz : (w.alloc (.cells Z 117)).heap.size = w.heap.size + 1 := by simp
  rw [hsz] at hB1
  have HB0 := Lib.hid hB0'
  have HB1 := Lib.hid hB1
  have c1 : ((w.alloc (.cells Z 117)).alloc (.cells Z 117)).cell? ⟨q, 1, none⟩ = some (.slice a gs.length cap) := (HKK.out _ K0.out).box.cell 1 _ rfl
  clear hP hZ hB0 hB1 hB0' h
  go_enter Try.func69, Try.ntmps69
  go_wp2_with fail
  obtain ⟨l1, hl1⟩ : ∃ l1, w.heap.size = l1 := ⟨_, rfl⟩
  have HL1 := Lib.hid hl1
  rw [hl1] at HB0 HB1 ⊢
  generalize (w.alloc (.cells Z 117)).alloc (.cells Z 117) = w2 at *
  clear hsz hl1 hz c1
  have HST : Hid (Blk w2 (l1 + 1) (BA (parF s.rows [])) 117) := by have := HB1.out; rw [← HZ.out] at this; exact this
  go_loopw [11] (fun iv wr => ∃ i : Nat, i ≤ gs.length ∧ iv = .int .i64 i ∧ Hid (Blk wr (l1 + 1) (BA (parF s.rows (gs.take i))) 117) ∧ Hid (Blk wr l1 Z 117) ∧ Hid (Keep [] w wr)) (fun iv _ => gs.length - (intOf iv).toNat)
  case atStart => exact ⟨0, Nat.zero_le _, rfl, by rw [List.take_zero]; exact HST, HB0, K0⟩
  case round =>
    obtain ⟨i, hi, rfl, hb, h0, hk⟩ := hrel
    clear HST HB0 HB1 K0
    by_cases hlt : i < gs.length
    · have hlt2 : (i : Int) < gs.length := by omega
      have HT := HKK.out wr hk.out
      obtain ⟨b, off, cap', hv, hcl⟩ := HT.giv.gs.at EIg i hlt
      simp only [Value.slice.injEq] at hv
      obtain ⟨rfl, x1, rfl⟩ := hv
      clear x1
      have hc0 := hcl 0 (by decide)
      have hc0' : wr.cell? ⟨b, off + i, none⟩ = some (.int .i64 gs[i]) := by simpa [EI] using hc0
      have hmem : gs[i] ∈ gs := List.getElem_mem hlt
      have hsm := HGM.out _ hmem
      have c0 : wr.cell? ⟨q, 0, none⟩ = some (.slice (some ⟨sb, 0, none⟩) 8192 8192) := HT.box.cell 0 _ rfl
      obtain ⟨s0, _, _⟩ := HT.slot gs[i] hsm.2
      have hps := HSM.out gs[i]
      have htk : gs.take (i + 1) = gs.take i ++ [gs[i]] := by rw [List.take_add_one, List.getElem?_eq_getElem hlt]; rfl
      have HB2 := Lib.hid (hb.out.set (sloF s.rows gs[i]).par (.bool true))
      rw [BA_set _ _ _ hps, ← HN.out, ← htk] at HB2
      have HF := hb.out.free (sloF s.rows gs[i]).par
      have HC := hb.out.cell _ _ (BA_get (parF s.rows (gs.take i)) _ hps)
      have H02 := Lib.hid (h0.out.other (p := ⟨l1 + 1, (sloF s.rows gs[i]).par, none⟩) (by simp) (.bool true))
      have HK2 := Lib.hid (hk.out.setCell (p := ⟨l1 + 1, (sloF s.rows gs[i]).par, none⟩) (.inr (by have := HL1.out; simp; omega)) (.bool true))
      have hsm2 := hsm.2
      clear hcl hc0 hmem htk hsm HT hb h0 hk
      generalize (sloF s.rows gs[i]).par = pp at *
      generalize gs[i] = cc at *
      have hpz : (pp : Int) < 8192 := by omega
      have hcz : (cc : Int) < 8192 := by omega
      go_wp2_with fail
      go_roundw
      case rel => exact ⟨i + 1, by omega, by go_num, HB2, H02, HK2⟩
      case measure => simp [intOf]; omega
    · have hlt2 : ¬ (i : Int) < gs.length := by omega
      have hie : gs.take i = gs := List.take_of_length_le (by omega)
      rw [hie, HP.out] at hb
      have hz256 : Z.size = 8192 := by rw [← HZ.out, BA_size]
      have h1 := hb.out
      have h0' := h0.out
      have HB2 := Lib.hid (h0'.setRow (BA PF))
      have K2 := Lib.hid (hk.out.trans (Keep.setRow (w := wr) (g := l1) (BA PF)) (fun x hx => .inr (by have := HL1.out; simp at hx; omega)))
      clear hie hlt
      go_wp2_with (first | refine wpList_loadBA rfl _ rfl _ rfl _ h1 ?_ | refine wpList_storeBA rfl _ _ rfl _ _ rfl rfl _ _ h0' hz256 ?_)
      refine bodyPost_ret (results_cellBA rfl _ rfl HB2.out) rfl ?_
      exact ⟨rfl, K2.out⟩
end Go.Proofs.Ytkefidbokeifdaa
namespace Go.Proofs.Ytkefidbokeifdaa
set_option linter.unusedVariables false
set_option linter.unusedSimpArgs false
open Go.ChangeShapes Go.WideShapes Go.ChangeAt Go.RowKit

/-- the beginning of a row of the call's own -/
theorem OwnG.pre {α : Type} {E : El α} (G : E.Good) {w : World} {a : Option Addr} {l : List α} {cap : Nat} (h : OwnG E w (.slice a l.length cap) l) (n : Nat) (hn : n ≤ l.length) : OwnG E w (.slice a n cap) (l.take n) := by
  have e : (l.take n).length = n := by rw [List.length_take]; omega
  refine ⟨by rw [El.cells_len G], ?_⟩
  rcases h.2 with ⟨hv, hz⟩ | ⟨g, cap', cur, hv, hb0, hh, h1, h2, h3, h4⟩
  · left
    simp only [Value.slice.injEq] at hv
    obtain ⟨rfl, hl, rfl⟩ := hv
    obtain rfl : n = 0 := by omega
    exact ⟨rfl, by simp⟩
  · right
    simp only [Value.slice.injEq] at hv
    obtain ⟨rfl, _, rfl⟩ := hv
    refine ⟨g, cap, cur, by rw [e], hb0, hh, by rw [e]; omega, h2, h3, ?_⟩
    rw [e, El.cells_take G, ← h4, List.take_take]
    have := Nat.mul_le_mul_right E.sz hn
    rw [Nat.min_eq_left this]
/-- append of one code where there is room -/
theorem wpList_append_in {w : World} {ops : Array Oper} {rest : List Oper} {o : Oper} {a : Act} {Q : Exit → Act → World → Prop} (s x : Operand) (hgd : o.guard = none)
    (ho : o.op = .call { callee := .builtin .append, args := #[s, x], argTypes := #[33, 33] })
    (b n cap m : Nat) (zs : List Nat) (hown : OwnG EI w (.slice (some ⟨b, 0, none⟩) n cap) zs) (hm : m < zs.length) (hs : a.eval s = .slice (some ⟨b, 0, none⟩) m cap) (xv : Value) (c : Nat) (hx : a.eval x = xv) (hsrc : Gs EI w xv [c])
    (h : wpList Try.prog ops Q rest (a.put o.dst (.slice (some ⟨b, 0, none⟩) (m + 1) cap)) (w.setCell ⟨b, m, none⟩ (.int .i64 c))) : wpList Try.prog ops Q (o :: rest) a w := by
  obtain ⟨i0, hi, hzz⟩ := Option.map_eq_some_iff.1 EIg.info
  simp only [Prod.mk.injEq] at hzz
  have hcap : zs.length ≤ cap := by
    obtain ⟨_, _, hv, h1, _⟩ := hown.gs
    simp only [Value.slice.injEq] at hv
    omega
  have hsz : i0.size = 1 := hzz.2.1
  obtain ⟨hl, h1, ⟨_, hm0⟩ | ⟨ad, cp, rfl, hnews⟩⟩ := hsrc.src EIg
  · simp at hm0
  have hcells : EI.cells [c] = [.int .i64 c] := rfl
  rw [hcells] at hl h1 hnews
  have hcl := hown.cell EIg m 0 hm (by decide)
  have hcl' : w.cell? ⟨b, m, none⟩ = some (.int .i64 (zs[m] : Nat)) := by simpa [EI] using hcl
  have hrun := run_append_room_cells (P := Try.prog) w 33 o.type 3 i0 Try.underlying33 hi b 0 m cap ad 1 cp [.int .i64 c] (by rw [hsz]; rfl) hnews h1 (by omega)
    (fun j hj => by
      obtain rfl : j = 0 := by simpa using hj
      rw [hsz, Nat.zero_add, Nat.mul_one, Nat.add_zero, hcl']; rfl)
    (fun j hj => hown.free _)
  rw [hsz, Nat.zero_add, Nat.mul_one] at hrun
  refine wpList_plain hgd fun K hK => ?_
  unfold Oper.wp execOp
  have hlen1 : ([c] : List Nat).length = 1 := rfl
  rw [hlen1] at hx
  simp only [ho, resolve, invoke, builtin, Sem.run_bind, Sem.run_pure, Result.andThen_ok, List.map_toArray, List.map_cons, List.map_nil, hs, hx, hrun]
  exact hK _ _ h
/-- the row of codes, i codes into Clear: m codes are kept -/
def Flt (P : Nat → Bool) (gs zs : List Nat) (i m : Nat) : Prop := zs.length = gs.length ∧ zs.take m = (gs.take i).filter P ∧ zs.drop i = gs.drop i ∧ m ≤ i
theorem Flt.zero (P : Nat → Bool) (gs : List Nat) : Flt P gs gs 0 0 := ⟨rfl, by simp, rfl, Nat.le_refl _⟩
theorem Flt.at {P : Nat → Bool} {gs zs : List Nat} {i m : Nat} (h : Flt P gs zs i m) (hi : i < gs.length) : zs[i]'(by rw [h.1]; exact hi) = gs[i] := by
  have h1 : (zs.drop i)[0]? = (gs.drop i)[0]? := by rw [h.2.2.1]
  rw [List.getElem?_drop, List.getElem?_drop, Nat.add_zero, List.getElem?_eq_getElem hi, List.getElem?_eq_getElem (by rw [h.1]; exact hi)] at h1
  exact Option.some.inj h1
theorem Flt.keep {P : Nat → Bool} {gs zs : List Nat} {i m : Nat} (h : Flt P gs zs i m) (hi : i < gs.length) (hp : P gs[i] = true) : Flt P gs (zs.set m gs[i]) (i + 1) (m + 1) := by
  obtain ⟨h1, h2, h3, h4⟩ := h
  have hm : m < zs.length := by omega
  refine ⟨by rw [List.length_set]; exact h1, ?_, ?_, by omega⟩
  · have e : (gs.take (i + 1)) = gs.take i ++ [gs[i]] := by rw [List.take_add_one, List.getElem?_eq_getElem hi]; rfl
    rw [e, List.filter_append, ← h2]
    have e2 : ([gs[i]] : List Nat).filter P = [gs[i]] := by simp [hp]
    rw [e2, List.take_add_one, List.take_set_of_le (Nat.le_refl _), List.getElem?_set, if_pos rfl, if_pos hm]; rfl
  · rw [List.drop_set, if_pos (by omega)]
    have h5 : zs.drop (i + 1) = (zs.drop i).drop 1 := by rw [List.drop_drop]
    have h6 : gs.drop (i + 1) = (gs.drop i).drop 1 := by rw [List.drop_drop]
    rw [h5, h6, h3]
theorem Flt.drop {P : Nat → Bool} {gs zs : List Nat} {i m : Nat} (h : Flt P gs zs i m) (hi : i < gs.length) (hp : P gs[i] = false) : Flt P gs zs (i + 1) m := by
  obtain ⟨h1, h2, h3, h4⟩ := h
  refine ⟨h1, ?_, ?_, by omega⟩
  · have e : (gs.take (i + 1)) = gs.take i ++ [gs[i]] := by rw [List.take_add_one, List.getElem?_eq_getElem hi]; rfl
    rw [e, List.filter_append, ← h2]
    have e2 : ([gs[i]] : List Nat).filter P = [] := by simp [hp]
    rw [e2, List.append_nil]
  · have h5 : zs.drop (i + 1) = (zs.drop i).drop 1 := by rw [List.drop_drop]
    have h6 : gs.drop (i + 1) = (gs.drop i).drop 1 := by rw [List.drop_drop]
    rw [h5, h6, h3]
/-- a slot let go -/
theorem slot_free {w : World} {sb : Nat} {f : Nat → Slt} (h : OwnG ES w (.slice (some ⟨sb, 0, none⟩) 8192 8192) (slots f)) (n : Nat) (hn : n < 8192) :
    OwnG ES (((w.setCell ⟨sb, n * 3, none⟩ (.int .i16 0)).setCell ⟨sb, n * 3 + 1, none⟩ (.int .u8 0)).setCell ⟨sb, n * 3 + 2, none⟩ (.bool false)) (.slice (some ⟨sb, 0, none⟩) 8192 8192) (slots fun k => if k = n then Slt.no else f k) :=
  slot_store h n hn 0 0 false
set_option maxRecDepth 100000 in
set_option maxHeartbeats 4000000 in
theorem lclear_c (w : World) (q sb : Nat) (vg : Value) (g k : Nat) (gs : List Nat) (s : LT) (h : LTb w q sb vg g k gs s) : Calls Try.prog 53 #[.pointer (some ⟨q, 0, none⟩)] w fun e w' => e = .returned (.tuple #[]) ∧
    ∃ vg', LTb w' q sb vg' g 0 (gs.filter (isPar s.rows)) s.clear ∧ Keep (q :: sb :: g :: vg.ownBlock.toList) w w' ∧ vg'.ownBlock = vg.ownBlock := by
  have c0 : w.cell? ⟨q, 0, none⟩ = some (.slice (some ⟨sb, 0, none⟩) 8192 8192) := h.box.cell 0 _ rfl
  have HM := Lib.hid (lmade_c w q sb c0)
  have HPA := Lib.hid (lparents_c w q sb vg g k gs s h)
  obtain ⟨a, cap, hvg, hcap, _⟩ := h.giv.gs.sh
  subst hvg
  have hz := (zero_of_info (P := Try.prog) baInfo).1
  obtain ⟨Z, hZ⟩ : ∃ Z, BA (fun _ => false) = Z := ⟨_, rfl⟩
  rw [hZ] at hz
  have hzs : Z.size = 8192 := by rw [← hZ, BA_size]
  have HH := Lib.hid h
  have HSMA := Lib.hid (fun c hc => h.per.small h.ok (c := c) hc)
  clear hZ h c0
  go_enter Try.func53, Try.ntmps53
  go_wp2_with fail
  refine HM.out.mono ?_; rintro e w' ⟨rfl, rfl⟩
  clear HM
  go_wp2_with fail
  refine HPA.out.mono ?_; rintro e w1 ⟨rfl, k1⟩
  clear HPA
  have hb0 := Blk.new w1 Z 117
  have KA : Keep [] w (w1.alloc (.cells Z 117)) := k1.alloc _
  obtain ⟨pb, hpb⟩ : ∃ pb, w1.heap.size = pb := ⟨_, rfl⟩
  have hpw : w.heap.size ≤ pb := by rw [← hpb]; exact k1.size
  rw [hpb] at hb0
  have hP := hb0.setRow (BA (isPar s.rows))
  have KP : Keep [] w ((w1.alloc (.cells Z 117)).setRow pb (BA (isPar s.rows))) := KA.trans (Keep.setRow _) (fun x hx => by simp at hx; subst hx; exact .inr hpw)
  have HT2 := Lib.hid (HH.out.keep KP (by simp) (by simp) (by simp) (by simp))
  have c21 : ((w1.alloc (.cells Z 117)).setRow pb (BA (isPar s.rows))).cell? ⟨q, 1, none⟩ = some (.slice a gs.length cap) := HT2.out.box.cell 1 _ rfl
  have HKP := Lib.hid KP
  have HP := Lib.hid hP
  have HPW := Lib.hid hpw
  clear KP hP hpw
  go_wp2_with (refine wpList_storeBA rfl _ _ rfl _ _ (by rw [← hpb]; rfl) rfl _ _ hb0 hzs ?_)
  generalize (w1.alloc (.cells Z 117)).setRow pb (BA (isPar s.rows)) = w2 at *
  clear hb0 KA hz hzs hpb k1 c21
  have HVB : Hid (∀ b ∈ sb :: (Value.slice a gs.length cap).ownBlock.toList, b < w.heap.size ∧ b ≠ q ∧ b ≠ g ∧ b ≠ pb) := by
    intro b hb
    have hlt : b < w.heap.size := by
      rcases List.mem_cons.1 hb with rfl | hb
      · exact HH.out.slo.lt _ rfl
      · exact HH.out.giv.lt b (by simpa using hb)
    refine ⟨hlt, ?_, ?_, by have := HPW.out; omega⟩
    · rcases List.mem_cons.1 hb with rfl | hb
      · exact HH.out.qs.symm
      · exact (HH.out.vb b (by simpa using hb)).1
    · rcases List.mem_cons.1 hb with rfl | hb
      · exact HH.out.sg
      · exact (HH.out.vb b (by simpa using hb)).2.2
  have HS0 : Hid (OwnG ES w2 (.slice (some ⟨sb, 0, none⟩) 8192 8192) (slots (cleF s.rows []))) := by rw [cleF_nil]; exact HT2.out.slo
  have HG0 : Hid (OwnG EI w2 (.slice a gs.length cap) gs) := HT2.out.giv
  go_loopw [3, 21] (fun kv iv wr => ∃ (i m : Nat) (zs : List Nat), kv = .slice a m cap ∧ iv = .int .i64 i ∧ i ≤ gs.length ∧ Hid (Flt (isPar s.rows) gs zs i m) ∧ Hid (OwnG EI wr (.slice a gs.length cap) zs) ∧ Hid (OwnG ES wr (.slice (some ⟨sb, 0, none⟩) 8192 8192) (slots (cleF s.rows (gs.take i)))) ∧ Hid (Keep (sb :: (Value.slice a gs.length cap).ownBlock.toList) w2 wr)) (fun _ iv _ => gs.length - (intOf iv).toNat)
  case atStart => exact ⟨0, 0, gs, rfl, rfl, Nat.zero_le _, Flt.zero _ _, HG0, by rw [List.take_zero]; exact HS0, Keep.refl _ _⟩
  case round =>
    obtain ⟨i, m, zs, rfl, rfl, hi, hf, ho, hs, hk⟩ := hrel
    clear HS0 HG0
    by_cases hlt : i < gs.length
    · have hlt2 : (i : Int) < gs.length := by omega
      have hzl := hf.out.1
      have hmi := hf.out.2.2.2
      obtain ⟨b, hb⟩ : ∃ b, a = some ⟨b, 0, none⟩ := by
        rcases ho.out.shape with ⟨_, h2⟩ | ⟨b, c, h2, _⟩
        · rw [h2] at hzl; simp at hzl; omega
        · simp only [Value.slice.injEq] at h2; exact ⟨b, h2.1⟩
      subst hb
      have hcl := ho.out.cell EIg i 0 (by rw [hzl]; exact hlt) (by decide)
      rw [hf.out.at hlt] at hcl
      have hcl' : wr.cell? ⟨b, i, none⟩ = some (.int .i64 (gs[i] : Nat)) := by simpa [EI] using hcl
      have hsm := HSMA.out gs[i] (List.getElem_mem hlt)
      have hcz : ((gs[i] : Nat) : Int) < 8192 := by omega
      have HPR := Lib.hid (HP.out.keep hk.out (fun hp => (HVB.out _ hp).2.2.2 rfl))
      have hpc := HPR.out.cell _ _ (BA_get (isPar s.rows) gs[i] hsm.2)
      have htk : gs.take (i + 1) = gs.take i ++ [gs[i]] := by rw [List.take_add_one, List.getElem?_eq_getElem hlt]; rfl
      have HTK := Lib.hid htk
      have hc0 : wr.cell? ⟨q, 0, none⟩ = some (.slice (some ⟨sb, 0, none⟩) 8192 8192) := (HT2.out.box.keep hk.out (fun hp => (HVB.out _ hp).2.1 rfl)).cell 0 _ rfl
      cases hp : isPar s.rows gs[i] with
      | true =>
        have HF2 := Lib.hid (hf.out.keep hlt hp)
        have HS2 : Hid (slots (cleF s.rows (gs.take i)) = slots (cleF s.rows (gs.take (i + 1)))) := by rw [HTK.out, cleF_keep hp]; rfl
        have HOA : Hid (OwnG EI (wr.alloc (.cells #[.int .i64 (gs[i] : Nat)] 3)) (.slice (some ⟨b, 0, none⟩) gs.length cap) zs) := ho.out.keep ((Keep.refl [] wr).alloc _) (by simp)
        have HL4 : Hid (Gs EI (wr.alloc (.cells #[.int .i64 (gs[i] : Nat)] 3)) (.slice (some ⟨wr.heap.size, 0, none⟩) 1 1) [gs[i]]) := Gs.lit EIg [gs[i]] 1 (Blk.new wr #[.int .i64 (gs[i] : Nat)] 3) rfl rfl (by unfold maxLen; omega)
        have hmz : m < zs.length := by omega
        have HST := Lib.hid (HOA.out.store EIg m 0 hmz (by decide) gs[i] (.int .i64 (gs[i] : Nat)) rfl)
        have e0 : m * EI.sz + 0 = m := by simp [EI]
        rw [e0] at HST
        have HKA : Hid (Keep (sb :: (Value.slice (some ⟨b, 0, none⟩) gs.length cap).ownBlock.toList) w2 ((wr.alloc (.cells #[.int .i64 (gs[i] : Nat)] 3)).setCell ⟨b, m, none⟩ (.int .i64 (gs[i] : Nat)))) := (hk.out.alloc _).setCell (.inl (by simp [Value.ownBlock])) _
        have HSA : Hid (OwnG ES ((wr.alloc (.cells #[.int .i64 (gs[i] : Nat)] 3)).setCell ⟨b, m, none⟩ (.int .i64 (gs[i] : Nat))) (.slice (some ⟨sb, 0, none⟩) 8192 8192) (slots (cleF s.rows (gs.take (i + 1))))) := by
          rw [← HS2.out]
          refine hs.out.keep (S := [b]) (((Keep.refl [b] wr).alloc _).setCell (.inl (by simp)) _) ?_
          intro b' hb'
          simp [Value.ownBlock] at hb'
          subst hb'
          have := (HH.out.vb b rfl).2.1
          simpa using this.symm
        rw [hp] at hpc
        have HMZ := Lib.hid hmz
        clear hp hf ho hs hk htk HTK hcl e0 hmz HS2 hsm hzl hmi
        generalize gs[i] = cc at *
        go_wp2_with (at_builtin; refine wpList_append_in (.tmp 28) (.tmp 30) rfl rfl b gs.length cap m zs HOA.out HMZ.out rfl _ cc rfl HL4.out ?_)
        go_roundw
        case rel => exact ⟨i + 1, m + 1, _, rfl, by go_num, by omega, HF2, HST, HSA, HKA⟩
        case measure => simp [intOf]; omega
      | false =>
        have HF2 := Lib.hid (hf.out.drop hlt hp)
        have HSA := Lib.hid (slot_free hs.out gs[i] hsm.2)
        rw [← cleF_drop hp, ← htk] at HSA
        have hl : gs[i] < (slots (cleF s.rows (gs.take i))).length := by rw [slots_len]; exact hsm.2
        have x0 := hs.out.cell ESg gs[i] 0 hl (by decide)
        have x1 := hs.out.cell ESg gs[i] 1 hl (by decide)
        have x2 := hs.out.cell ESg gs[i] 2 hl (by decide)
        rw [slots_get] at x0 x1 x2
        have y0 : wr.cell? ⟨sb, gs[i] * 3, none⟩ = some (.int .i16 (cleF s.rows (gs.take i) gs[i]).par) := x0
        have y1 : wr.cell? ⟨sb, gs[i] * 3 + 1, none⟩ = some (.int .u8 (cleF s.rows (gs.take i) gs[i]).byt.toNat) := x1
        have y2 : wr.cell? ⟨sb, gs[i] * 3 + 2, none⟩ = some (.bool (cleF s.rows (gs.take i) gs[i]).on) := x2
        have f0 := hs.out.free (gs[i] * 3)
        have f1 := hs.out.free (gs[i] * 3 + 1)
        have f2 := hs.out.free (gs[i] * 3 + 2)
        have hsbb : sb ∈ sb :: (Value.slice (some ⟨b, 0, none⟩) gs.length cap).ownBlock.toList := by simp
        have HKA := Lib.hid ((((hk.out.setCell (p := ⟨sb, gs[i] * 3, none⟩) (.inl hsbb) (.int .i16 0)).setCell (p := ⟨sb, gs[i] * 3 + 1, none⟩) (.inl hsbb) (.int .u8 0)).setCell (p := ⟨sb, gs[i] * 3 + 2, none⟩) (.inl hsbb) (.bool false)))
        have HOA : Hid (OwnG EI (((wr.setCell ⟨sb, gs[i] * 3, none⟩ (.int .i16 0)).setCell ⟨sb, gs[i] * 3 + 1, none⟩ (.int .u8 0)).setCell ⟨sb, gs[i] * 3 + 2, none⟩ (.bool false)) (.slice (some ⟨b, 0, none⟩) gs.length cap) zs) := by
          refine ho.out.keep (S := [sb]) ((((Keep.refl [sb] wr).setCell (.inl (by simp)) _).setCell (.inl (by simp)) _).setCell (.inl (by simp)) _) ?_
          intro b' hb'
          have := (HH.out.vb b' hb').2.1
          simpa using this
        rw [hp] at hpc
        have hcs := hsm.2
        clear hp hf ho hs hk htk HTK hcl hsm hzl hmi x0 x1 x2 hl hsbb
        generalize cleF s.rows (gs.take i) gs[i] = old at *
        generalize gs[i] = cc at *
        go_wp2_with fail
        go_roundw
        case rel => exact ⟨i + 1, m, zs, rfl, by go_num, by omega, HF2, HOA, HSA, HKA⟩
        case measure => simp [intOf]; omega
    · have hlt2 : ¬ (i : Int) < gs.length := by omega
      have hie : gs.take i = gs := List.take_of_length_le (by omega)
      rw [hie] at hs
      have hzm : zs.take m = gs.filter (isPar s.rows) := by have := hf.out.2.1; rw [hie] at this; exact this
      have hml : m ≤ zs.length := by have h1 := hf.out.1; have h2 := hf.out.2.2.2; omega
      have hzl := hf.out.1
      have HOK : Hid (OwnG EI wr (.slice a m cap) (gs.filter (isPar s.rows))) := by
        have := ho.out
        rw [← hzl] at this
        have := this.pre EIg m hml
        rw [hzm] at this
        exact this
      rw [cleF_all HH.out.ok HH.out.per] at hs
      obtain ⟨L, hL, _⟩ := HT2.out.lea
      have HBX := Lib.hid (HT2.out.box.keep hk.out (fun hp => (HVB.out _ hp).2.1 rfl))
      have HLX := Lib.hid (hL.keep hk.out (fun hp => (HVB.out _ hp).2.2.1 rfl))
      have c1 := HBX.out.cell 1 _ rfl
      have c2 := HBX.out.cell 2 _ rfl
      have f1 := HBX.out.free 1
      have hqg := HH.out.qg
      have HB6 := Lib.hid (HBX.out.set 1 (.slice a m cap))
      have K6 : Hid (Keep [q] wr (wr.setCell ⟨q, 1, none⟩ (.slice a m cap))) := (Keep.refl _ _).setCell (.inl (by simp)) _
      have HL6 := Lib.hid (HLX.out.keep K6.out (by simpa using hqg.symm))
      clear hL HLX hie hf ho hzm hml hzl hlt
      obtain ⟨w7, hrun, hl7, hk7⟩ := HL6.out.wipe 0
      have HB7 := Lib.hid (HB6.out.keep hk7 (by simpa using hqg))
      have f7 := HB7.out.free 3
      have c7 := HB7.out.cell 3 _ rfl
      have HL7 := Lib.hid hl7
      have HK7 := Lib.hid hk7
      clear hl7 hk7
      go_wp2_with fail
      clear hrun
      have HB8 := Lib.hid (HB7.out.set 3 (.int .i64 0))
      have K8 : Hid (Keep [q] w7 (w7.setCell ⟨q, 3, none⟩ (.int .i64 0))) := (Keep.refl _ _).setCell (.inl (by simp)) _
      have K68 : Hid (Keep [q, g] wr (w7.setCell ⟨q, 3, none⟩ (.int .i64 0))) := ((K6.out.mono (S' := [q, g]) (by simp)).trans HK7.out (fun x hx => .inl (by simp at hx; simp [hx]))).trans K8.out (fun x hx => .inl (by simp at hx; simp [hx]))
      have hqs := HH.out.qs
      have hsg := HH.out.sg
      have HS8 : Hid (OwnG ES (w7.setCell ⟨q, 3, none⟩ (.int .i64 0)) (.slice (some ⟨sb, 0, none⟩) 8192 8192) (slots (sloF s.clear.rows))) := hs.out.keep K68.out (by intro b hb; simp [Value.ownBlock] at hb; subst hb; simpa using ⟨hqs.symm, hsg⟩)
      have hfr := lfree_c (w7.setCell ⟨q, 3, none⟩ (.int .i64 0)) q sb s.clear.rows 256 (HB8.out.cell 0 _ rfl) (by omega) (fun j hj => by
        have := HS8.out.cell ESg j 2 (by rw [slots_len]; exact hj) (by decide)
        rw [slots_get] at this
        exact this)
      obtain ⟨nx, hnx⟩ : ∃ nx, s.clear.next = nx := ⟨_, rfl⟩
      have hnx2 : LT.next ⟨s.clear.rows, 256⟩ = nx := hnx
      rw [hnx2, show (((256 : Nat) : Int) + 1) = 257 from rfl] at hfr
      have HNX := Lib.hid hnx
      clear hnx hnx2 f1 c1 c2 f7 c7
      refine hfr.mono ?_; rintro e w9 ⟨rfl, rfl⟩
      have f8 := HB8.out.free 4
      have c8 := HB8.out.cell 4 _ rfl
      clear hfr
      go_wp2_with fail
      have HB9 := Lib.hid (HB8.out.set 4 (.int .i64 nx))
      have K9 : Hid (Keep [q] (w7.setCell ⟨q, 3, none⟩ (.int .i64 0)) ((w7.setCell ⟨q, 3, none⟩ (.int .i64 0)).setCell ⟨q, 4, none⟩ (.int .i64 nx))) := (Keep.refl _ _).setCell (.inl (by simp)) _
      go_end0
      have K69 : Hid (Keep [q, g] wr ((w7.setCell ⟨q, 3, none⟩ (.int .i64 0)).setCell ⟨q, 4, none⟩ (.int .i64 nx))) := K68.out.trans K9.out (fun x hx => .inl (by simp at hx; simp [hx]))
      have KALL : Keep (q :: sb :: g :: (Value.slice a gs.length cap).ownBlock.toList) w ((w7.setCell ⟨q, 3, none⟩ (.int .i64 0)).setCell ⟨q, 4, none⟩ (.int .i64 nx)) := by
        refine ((HKP.out.mono (S' := q :: sb :: g :: (Value.slice a gs.length cap).ownBlock.toList) (by simp)).trans hk.out (fun x hx => .inl ?_)).trans K69.out (fun x hx => .inl ?_)
        · rcases List.mem_cons.1 hx with rfl | hx
          · simp
          · exact List.mem_cons_of_mem _ (List.mem_cons_of_mem _ (List.mem_cons_of_mem _ hx))
        · simp at hx; rcases hx with rfl | rfl <;> simp
      have hvo : (Value.slice a m cap).ownBlock = (Value.slice a gs.length cap).ownBlock := by cases a <;> rfl
      refine ⟨rfl, .slice a m cap, ⟨?_, ?_, ?_, ⟨_, HL7.out.keep (K8.out.trans K9.out (S' := [q]) (fun x hx => .inl hx)) (by simpa using hqg.symm), by rw [List.take_zero]; exact Lst.nil _⟩, HH.out.per.clear, Nat.zero_le _, LT.clear_ok HH.out.ok, hqs, hqg, hsg, fun b hb => HH.out.vb b (by rw [← hvo]; exact hb)⟩, KALL, hvo⟩
      · rw [HNX.out]; exact HB9.out
      · exact HS8.out.keep K9.out (by intro b hb; simp [Value.ownBlock] at hb; subst hb; simpa using hqs.symm)
      · refine HOK.out.keep K69.out (fun b hb => ?_)
        have := HH.out.vb b (by rw [← hvo]; exact hb)
        simpa using ⟨this.1, this.2.2⟩
end Go.Proofs.Ytkefidbokeifdaa
namespace Go.Proofs.Ytkefidbokeifdaa
set_option linter.unusedVariables false
set_option linter.unusedSimpArgs false
open Go.ChangeShapes Go.WideShapes Go.ChangeAt Go.RowKit

/-- m[k] = v of the map, for the walk -/
theorem wpList_linkPut {w : World} {ops : Array Oper} {rest : List Oper} {o : Oper} {a : Act} {Q : Exit → Act → World → Prop} (hg : o.guard = none) (m x v : Operand) (hop : o.op = Op.mapUpdate 98 m x v)
    (g n : Nat) (L : Int → UInt8 → Option Nat) (hL : LinkM w g n L) (hn : n < maxLen) (p : Int) (c : UInt8) (hp : (Lit.int .i64 p).wf = true) (z : Nat) (hz : z < 9223372036854775808)
    (hm : a.eval m = .map (some g)) (hx : a.eval x = .agg #[.int .i64 p, .int .u8 c.toNat]) (hv : a.eval v = .int .i64 (z : Int))
    (h : ∀ w', LinkM w' g (n + 1) (fun p' c' => if p' = p ∧ c' = c then some z else L p' c') → Keep [g] w w' → wpList Try.prog ops Q rest (a.put o.dst undef) w') : wpList Try.prog ops Q (o :: rest) a w := by
  obtain ⟨w', hrun, h1, h2⟩ := hL.put hn p c hp z hz
  refine wpList_plain hg fun K hK => ?_
  unfold Oper.wp
  simp [execOp, hop, hm, hx, hv, hrun, Result.andThen]
  exact hK _ _ (h w' h1 h2)
theorem LinkM.mono {w : World} {g n n' : Nat} {L : Int → UInt8 → Option Nat} (h : LinkM w g n L) (hn : n ≤ n') : LinkM w g n' L := by
  obtain ⟨D, h1, h2⟩ := h; exact ⟨D, h1.mono hn, h2⟩
theorem LTb.learned {w wr : World} {q sb : Nat} {vg : Value} {g k : Nat} {gs : List Nat} {s : LT} {L : Int → UInt8 → Option Nat} (h : LTb w q sb vg g k gs s) (kp : Keep [g] w wr) (hL : LinkM wr g gs.length L) (hl : Lst s.rows gs L) :
    LTb (wr.setCell ⟨q, 3, none⟩ (.int .i64 gs.length)) q sb vg g gs.length gs s ∧ Keep [q, g] w (wr.setCell ⟨q, 3, none⟩ (.int .i64 gs.length)) := by
  have hqg := h.qg
  have hqs := h.qs
  have hsg := h.sg
  have K2 : Keep [q] wr (wr.setCell ⟨q, 3, none⟩ (.int .i64 gs.length)) := (Keep.refl _ _).setCell (.inl (by simp)) _
  have KA : Keep [q, g] w (wr.setCell ⟨q, 3, none⟩ (.int .i64 gs.length)) := (kp.mono (S' := [q, g]) (by simp)).trans K2 (fun x hx => .inl (by simp at hx; simp [hx]))
  refine ⟨⟨?_, h.slo.keep KA (by intro b hb; simp [Value.ownBlock] at hb; subst hb; simpa using ⟨hqs.symm, hsg⟩), h.giv.keep KA (fun b hb => by have := h.vb b hb; simpa using ⟨this.1, this.2.2⟩), ⟨L, hL.keep K2 (by simpa using hqg.symm), by rw [List.take_length]; exact hl⟩, h.per, Nat.le_refl _, h.ok, hqs, hqg, hsg, h.vb⟩, KA⟩
  exact (h.box.keep kp (by simpa using hqg)).set 3 (.int .i64 gs.length)
set_option maxRecDepth 100000 in
set_option maxHeartbeats 4000000 in
theorem llearn_c (w : World) (q sb : Nat) (vg : Value) (g k : Nat) (gs : List Nat) (s : LT) (h : LTb w q sb vg g k gs s) : Calls Try.prog 80 #[.pointer (some ⟨q, 0, none⟩)] w fun e w' => e = .returned (.tuple #[]) ∧
    LTb w' q sb vg g gs.length gs s ∧ Keep [q, g] w w' := by
  have HH := Lib.hid h
  have c1 : w.cell? ⟨q, 1, none⟩ = some vg := h.box.cell 1 _ rfl
  have c3 : w.cell? ⟨q, 3, none⟩ = some (.int .i64 k) := h.box.cell 3 _ rfl
  obtain ⟨v2, hfr, hg2, hown⟩ := h.giv.gs.from EIg k (k : Int) rfl h.kle
  have HOWN := Lib.hid hown
  obtain ⟨a2, cap2, hv2, _⟩ := hg2.sh
  subst hv2
  have HG2 := Lib.hid hg2
  obtain ⟨n2, hl2⟩ : ∃ n2, (gs.drop k).length = n2 := ⟨_, rfl⟩
  have hfr' : ∀ W, (Instr.slice 33 vg (some (.int .i64 (k : Int))) none none).run Try.prog W = .ok (.slice a2 (gs.drop k).length cap2) W := hfr
  rw [hl2] at hfr' HG2 HOWN
  have HL2 : Hid (k + n2 = gs.length) := by rw [← hl2, List.length_drop]; have := HH.out.kle; show _ = _; omega
  clear hl2 hg2 hown h hfr
  go_enter Try.func80, Try.ntmps80
  go_wp2_with fail
  go_quiet (fail)
  have K0 : Hid (Keep [g] w (w.drewN nq)) := (Keep.refl [g] w).drewN nq
  have HB0 := Lib.hid (HH.out.box.drewN nq)
  have HM0 := Lib.hid (HH.out.drewN nq).lea
  generalize w.drewN nq = w1 at *
  clear c1 c3 hfr'
  go_wp2_with fail
  have hgq : g ∉ [g] → False := by simp
  go_loopw [17] (fun iv wr => ∃ j : Nat, iv = .int .i64 j ∧ j ≤ n2 ∧ Hid (∃ L, LinkM wr g (k + j) L ∧ Lst s.rows (gs.take (k + j)) L) ∧ Hid (Keep [g] w wr)) (fun iv _ => n2 - (intOf iv).toNat)
  case atStart => exact ⟨0, rfl, Nat.zero_le _, HM0, K0⟩
  case round =>
    obtain ⟨j, rfl, hj, hm, hk⟩ := hrel
    clear HM0 K0 HB0
    have hgs : ∀ b, (Value.slice a2 n2 cap2).ownBlock = some b → b ∉ [g] := fun b hb => by
      have := (HH.out.vb b (HOWN.out b hb)).2.2
      simpa using this
    by_cases hlt : j < n2
    · have hlt2 : (j : Int) < n2 := by omega
      obtain ⟨L, hL, hlst⟩ := hm.out
      have hkl : k + j < gs.length := by have := HL2.out; omega
      have hGr := HG2.out.keep EIg hk.out hgs
      have hjd : j < (gs.drop k).length := by rw [List.length_drop]; omega
      obtain ⟨b, off, cap', hv, hcl⟩ := hGr.at EIg j hjd
      simp only [Value.slice.injEq] at hv
      obtain ⟨rfl, x1, rfl⟩ := hv
      clear x1
      have hc0 := hcl 0 (by decide)
      rw [List.getElem_drop] at hc0
      have hc0' : wr.cell? ⟨b, off + j, none⟩ = some (.int .i64 (gs[k + j] : Nat)) := by simpa [EI] using hc0
      have hmem : gs[k + j] ∈ gs := List.getElem_mem hkl
      have hsm := HH.out.per.small HH.out.ok hmem
      obtain ⟨rr, hrr⟩ := (HH.out.per.mem HH.out.ok.srt _).1 hmem
      have hrd := HH.out.rd.keep hk.out (by simpa using HH.out.qg) (by simpa using HH.out.sg)
      have d0 := hrd.c0
      obtain ⟨s0, s1, s2⟩ := hrd.sl gs[k + j] hsm.2
      have hps := hrd.sm gs[k + j]
      have htk : gs.take (k + (j + 1)) = gs.take (k + j) ++ [gs[k + j]] := by rw [← Nat.add_assoc, List.take_add_one, List.getElem?_eq_getElem hkl]; rfl
      have HLK := Lib.hid (llink_c wr (sloF s.rows gs[k + j]).par (sloF s.rows gs[k + j]).byt (sloF s.rows gs[k + j]).on hps)
      have HPUT := Lib.hid (hlst.put gs[k + j])
      have HSKIP := Lib.hid (hlst.skip gs[k + j])
      rw [← htk] at HPUT HSKIP
      have HL := Lib.hid hL
      have hcn := hsm.2
      have hjb : j < 8000 := by have h1 := HH.out.per.len; have h2 := HH.out.ok.len; omega
      have HGL : Hid (gs.length ≤ 7935) := by have := HH.out.per.len; have := HH.out.ok.len; show _ ≤ _; omega
      clear hcl hc0 hmem hsm hrr hrd htk hL hlst hm hjd hGr hgs
      generalize (sloF s.rows gs[k + j]).par = pp at *
      generalize (sloF s.rows gs[k + j]).byt = yy at *
      generalize (sloF s.rows gs[k + j]).on = oo at *
      generalize gs[k + j] = cc at *
      have hcz : (cc : Int) < 8192 := by omega
      go_wp2_with fail
      refine HLK.out.mono ?_; rintro e w2 ⟨rfl, k2⟩
      clear HLK
      obtain ⟨w3, hw3⟩ : ∃ w3, w2.alloc (.cells #[.int .i64 pp, .int .u8 yy.toNat] 108) = w3 := ⟨_, rfl⟩
      obtain ⟨l, hl⟩ : ∃ l, w2.heap.size = l := ⟨_, rfl⟩
      have hB3 := Blk.new w2 #[.int .i64 pp, .int .u8 yy.toNat] 108
      have K3 : Keep [] wr w3 := by rw [← hw3]; exact k2.alloc _
      rw [hw3, hl] at hB3
      have HLW : Hid (w.heap.size ≤ l) := by have h1 := hk.out.size; have h2 := k2.size; show _ ≤ _; omega
      have HL3 := Lib.hid (HL.out.keep K3 (by simp))
      have HB3 := Lib.hid (HH.out.box.keep (hk.out.trans K3 (S' := []) (by simp)) (by simpa using HH.out.qg))
      have HK3 := Lib.hid (hk.out.trans K3 (S' := []) (by simp))
      have c2 := HB3.out.cell 2 _ rfl
      have p0 := hB3.cell 0 _ rfl
      have p1 := hB3.cell 1 _ rfl
      have HBL := Lib.hid hB3
      clear K3 hk k2 HL hc0' d0 s0 s1 s2 hB3
      have hpw : (Lit.int .i64 (pp : Int)).wf = true := by simp [Lit.wf, IntKind.min, IntKind.max, IntKind.bits, IntKind.signed]; omega
      have HPW := Lib.hid hpw
      have hlk := fun n => (HL3.out.keep ((Keep.refl [] w3).drewN n) (by simp)).look (pp : Int) yy HPW.out
      clear hpw
      cases hLv : L pp yy with
      | none =>
        have HP2 := Lib.hid (HPUT.out (.inl hLv))
        rw [hLv] at hlk
        simp only at hlk
        clear HPUT HSKIP hLv
        go_wp2_with fail
        go_quiet (fail)
        have HK4 : Hid (Keep [g] w (w3.drewN nq)) := HK3.out.drewN nq
        have HB4 := Lib.hid (HB3.out.drewN nq)
        have HL4 : Hid (LinkM (w3.drewN nq) g (k + j) L) := HL3.out.keep ((Keep.refl [] w3).drewN nq) (by simp)
        have HBL4 := Lib.hid (HBL.out.drewN nq)
        generalize w3.drewN nq = w4 at *
        clear HK3 HB3 HL3 HBL c2 p0 p1 hlk
        have c2 := HB4.out.cell 2 _ rfl
        have p0 := HBL4.out.cell 0 _ rfl
        have p1 := HBL4.out.cell 1 _ rfl
        go_wp2_with fail
        go_still_tail 6, (by kernel_rfl)
        change wpList _ _ _ _ _ w4.drew
        have HL5 : Hid (LinkM w4.drew g (k + j) L) := HL4.out.keep ((Keep.refl [] w4).drew) (by simp)
        have HK5 : Hid (Keep [g] w w4.drew) := HK4.out.drew
        generalize w4.drew = w5 at HL5 HK5 ⊢
        clear c2 p0 p1 HB4 HL4 HBL4 HK4
        have hkm : k + j < maxLen := by have := HGL.out; unfold maxLen; omega
        refine wpList_linkPut rfl _ _ _ rfl g (k + j) L HL5.out hkm (pp : Int) yy HPW.out cc (by omega) rfl rfl rfl ?_
        intro w6 hl6 hk6
        have HL6 := Lib.hid hl6
        have HK6 := Lib.hid hk6
        clear hl6 hk6 hkm
        go_wp2_with fail
        go_roundw
        case rel => exact ⟨j + 1, by go_num, by omega, ⟨_, HL6.out, HP2.out⟩, HK5.out.trans HK6.out (fun x hx => .inl hx)⟩
        case measure => simp [intOf]; omega
      | some m =>
        rw [hLv] at hlk
        simp only at hlk
        by_cases hcm : cc < m
        · have HP2 := Lib.hid (HPUT.out (.inr ⟨m, hLv, hcm⟩))
          have hcm2 : (cc : Int) < m := by omega
          clear HPUT HSKIP hLv
          go_wp2_with fail
          go_quiet (fail)
          have HK4 : Hid (Keep [g] w (w3.drewN nq)) := HK3.out.drewN nq
          have HB4 := Lib.hid (HB3.out.drewN nq)
          have HL4 : Hid (LinkM (w3.drewN nq) g (k + j) L) := HL3.out.keep ((Keep.refl [] w3).drewN nq) (by simp)
          have HBL4 := Lib.hid (HBL.out.drewN nq)
          generalize w3.drewN nq = w4 at *
          clear HK3 HB3 HL3 HBL c2 p0 p1 hlk
          have c2 := HB4.out.cell 2 _ rfl
          have p0 := HBL4.out.cell 0 _ rfl
          have p1 := HBL4.out.cell 1 _ rfl
          go_wp2_with fail
          go_still_tail 6, (by kernel_rfl)
          change wpList _ _ _ _ _ w4.drew
          have HL5 : Hid (LinkM w4.drew g (k + j) L) := HL4.out.keep ((Keep.refl [] w4).drew) (by simp)
          have HK5 : Hid (Keep [g] w w4.drew) := HK4.out.drew
          generalize w4.drew = w5 at HL5 HK5 ⊢
          clear c2 p0 p1 HB4 HL4 HBL4 HK4
          have hkm : k + j < maxLen := by have := HGL.out; unfold maxLen; omega
          refine wpList_linkPut rfl _ _ _ rfl g (k + j) L HL5.out hkm (pp : Int) yy HPW.out cc (by omega) rfl rfl rfl ?_
          intro w6 hl6 hk6
          have HL6 := Lib.hid hl6
          have HK6 := Lib.hid hk6
          clear hl6 hk6 hkm
          go_wp2_with fail
          go_roundw
          case rel => exact ⟨j + 1, by go_num, by omega, ⟨_, HL6.out, HP2.out⟩, HK5.out.trans HK6.out (fun x hx => .inl hx)⟩
          case measure => simp [intOf]; omega
        · have HP2 := Lib.hid (HSKIP.out m hLv (by omega))
          have hcm2 : ¬ (cc : Int) < m := by omega
          clear HPUT HSKIP hLv
          go_wp2_with fail
          go_quiet (fail)
          have HK4 : Hid (Keep [g] w (w3.drewN nq)) := HK3.out.drewN nq
          have HB4 := Lib.hid (HB3.out.drewN nq)
          have HL4 : Hid (LinkM (w3.drewN nq) g (k + j) L) := HL3.out.keep ((Keep.refl [] w3).drewN nq) (by simp)
          have HBL4 := Lib.hid (HBL.out.drewN nq)
          generalize w3.drewN nq = w4 at *
          clear HK3 HB3 HL3 HBL c2 p0 p1 hlk
          go_wp2_with fail
          go_roundw
          case rel => exact ⟨j + 1, by go_num, by omega, ⟨L, HL4.out.mono (Nat.le_succ _), HP2.out⟩, HK4.out⟩
          case measure => simp [intOf]; omega
    · have hlt2 : ¬ (j : Int) < n2 := by omega
      have hje : j = n2 := by omega
      subst hje
      obtain ⟨L, hL, hlst⟩ := hm.out
      rw [HL2.out] at hL hlst
      rw [List.take_length] at hlst
      obtain ⟨r1, r2⟩ := HH.out.learned hk.out hL hlst
      have HR1 := Lib.hid r1
      have HR2 := Lib.hid r2
      have hbx := HH.out.box.keep hk.out (by simpa using HH.out.qg)
      have c1 := hbx.cell 1 _ rfl
      have c3 := hbx.cell 3 _ rfl
      have f3 := hbx.free 3
      obtain ⟨a, cap, hvg, _, _⟩ := HH.out.giv.gs.sh
      subst hvg
      clear hL hlst r1 r2 hbx hlt hm
      go_wp2_with fail
      go_end0
      exact ⟨rfl, HR1.out, HR2.out⟩
set_option maxRecDepth 100000 in
set_option maxHeartbeats 2000000 in
theorem lchild_c (w : World) (q sb : Nat) (vg : Value) (g k : Nat) (gs : List Nat) (s : LT) (p : Int) (c : UInt8) (hp : (Lit.int .i64 p).wf = true) (h : LTb w q sb vg g k gs s) : Calls Try.prog 73 #[.pointer (some ⟨q, 0, none⟩), .int .i64 p, .int .u8 c.toNat] w fun e w' => e = .returned (.int .i64 (s.child p c)) ∧
    LTb w' q sb vg g gs.length gs s ∧ Keep [q, g] w w' := by
  have HM := Lib.hid (lmade_c w q sb (h.box.cell 0 _ rfl))
  have HLE := Lib.hid (llearn_c w q sb vg g k gs s h)
  have HP := Lib.hid hp
  clear h hp
  go_enter Try.func73, Try.ntmps73
  go_wp2_with fail
  refine HM.out.mono ?_; rintro e w' ⟨rfl, rfl⟩
  clear HM
  go_wp2_with fail
  refine HLE.out.mono ?_; rintro e w2 ⟨rfl, h2, k2⟩
  clear HLE
  obtain ⟨L, hL, hlst⟩ := h2.lea
  rw [List.take_length] at hlst
  have HC := Lib.hid (hlst.child h2.ok h2.per p c)
  have hlk := hL.look p c HP.out
  have c2 := h2.box.cell 2 _ rfl
  have H2 := Lib.hid h2
  have K2 := Lib.hid k2
  clear hL hlst h2 k2
  cases hLv : L p c with
  | none =>
    rw [hLv] at hlk
    simp only at hlk
    have HR : Hid (s.child p c = -1) := by have := HC.out; rw [hLv] at this; exact this
    clear HC hLv
    go_wp2_with fail
    go_ret
    exact ⟨by rw [HR.out]; rfl, H2.out, K2.out⟩
  | some m =>
    rw [hLv] at hlk
    simp only at hlk
    have HR : Hid (s.child p c = m) := by have := HC.out; rw [hLv] at this; exact this
    clear HC hLv
    go_wp2_with fail
    go_ret
    exact ⟨by rw [HR.out]; rfl, H2.out, K2.out⟩
end Go.Proofs.Ytkefidbokeifdaa
namespace Go.Proofs.Ytkefidbokeifdaa
set_option linter.unusedVariables false
set_option linter.unusedSimpArgs false
open Go.ChangeShapes Go.WideShapes Go.ChangeAt Go.RowKit

/-- block q is the program's table s, bs its blocks -/
def LTab (w : World) (q : Nat) (bs : List Nat) (s : LT) : Prop := ∃ (sb : Nat) (vg : Value) (g k : Nat) (gs : List Nat), LTb w q sb vg g k gs s ∧ bs = q :: sb :: g :: vg.ownBlock.toList
theorem LTab.keep {w w' : World} {q : Nat} {bs S : List Nat} {s : LT} (h : LTab w q bs s) (k : Keep S w w') (hs : ∀ b ∈ bs, b ∉ S) : LTab w' q bs s := by
  obtain ⟨sb, vg, g, kk, gs, h, rfl⟩ := h
  exact ⟨sb, vg, g, kk, gs, h.keep k (hs q (by simp)) (hs sb (by simp)) (hs g (by simp)) (fun b hb => hs b (by simp [hb])), rfl⟩
theorem LTab.lt {w : World} {q : Nat} {bs : List Nat} {s : LT} (h : LTab w q bs s) : q ∈ bs ∧ ∀ b ∈ bs, b < w.heap.size := by
  obtain ⟨sb, vg, g, kk, gs, h, rfl⟩ := h
  refine ⟨by simp, fun b hb => ?_⟩
  obtain ⟨L, hL, _⟩ := h.lea
  rcases List.mem_cons.1 hb with rfl | hb
  · exact h.box.lt
  rcases List.mem_cons.1 hb with rfl | hb
  · exact h.slo.lt _ rfl
  rcases List.mem_cons.1 hb with rfl | hb
  · exact hL.lt
  · exact h.giv.lt b (by simpa using hb)
theorem LTab.ok {w : World} {q : Nat} {bs : List Nat} {s : LT} (h : LTab w q bs s) : s.ok := by
  obtain ⟨sb, vg, g, kk, gs, h, rfl⟩ := h; exact h.ok
theorem lz_new (w : World) : Calls Try.prog 33 #[] w fun e w' => ∃ q bs, e = .returned (.pointer (some ⟨q, 0, none⟩)) ∧ LTab w' q bs LT.new ∧ Keep [] w w' ∧ ∀ b ∈ bs, w.heap.size ≤ b := by
  refine (lnew_c w).mono ?_
  rintro e w' ⟨q, sb, g, rfl, h, k, h1, h2, h3⟩
  refine ⟨q, _, rfl, ⟨sb, _, g, 0, [], h, rfl⟩, k, fun b hb => ?_⟩
  simp [Value.ownBlock] at hb
  rcases hb with rfl | rfl | rfl <;> assumption
theorem lz_add (w : World) (q : Nat) (bs : List Nat) (s : LT) (p : Int) (c : UInt8) (hp : (Lit.int .i64 p).wf = true) (h : LTab w q bs s) : Calls Try.prog 65 #[.pointer (some ⟨q, 0, none⟩), .int .i64 p, .int .u8 c.toNat] w fun e w' => e = .returned (.int .i64 (s.add p c).1) ∧ ∃ bs', LTab w' q bs' (s.add p c).2 ∧ Keep bs w w' ∧ ∀ b ∈ bs', b ∈ bs ∨ w.heap.size ≤ b := by
  obtain ⟨sb, vg, g, k, gs, h, rfl⟩ := h
  by_cases hn : s.next < 0 ∨ ¬ parOk p
  · refine (ladd_no w q sb vg g k gs s p c h hn).mono ?_
    rintro e w' ⟨rfl, rfl⟩
    have e : s.add p c = (-1, s) := by unfold LT.add; rw [if_pos hn]
    rw [e]
    exact ⟨rfl, _, ⟨sb, vg, g, k, gs, h, rfl⟩, Keep.refl _ _, fun b hb => .inl hb⟩
  · have hpo : parOk p := by
      by_cases hp : parOk p
      · exact hp
      · exact absurd (.inr hp) hn
    have hnn : ¬ s.next < 0 := fun h => hn (.inl h)
    obtain ⟨n, hnx⟩ : ∃ n : Nat, s.next = n := ⟨s.next.toNat, by omega⟩
    obtain ⟨e, hf, h1, h2⟩ := LT.add_yes h.ok p c n hnx hpo
    have hok := LT.add_ok h.ok p c
    obtain ⟨p, rfl⟩ : ∃ p' : Nat, p = p' := ⟨p.toNat, by unfold parOk at hpo; omega⟩
    rw [e] at hok ⊢
    rw [Int.toNat_natCast] at hok ⊢
    refine (ladd_yes w q sb vg g k gs s p c n h hnx hpo hf h1 h2 hok).mono ?_
    rintro e w' ⟨rfl, vg', ht, hk, hb⟩
    refine ⟨rfl, _, ⟨sb, vg', g, k, _, ht, rfl⟩, hk, fun b hb' => ?_⟩
    rcases List.mem_cons.1 hb' with rfl | hb'
    · exact .inl (by simp)
    rcases List.mem_cons.1 hb' with rfl | hb'
    · exact .inl (by simp)
    rcases List.mem_cons.1 hb' with rfl | hb'
    · exact .inl (by simp)
    rcases hb b (by simpa using hb') with h3 | h3
    · exact .inl (by simp [h3])
    · exact .inr h3
theorem lz_clear (w : World) (q : Nat) (bs : List Nat) (s : LT) (h : LTab w q bs s) : Calls Try.prog 53 #[.pointer (some ⟨q, 0, none⟩)] w fun e w' => e = .returned (.tuple #[]) ∧ ∃ bs', LTab w' q bs' s.clear ∧ Keep bs w w' ∧ ∀ b ∈ bs', b ∈ bs ∨ w.heap.size ≤ b := by
  obtain ⟨sb, vg, g, k, gs, h, rfl⟩ := h
  refine (lclear_c w q sb vg g k gs s h).mono ?_
  rintro e w' ⟨rfl, vg', ht, hk, hb⟩
  exact ⟨rfl, _, ⟨sb, vg', g, 0, _, ht, rfl⟩, hk, fun b hb' => .inl (by rw [hb] at hb'; exact hb')⟩
theorem lz_next (w : World) (q : Nat) (bs : List Nat) (s : LT) (h : LTab w q bs s) : Calls Try.prog 47 #[.pointer (some ⟨q, 0, none⟩)] w fun e w' => e = .returned (.int .i64 s.next) ∧ Keep [] w w' := by
  obtain ⟨sb, vg, g, k, gs, h, rfl⟩ := h
  refine (lnext_c w q sb vg g k gs s h).mono ?_
  rintro e w' ⟨rfl, rfl⟩
  exact ⟨rfl, Keep.refl _ _⟩
theorem lz_child (w : World) (q : Nat) (bs : List Nat) (s : LT) (p : Int) (c : UInt8) (hp : (Lit.int .i64 p).wf = true) (h : LTab w q bs s) : Calls Try.prog 73 #[.pointer (some ⟨q, 0, none⟩), .int .i64 p, .int .u8 c.toNat] w fun e w' => e = .returned (.int .i64 (s.child p c)) ∧ LTab w' q bs s ∧ Keep bs w w' := by
  obtain ⟨sb, vg, g, k, gs, h, rfl⟩ := h
  refine (lchild_c w q sb vg g k gs s p c hp h).mono ?_
  rintro e w' ⟨rfl, ht, hk⟩
  exact ⟨rfl, ⟨sb, vg, g, _, gs, ht, rfl⟩, hk.mono fun x hx => by simp at hx; rcases hx with rfl | rfl <;> simp⟩
theorem lz_textO (w : World) (q : Nat) (bs : List Nat) (s : LT) (c : Int) (hc : (Lit.int .i64 c).wf = true) (h : LTab w q bs s) : Calls Try.prog 71 #[.pointer (some ⟨q, 0, none⟩), .int .i64 c] w fun e w' => ∃ v', e = .returned (.tuple #[v', .bool (s.text c).isSome]) ∧ OwnB w' v' ((s.text c).getD []) ∧ Keep [] w w' ∧ ∀ b, v'.ownBlock = some b → w.heap.size ≤ b := by
  obtain ⟨sb, vg, g, k, gs, h, rfl⟩ := h
  exact ltext_c w q sb s c h.rd h.ok h.ok.len h.box.lt (h.slo.lt sb rfl)
theorem lz_text (w : World) (q : Nat) (bs : List Nat) (s : LT) (c : Int) (hc : (Lit.int .i64 c).wf = true) (h : LTab w q bs s) : Calls Try.prog 71 #[.pointer (some ⟨q, 0, none⟩), .int .i64 c] w fun e w' => ∃ v', e = .returned (.tuple #[v', .bool (s.text c).isSome]) ∧ Bs w' v' ((s.text c).getD []) ∧ Keep [] w w' ∧ ∀ b, v'.ownBlock = some b → w.heap.size ≤ b :=
  (lz_textO w q bs s c hc h).mono fun e w' ⟨v', h1, h2, h3⟩ => ⟨v', h1, h2.bs, h3⟩
end Go.Proofs.Ytkefidbokeifdaa
