/- The landed table of layer 10: size, Text, Link. -/
import Derived.Test.YtpjebbhjagllgaaLz1
import Derived.Test.YtpjebbhjagllgaaMake
import Derived.Test.YtpjebbhjagllgaaOpen
import Derived.Test.YtpjebbhjagllgaaArr
import Derived.Laws.ResultCell
namespace Go.Proofs.Ytpjebbhjagllgaa
set_option linter.unusedVariables false
set_option linter.unusedSimpArgs false
open Go.ChangeShapes Go.WideShapes Go.ChangeAt Go.RowKit

/-- what a reader of slots needs -/
structure SRd (w : World) (q sb : Nat) (rows : List Lk) : Prop where
  c0 : w.cell? ⟨q, 0, none⟩ = some (.slice (some ⟨sb, 0, none⟩) 8192 8192)
  sl : ∀ c, c < 8192 → w.cell? ⟨sb, c * 3, none⟩ = some (.int .i16 (sloF rows c).par) ∧ w.cell? ⟨sb, c * 3 + 1, none⟩ = some (.int .u8 (sloF rows c).byt.toNat) ∧ w.cell? ⟨sb, c * 3 + 2, none⟩ = some (.bool (sloF rows c).on)
  sm : ∀ c, (sloF rows c).par < 8192
theorem LTb.rd {w : World} {q sb : Nat} {vg : Value} {g k : Nat} {gs : List Nat} {s : LT} (h : LTb w q sb vg g k gs s) : SRd w q sb s.rows := ⟨h.box.cell 0 _ rfl, h.slot, sloF_small h.ok⟩
theorem SRd.keep {w w' : World} {q sb : Nat} {rows : List Lk} {S : List Nat} (h : SRd w q sb rows) (k : Keep S w w') (h1 : q ∉ S) (h2 : sb ∉ S) : SRd w' q sb rows :=
  ⟨k.cell h.c0 h1, fun c hc => ⟨k.cell (h.sl c hc).1 h2, k.cell (h.sl c hc).2.1 h2, k.cell (h.sl c hc).2.2 h2⟩, h.sm⟩
set_option maxRecDepth 100000 in
set_option maxHeartbeats 2000000 in
theorem lsize_c (w : World) (q sb : Nat) (rows : List Lk) (c : Int) (h : SRd w q sb rows) : Calls Try.prog 33 #[.pointer (some ⟨q, 0, none⟩), .int .i64 c] w fun e w' => e = .returned (.int .i64 (if 0 ≤ c ∧ c < 8192 then onF rows 7936 c 0 else 0 : Nat)) ∧ w = w' := by
  have c0 := h.c0
  have HM := Lib.hid (lmade_c w q sb c0)
  have HI := Lib.hid (iscode_c w c)
  by_cases hc : 0 ≤ c ∧ c < 8192
  · obtain ⟨c, rfl⟩ : ∃ c' : Nat, c = c' := ⟨c.toNat, by omega⟩
    have hcs : c < 8192 := by omega
    rw [decide_eq_true hc] at HI
    rw [if_pos hc]
    clear hc
    obtain ⟨R, hR⟩ : ∃ R, onF rows 7936 c 0 = R := ⟨_, rfl⟩
    have HR := Lib.hid hR
    rw [hR]
    clear hR
    have HSL := Lib.hid h.sl
    have HSM := Lib.hid h.sm
    have HB := Lib.hid (onF_byte rows)
    have HNo := Lib.hid (onF_none rows)
    have HNx := Lib.hid (onF_next rows)
    clear h
    go_enter Try.func33, Try.ntmps33
    go_wp2_with fail
    refine HM.out.mono ?_; rintro e w' ⟨rfl, rfl⟩
    clear HM
    go_wp2_with fail
    refine HI.out.mono ?_; rintro e w' ⟨rfl, rfl⟩
    clear HI
    go_wp2_with fail
    go_loopw [1, 5] (fun cv nv wr => ∃ (cc n f : Nat), cv = .int .i64 cc ∧ cc < 8192 ∧ nv = .int .i64 ((n : Int) + 1) ∧ n ≤ 7936 ∧ Hid (n + f = 7936) ∧ Hid (onF rows f cc n = R) ∧ wr = w) (fun cv nv _ => 7937 - (intOf nv).toNat)
    case atStart => exact ⟨c, 0, 7936, rfl, hcs, by simp, by omega, rfl, HR, rfl⟩
    case round =>
      obtain ⟨cc, n, f, rfl, hcc, rfl, hn, hnf, hr, rfl⟩ := hrel
      clear HR
      by_cases hlt : n < 7936
      · have h2 : (n : Int) + 1 ≤ 7936 := by omega
        obtain ⟨f', rfl⟩ : ∃ f', f = f' + 1 := ⟨f - 1, by have := hnf.out; omega⟩
        by_cases hb : cc < 256
        · have h3 : (cc : Int) < 256 := by omega
          have HE : Hid ((n : Int) + 1 = R) := by have := hr.out; rw [HB.out f' cc n hb] at this; show _ = _; omega
          clear hr hb hnf
          go_wp2_with fail
          go_ret
          exact ⟨by rw [← HE.out]; rfl, rfl⟩
        · have h3 : ¬ (cc : Int) < 256 := by omega
          obtain ⟨s0, s1, s2⟩ := HSL.out cc hcc
          cases hon : (sloF rows cc).on with
          | false =>
            rw [hon] at s2
            have HE : Hid (R = 0) := by have := hr.out; rw [HNo.out f' cc n hb hon] at this; exact this.symm
            clear hr hb hnf hon s0 s1
            go_wp2_with fail
            go_ret
            exact ⟨by rw [HE.out]; rfl, rfl⟩
          | true =>
            rw [hon] at s2
            have HE : Hid (onF rows f' (sloF rows cc).par (n + 1) = R) := by have := hr.out; rw [HNx.out f' cc n hb hon] at this; exact this
            have hps := HSM.out cc
            have HF : Hid (n + 1 + f' = 7936) := by have := hnf.out; show _ = _; omega
            clear hr hb hnf hon s1
            generalize (sloF rows cc).par = pp at *
            have hw : IntKind.i64.wrap (pp : Int) = pp := by rw [IntKind.wrap_i64]; omega
            go_wp2_with fail
            go_roundw
            case rel => exact ⟨pp, n + 1, f', rfl, hps, by go_num, by omega, HF, HE, trivial⟩
            case measure => simp [intOf]; omega
      · have h2 : ¬ (n : Int) + 1 ≤ 7936 := by omega
        have HE : Hid (R = 0) := by
          have := hr.out
          have h0 : f = 0 := by have := hnf.out; omega
          subst h0
          exact this.symm
        clear hr hnf hlt
        go_wp2_with fail
        go_ret
        exact ⟨by rw [HE.out]; rfl, rfl⟩
  · rw [decide_eq_false hc] at HI
    rw [if_neg hc]
    clear h hc
    go_enter Try.func33, Try.ntmps33
    go_wp2_with fail
    refine HM.out.mono ?_; rintro e w' ⟨rfl, rfl⟩
    clear HM
    go_wp2_with fail
    refine HI.out.mono ?_; rintro e w' ⟨rfl, rfl⟩
    clear HI
    go_wp2_with fail
    go_ret
    exact ⟨rfl, rfl⟩
theorem OwnB.cellAt {w : World} {g n cap : Nat} {l : List UInt8} (h : OwnB w (.slice (some ⟨g, 0, none⟩) n cap) l) (j : Nat) (hj : j < l.length) : ∃ old, w.cell? ⟨g, j, none⟩ = some old := by
  rcases h.cases with ⟨h, _⟩ | ⟨b, cp, hv, h1, h2, h3, _⟩
  · cases h
  · simp only [Value.slice.injEq, Option.some.injEq, Addr.mk.injEq] at hv
    obtain ⟨⟨hb, _⟩, _⟩ := hv
    subst hb
    exact ⟨_, h3 j hj⟩
/-- the last bytes of a row are t's -/
def Tail (n : Nat) (t xs : List UInt8) (a : Nat) : Prop := xs.length = n ∧ ∀ j, a < j → j < n → xs.getD j 0 = t.getD j 0
theorem Tail.set {n : Nat} {t xs : List UInt8} {a : Nat} (h : Tail n t xs (a + 1)) (ha : a + 1 < n) : Tail n t (xs.set (a + 1) (t.getD (a + 1) 0)) a := by
  refine ⟨by rw [List.length_set]; exact h.1, fun j h1 h2 => ?_⟩
  rw [List.getD_eq_getElem?_getD, List.getElem?_set]
  by_cases e : a + 1 = j
  · subst e; rw [if_pos rfl, if_pos (by rw [h.1]; exact ha)]; rfl
  · rw [if_neg e]; have := h.2 j (by omega) h2; rwa [List.getD_eq_getElem?_getD] at this
theorem Tail.all {t xs : List UInt8} (h : Tail t.length t xs 0) (ht : 0 < t.length) : xs.set 0 (t.getD 0 0) = t := by
  apply List.ext_getElem
  · rw [List.length_set]; exact h.1
  · intro i h1 h2
    rw [List.getElem_set]
    by_cases e : 0 = i
    · subst e; rw [if_pos rfl, List.getD_eq_getElem?_getD, List.getElem?_eq_getElem h2]; rfl
    · rw [if_neg e]
      have := h.2 i (by omega) h2
      rw [List.getD_eq_getElem?_getD, List.getD_eq_getElem?_getD, List.getElem?_eq_getElem h2, List.getElem?_eq_getElem (by rw [h.1]; exact h2)] at this
      exact this
set_option maxRecDepth 100000 in
set_option maxHeartbeats 4000000 in
theorem ltext_c (w : World) (q sb : Nat) (s : LT) (c : Int) (h : SRd w q sb s.rows) (ho : s.ok) (hl : s.rows.length ≤ 7935) (hq : q < w.heap.size) (hsb : sb < w.heap.size) : Calls Try.prog 18 #[.pointer (some ⟨q, 0, none⟩), .int .i64 c] w fun e w' =>
    ∃ v', e = .returned (.tuple #[v', .bool (s.text c).isSome]) ∧ Bs w' v' ((s.text c).getD []) ∧ Keep [] w w' ∧ ∀ b, v'.ownBlock = some b → w.heap.size ≤ b := by
  have HZ := Lib.hid (lsize_c w q sb s.rows c h)
  cases ht : s.text c with
  | none =>
    have hz : (if 0 ≤ c ∧ c < 8192 then onF s.rows 7936 c 0 else 0 : Nat) = 0 := by
      split
      · rw [onF_text ho hl, ht]; rfl
      · rfl
    rw [hz] at HZ
    clear hz ht h ho hl
    go_enter Try.func18, Try.ntmps18
    go_wp2_with fail
    refine HZ.out.mono ?_; rintro e w' ⟨rfl, rfl⟩
    clear HZ
    go_wp2_with fail
    go_ret2
    exact ⟨_, rfl, Bs.nil _, Keep.refl _ _, fun b hb => by simp [Value.ownBlock] at hb⟩
  | some t =>
    have hcc : 0 ≤ c ∧ c < 8192 := by
      have h1 := ht
      unfold LT.text at h1
      rw [txF_lk] at h1
      by_cases hb : 0 ≤ c ∧ c < 256
      · omega
      · rw [if_neg hb] at h1
        cases hlk : lk s.rows c with
        | none => rw [hlk] at h1; cases h1
        | some r => obtain ⟨h2, h3⟩ := (lk_iff _ ho.srt c r).1 hlk; have := ho.all r h2; omega
    have hz : (if 0 ≤ c ∧ c < 8192 then onF s.rows 7936 c 0 else 0 : Nat) = t.length := by
      rw [if_pos hcc, onF_text ho hl, ht]; rfl
    rw [hz] at HZ
    obtain ⟨c, rfl⟩ : ∃ c' : Nat, c = c' := ⟨c.toNat, by omega⟩
    have hcs : c < 8192 := by omega
    have htl : 0 < t.length := by have := txF_pos (show txF s.rows _ (c : Int) [] = some t from ht); simp at this; omega
    have htm : t.length ≤ 7936 := by have := txF_len _ _ _ _ _ (show txF s.rows (s.rows.length + 1) (c : Int) [] = some t from ht); simp at this; omega
    have HB0 : Hid (Bgn s.rows t c (t.length - 1)) := ⟨s.rows.length + 1, by
      rw [show t.length - 1 + 1 = t.length by omega, List.take_length]; exact ht⟩
    have HSL := Lib.hid (fun w' (k : Keep [] w w') => h.keep k (by simp) (by simp))
    have HMK := Lib.hid (run_make_bytes w t.length t.length (Nat.le_refl _) (by omega))
    have HOM := Lib.hid (OwnB.madeN w t.length (by unfold maxLen; omega))
    have HSM := Lib.hid h.sm
    clear hz ht h hcc
    generalize s.rows = rows at *
    clear ho hl
    simp only [Option.isSome_some, Option.getD_some]
    go_enter Try.func18, Try.ntmps18
    go_wp2_with fail
    refine HZ.out.mono ?_; rintro e w' ⟨rfl, rfl⟩
    clear HZ
    have hmk := HMK.out
    have hne : ((t.length : Int) == 0) = false := by simp; intro e; simp [e] at htl
    have hw1 : IntKind.i64.wrap ((t.length : Int) - 1) = ((t.length - 1 : Nat) : Int) := by rw [IntKind.wrap_i64]; omega
    go_wp2_with fail
    clear hmk hne HMK
    have HK0 : Hid (Keep [] w (w.alloc (.cells (madeCells #[.int .u8 0] t.length) 5))) := (Keep.refl [] w).alloc _
    obtain ⟨r, hr⟩ : ∃ r, w.heap.size = r := ⟨_, rfl⟩
    have HQ := Lib.hid hr
    have HO0 := HOM
    rw [hr] at HO0 ⊢
    clear HOM hr
    generalize w.alloc (.cells (madeCells #[.int .u8 0] t.length) 5) = w0 at HO0 HK0 ⊢
    go_loopw [1, 8] (fun cv av wr => ∃ (cc a : Nat) (xs : List UInt8), cv = .int .i64 cc ∧ cc < 8192 ∧ av = .int .i64 a ∧ a < t.length ∧ Hid (Bgn rows t cc a) ∧ Hid (Tail t.length t xs a) ∧ Hid (OwnB wr (.slice (some ⟨r, 0, none⟩) t.length t.length) xs) ∧ Hid (Keep [] w wr)) (fun cv av _ => (intOf av).toNat)
    case atStart => exact ⟨c, t.length - 1, List.replicate t.length 0, rfl, hcs, rfl, by omega, HB0, ⟨by simp, fun j h1 h2 => by omega⟩, HO0, HK0⟩
    case round =>
      obtain ⟨cc, a, xs, rfl, hcc, rfl, ha, hb, htl2, ho, hk⟩ := hrel
      clear HB0 HO0 HK0 hw1
      have hxl : xs.length = t.length := htl2.out.1
      by_cases hpos : 0 < a
      · obtain ⟨a, rfl⟩ : ∃ a', a = a' + 1 := ⟨a - 1, by omega⟩
        obtain ⟨b1, b2, b3⟩ := hb.out.step ha
        obtain ⟨sc0, sl, _⟩ := HSL.out wr hk.out
        obtain ⟨s0, s1, s2⟩ := sl cc hcc
        have hps := HSM.out cc
        rw [b1] at s1
        have HT2 := Lib.hid (htl2.out.set ha)
        have hfr := ho.out.free (a + 1)
        have HO2 := Lib.hid (ho.out.store (a + 1) (by rw [hxl]; exact ha) (t.getD (a + 1) 0))
        obtain ⟨old, hcl⟩ := ho.out.cellAt (a + 1) (by rw [hxl]; exact ha)
        have HKS : Hid (Keep [] w (wr.setCell ⟨r, a + 1, none⟩ (.int .u8 (t.getD (a + 1) 0).toNat))) := hk.out.setCell (.inr (by have := HQ.out; simp; omega)) _
        have HB2 := Lib.hid b2
        have HP : Hid (0 < a + 1) := hpos
        have hz1 : (a : Int) + 1 < (t.length : Int) := by omega
        have hz2 : 0 < (a : Int) + 1 := by omega
        have SC : SRd (wr.setCell ⟨r, a + 1, none⟩ (.int .u8 (t.getD (a + 1) 0).toNat)) q sb rows := HSL.out _ HKS.out
        have q0 := SC.c0
        obtain ⟨q1, q2, q3⟩ := SC.sl cc hcc
        clear sl b1 b2 b3 hb htl2 ho s0 s2 hk SC q2 q3 hpos
        generalize (sloF rows cc).par = pp at *
        have hw : IntKind.i64.wrap (pp : Int) = pp := by rw [IntKind.wrap_i64]; omega
        generalize t.getD (a + 1) 0 = ty at *
        go_wp2_with fail
        go_roundw
        case rel => exact ⟨pp, a, _, rfl, hps, by go_num, by omega, HB2, HT2, HO2, HKS⟩
        case measure => simp [intOf]
      · obtain rfl : a = 0 := by omega
        obtain ⟨b1, b2⟩ := hb.out.first htl
        have hall := htl2.out.all htl
        have hfr := ho.out.free 0
        have HO2 := Lib.hid (ho.out.store 0 (by rw [hxl]; exact htl) (t.getD 0 0))
        rw [hall] at HO2
        rw [b2] at HO2
        have hcn : (UInt8.ofNat cc).toNat = cc := by simp; omega
        rw [hcn] at HO2
        obtain ⟨old, hcl⟩ := ho.out.cellAt 0 (by rw [hxl]; exact htl)
        have HKS : Hid (Keep [] w (wr.setCell ⟨r, 0, none⟩ (.int .u8 (cc : Int)))) := hk.out.setCell (.inr (by have := HQ.out; simp; omega)) _
        have hw : IntKind.u8.wrap (cc : Int) = cc := by rw [IntKind.wrap_u8']; omega
        have hz1 : (0 : Int) < (t.length : Int) := by omega
        clear b2 hall hb htl2 ho hk hcn
        go_wp2_with fail
        go_ret2
        exact ⟨_, rfl, HO2.out.bs, HKS.out, fun b hb => by have := HQ.out; simp [Value.ownBlock] at hb; omega⟩
/-- a struct that lies in a cell of its own, and one more result -/
theorem results_cellS {P : Program} {fn : Func} {p u : Tmp} {ty : TypeId} (h : fn.results = #[.cell p ty, .tmp u]) (tmps : Array Value) {w : World} {g : Nat} {c : Array Value} {t : TypeId} (hp : tmps.getD p undef = .pointer (some ⟨g, 0, none⟩)) (hb : Blk w g c t)
    (d : TypeDesc) (hu : P.underlying ty = some d) (hd : d.isRow = true) (hi : (P.info? ty).map (·.size) = some c.size) : (results fn tmps).run P w = .ok (.tuple #[.agg c, tmps.getD u undef]) w := by
  have hl := run_loadVar_mid (P := P) w g 0 ty c.toList d (fun j v hv => by rw [Nat.zero_add]; exact hb.cell j v (by simpa using hv)) hu hd (by simpa using hi)
  rw [results_cell_tmp h, hp]
  simp [asAddr, Result.andThen, hl]
set_option maxRecDepth 100000 in
set_option maxHeartbeats 4000000 in
theorem lzlink_no (w : World) (q sb : Nat) (rows : List Lk) (c : Int) (h : SRd w q sb rows) (hc : 0 ≤ c ∧ c < 8192 → (sloF rows c.toNat).on = false) : Calls Try.prog 21 #[.pointer (some ⟨q, 0, none⟩), .int .i64 c] w fun e w' => e = .returned (.tuple #[.agg #[.int .i64 0, .int .u8 0], .bool false]) ∧ Keep [] w w' := by
  have hX := Blk.new w #[.int .i64 0, .int .u8 0] 44
  have KX : Keep [] w (w.alloc (.cells #[.int .i64 0, .int .u8 0] 44)) := (Keep.refl [] w).alloc _
  have h1 := h.keep KX (by simp) (by simp)
  have HM := Lib.hid (lmade_c _ q sb h1.c0)
  have HI := Lib.hid (iscode_c (w.alloc (.cells #[.int .i64 0, .int .u8 0] 44)) c)
  have p0 := hX.cell 0 _ rfl
  have p1 := hX.cell 1 _ rfl
  have g0 := hX.free 0
  have g1 := hX.free 1
  have HXX := Lib.hid hX
  have HKX := Lib.hid KX
  by_cases hcc : 0 ≤ c ∧ c < 8192
  · have hon := hc hcc
    obtain ⟨c, rfl⟩ : ∃ c' : Nat, c = c' := ⟨c.toNat, by omega⟩
    have hcs : c < 8192 := by omega
    have c0 := h1.c0
    obtain ⟨_, _, s2⟩ := h1.sl c hcs
    rw [Int.toNat_natCast] at hon
    rw [hon] at s2
    rw [decide_eq_true hcc] at HI
    clear hcc hon hc h h1 hX KX
    go_enter Try.func21, Try.ntmps21
    go_wp2_with fail
    refine HM.out.mono ?_; rintro e w' ⟨rfl, rfl⟩
    clear HM
    go_wp2_with fail
    refine HI.out.mono ?_; rintro e w' ⟨rfl, rfl⟩
    clear HI
    go_wp2_with fail
    refine bodyPost_ret (results_cellS rfl _ rfl HXX.out _ Try.underlying44 rfl (by kernel_rfl)) rfl ?_
    exact ⟨rfl, HKX.out⟩
  · rw [decide_eq_false hcc] at HI
    clear hcc hc h h1 hX KX
    go_enter Try.func21, Try.ntmps21
    go_wp2_with fail
    refine HM.out.mono ?_; rintro e w' ⟨rfl, rfl⟩
    clear HM
    go_wp2_with fail
    refine HI.out.mono ?_; rintro e w' ⟨rfl, rfl⟩
    clear HI
    go_wp2_with fail
    refine bodyPost_ret (results_cellS rfl _ rfl HXX.out _ Try.underlying44 rfl (by kernel_rfl)) rfl ?_
    exact ⟨rfl, HKX.out⟩
set_option maxRecDepth 100000 in
set_option maxHeartbeats 4000000 in
theorem lzlink_yes (w : World) (q sb : Nat) (rows : List Lk) (c : Nat) (h : SRd w q sb rows) (hcs : c < 8192) (hon : (sloF rows c).on = true) : Calls Try.prog 21 #[.pointer (some ⟨q, 0, none⟩), .int .i64 c] w fun e w' => e = .returned (.tuple #[.agg #[.int .i64 (sloF rows c).par, .int .u8 (sloF rows c).byt.toNat], .bool true]) ∧ Keep [] w w' := by
  have hX := Blk.new w #[.int .i64 0, .int .u8 0] 44
  have KX : Keep [] w (w.alloc (.cells #[.int .i64 0, .int .u8 0] 44)) := (Keep.refl [] w).alloc _
  have h1 := h.keep KX (by simp) (by simp)
  have HM := Lib.hid (lmade_c _ q sb h1.c0)
  have HI := Lib.hid (iscode_c (w.alloc (.cells #[.int .i64 0, .int .u8 0] 44)) c)
  have HXX := Lib.hid hX
  have HKX := Lib.hid KX
  have hcc : 0 ≤ (c : Int) ∧ (c : Int) < 8192 := by omega
  have c0 := h1.c0
  obtain ⟨s0, s1, s2⟩ := h1.sl c hcs
  rw [hon] at s2
  rw [decide_eq_true hcc] at HI
  have HLK := Lib.hid (llink_c (w.alloc (.cells #[.int .i64 0, .int .u8 0] 44)) (sloF rows c).par (sloF rows c).byt true (h.sm c))
  clear hcc hon h h1 hX KX
  generalize (sloF rows c).par = pp at *
  generalize (sloF rows c).byt = yy at *
  go_enter Try.func21, Try.ntmps21
  go_wp2_with fail
  refine HM.out.mono ?_; rintro e w' ⟨rfl, rfl⟩
  clear HM
  go_wp2_with fail
  refine HI.out.mono ?_; rintro e w' ⟨rfl, rfl⟩
  clear HI
  go_wp2_with fail
  refine HLK.out.mono ?_; rintro e w' ⟨rfl, k2⟩
  have hb2 := HXX.out.keep k2 (by simp)
  have g0 := hb2.free 0
  have g1 := hb2.free 1
  have p0 := hb2.cell 0 _ rfl
  have p1 := hb2.cell 1 _ rfl
  have HB3 := Lib.hid ((hb2.set 0 (.int .i64 pp)).set 1 (.int .u8 yy.toNat))
  have HK3 := Lib.hid (((HKX.out.trans k2 (by simp)).setCell (p := ⟨w.heap.size, 0, none⟩) (.inr (Nat.le_refl _)) (.int .i64 pp)).setCell (p := ⟨w.heap.size, 1, none⟩) (.inr (Nat.le_refl _)) (.int .u8 yy.toNat))
  clear HLK k2 hb2 c0 s0 s1 s2
  go_wp2_with fail
  refine bodyPost_ret (results_cellS rfl _ rfl HB3.out _ Try.underlying44 rfl (by kernel_rfl)) rfl ?_
  exact ⟨rfl, HK3.out⟩
end Go.Proofs.Ytpjebbhjagllgaa
