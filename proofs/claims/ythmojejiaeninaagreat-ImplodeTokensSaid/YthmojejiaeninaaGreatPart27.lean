/- Texts put together: Imp1 Imp4 Imp5 Imp2 Imp3 Imp6 Imp -/
import Derived.Test.YthmojejiaeninaaGreatPart12
import Derived.Test.YthmojejiaeninaaGreatPart22
import Derived.Test.YthmojejiaeninaaGreatPart26
import Derived.Test.YthmojejiaeninaaGreatPart15
import Derived.Test.YthmojejiaeninaaGreatPart8
import Derived.Lib.MinMax
import Derived.Test.YthmojejiaeninaaGreatPart5
import Derived.Test.YthmojejiaeninaaGreatPart7
import Derived.Test.YthmojejiaeninaaGreatPart13
import Derived.Test.YthmojejiaeninaaGreatPart28
import Derived.Test.YthmojejiaeninaaGreatPart1
namespace Go.Proofs.YthmojejiaeninaaGreat
set_option linter.unusedVariables false
set_option linter.unusedSimpArgs false
set_option maxRecDepth 100000
open Go.ChangeShapes Go.WideShapes Go.ChangeAt Go.RowKit

set_option maxHeartbeats 1000000 in
theorem ishape_c (w : World) (large trees : Bool) : Calls Tryz.prog 19 #[.bool large, .bool trees] w fun e w' => e = .returned (sh16 large trees).val ∧ Keep [] w w' := by
  have HP := Lib.hid (fun w => exp_params w large trees)
  have hl := least16 trees
  have hv : (sh16 large trees).val = .agg #[.int .i64 (win15 large), .int .i64 (least15 trees), .int .i64 (least15 trees + 318 : Nat), .int .i64 64, .bool true] := rfl
  rw [hv]
  clear hv
  generalize win15 large = a at *
  generalize low15 large = b at *
  generalize least15 trees = c at *
  have hs : IntKind.i64.wrap ((c : Int) + 318) = ((c + 318 : Nat) : Int) := by rw [IntKind.wrap_i64]; omega
  have hB := Blk.new w #[.int .i64 0, .int .i64 0, .int .i64 0, .int .i64 0, .bool false] 46
  have K0 := (Keep.refl [] w).alloc (.cells #[.int .i64 0, .int .i64 0, .int .i64 0, .int .i64 0, .bool false] 46)
  obtain ⟨q, hq⟩ : ∃ q, w.heap.size = q := ⟨_, rfl⟩
  have HQ := Lib.hid hq
  rw [hq] at hB
  have hHP := Lib.hid (HP.out (w.alloc (.cells #[.int .i64 0, .int .i64 0, .int .i64 0, .int .i64 0, .bool false] 46)))
  have HB := Lib.hid hB
  have HK := Lib.hid K0
  clear hq HP hB K0
  go_enter Tryz.func19, Tryz.ntmps19
  go_wp2_with fail
  rw [HQ.out]
  refine hHP.out.mono ?_; rintro e w1 ⟨rfl, k1⟩
  have hB := HB.out.keep k1 (by simp)
  have K0 := HK.out.trans k1 (by simp)
  have r0 := hB.cell 0 _ rfl
  have r1 := hB.cell 1 _ rfl
  have r2 := hB.cell 2 _ rfl
  have r3 := hB.cell 3 _ rfl
  have r4 := hB.cell 4 _ rfl
  have f0 := hB.free 0
  have f1 := hB.free 1
  have f2 := hB.free 2
  have f3 := hB.free 3
  have f4 := hB.free 4
  have HF := Lib.hid (((((hB.set 0 (.int .i64 a)).set 1 (.int .i64 c)).set 2 (.int .i64 (c + 318 : Nat))).set 3 (.int .i64 64)).set 4 (.bool true))
  have hq2 := HQ.out
  have HK2 := Lib.hid (((((K0.setCell (p := ⟨q, 0, none⟩) (.inr (by simp; omega)) (.int .i64 a)).setCell (p := ⟨q, 1, none⟩) (.inr (by simp; omega)) (.int .i64 c)).setCell (p := ⟨q, 2, none⟩) (.inr (by simp; omega)) (.int .i64 (c + 318 : Nat))).setCell (p := ⟨q, 3, none⟩) (.inr (by simp; omega)) (.int .i64 64)).setCell (p := ⟨q, 4, none⟩) (.inr (by simp; omega)) (.bool true))
  clear hB K0 hHP hq2 k1 HB HK
  go_wp2_with fail
  refine bodyPost_ret (results_cellA rfl _ rfl HF.out _ Tryz.underlying46 rfl (by kernel_rfl)) rfl ?_
  exact ⟨rfl, HK2.out⟩
theorem imp_tokens (w : World) (v : Value) (b : List UInt8) (large trees : Bool) (hb : Bs w v b) (hl : b.length ≤ 100000) : Calls Tryz.prog 9 #[v, .bool large, .bool trees] w fun e w' => ∃ v', e = .returned v' ∧ Ts w' v' (found b (sh16 large trees)) ∧ Keep [] w w' := by
  have HS := Lib.hid (ishape_c w large trees)
  have HF := Lib.hid (fun w (h : Bs w v b) => fin_find w v b (sh16 large trees) (sh16_ok large trees) h hl)
  have HB := Lib.hid hb
  generalize (sh16 large trees).val = V at *
  generalize found b (sh16 large trees) = ts at *
  obtain ⟨a, c, rfl, _⟩ := hb.shape
  clear hb
  go_enter Tryz.func9, Tryz.ntmps9
  go_wp2_with fail
  refine HS.out.mono ?_; rintro e w1 ⟨rfl, k1⟩
  go_wp2_with fail
  refine (HF.out w1 (HB.out.keep k1 (by simp))).mono ?_; rintro e w2 ⟨v2, rfl, ht, k2⟩
  obtain ⟨a2, c2, rfl, _⟩ := ht.sh
  go_wp2_with fail
  go_ret
  exact ⟨_, rfl, ht, k1.trans k2 (by simp)⟩
theorem measureof_c (w : World) (large trees : Bool) : Calls Tryz.prog 23 #[.bool large, .bool trees] w fun e w' => e = .returned (.agg #[.int .i64 (low15 large), .int .i64 (least15 trees)]) ∧ Keep [] w w' := by
  have HP := Lib.hid (fun w => exp_params w large trees)
  generalize win15 large = a at *
  generalize low15 large = b at *
  generalize least15 trees = c at *
  have hB := Blk.new w #[.int .i64 0, .int .i64 0] 53
  have K0 := (Keep.refl [] w).alloc (.cells #[.int .i64 0, .int .i64 0] 53)
  obtain ⟨q, hq⟩ : ∃ q, w.heap.size = q := ⟨_, rfl⟩
  have HQ := Lib.hid hq
  rw [hq] at hB
  have hHP := Lib.hid (HP.out (w.alloc (.cells #[.int .i64 0, .int .i64 0] 53)))
  have HB := Lib.hid hB
  have HK := Lib.hid K0
  clear hq HP hB K0
  go_enter Tryz.func23, Tryz.ntmps23
  go_wp2_with fail
  rw [HQ.out]
  refine hHP.out.mono ?_; rintro e w1 ⟨rfl, k1⟩
  have hB := HB.out.keep k1 (by simp)
  have K0 := HK.out.trans k1 (by simp)
  have r0 := hB.cell 0 _ rfl
  have r1 := hB.cell 1 _ rfl
  have f0 := hB.free 0
  have f1 := hB.free 1
  have HF := Lib.hid ((hB.set 0 (.int .i64 b)).set 1 (.int .i64 c))
  have hq2 := HQ.out
  have HK2 := Lib.hid ((K0.setCell (p := ⟨q, 0, none⟩) (.inr (by simp; omega)) (.int .i64 b)).setCell (p := ⟨q, 1, none⟩) (.inr (by simp; omega)) (.int .i64 c))
  clear hB K0 hHP hq2 k1 HB HK
  go_wp2_with fail
  refine bodyPost_ret (results_cellA rfl _ rfl HF.out _ Tryz.underlying53 rfl (by kernel_rfl)) rfl ?_
  exact ⟨rfl, HK2.out⟩
/-- Or of three that are none -/
theorem or3_c (w : World) (q : Nat) (hb : Blk w q #[.int .i64 0, .int .i64 0, .int .i64 0] 33) : Calls Tryz.prog 31 #[.slice (some ⟨q, 0, none⟩) 3 3] w fun e w' => e = .returned (.int .i64 0) ∧ Keep [] w w' := by
  have HC : Hid (∀ (w' : World) (k : Keep [] w w') (i : Nat), i < 3 → w'.cell? ⟨q, i, none⟩ = some (.int .i64 0)) := fun w' k i hi => by
    have h := hb.keep k (by simp)
    have : i = 0 ∨ i = 1 ∨ i = 2 := by omega
    rcases this with rfl | rfl | rfl
    · exact h.cell 0 _ rfl
    · exact h.cell 1 _ rfl
    · exact h.cell 2 _ rfl
  clear hb
  go_enter Tryz.func31, Tryz.ntmps31
  go_wp2_with fail
  go_loopw [8] (fun i wr => ∃ k : Nat, k ≤ 3 ∧ i = .int .i64 k ∧ Keep [] w wr) (fun i _ => 3 - (intOf i).toNat)
  case atStart => exact ⟨0, by omega, rfl, Keep.refl _ _⟩
  case round =>
    obtain ⟨k, hk, rfl, K⟩ := hrel
    by_cases hlt : k < 3
    · have c0 := HC.out wr K k hlt
      have z1 : (k : Int) < 3 := by omega
      clear HC
      go_wp2_with fail
      go_roundw
      case rel => exact ⟨k + 1, by omega, by go_num, by first | exact K | exact K.drew | exact K.drewN _⟩
      case measure => simp [intOf]; omega
    · obtain rfl : k = 3 := by omega
      clear HC
      go_wp2_with fail
      go_ret
      exact ⟨rfl, K⟩
/-- the symbol of a copy's length -/
theorem mlength_c (w : World) (low least : Nat) (t : Tk) (hl : (least : Int) ≤ t.len) (hm : t.len ≤ 1000) (hls : least ≤ 3) : Calls Tryz.prog 62 #[.agg #[.int .i64 low, .int .i64 least], .agg #[.int .u8 t.lit.toNat, .int .i64 t.dist, .int .i64 t.len]] w fun e w' => e = .returned (.int .i64 (lenS least t)) ∧ Keep [] w w' := by
  have hs : IntKind.i64.wrap (t.len - least) = ((t.len - least).toNat : Int) := by rw [IntKind.wrap_i64]; omega
  have hm2 : min (((t.len - least).toNat : Nat) : Int) 63 = ((lenS least t : Nat) : Int) := by unfold lenS; omega
  have HK : Hid (Keep [] w ((w.alloc (.cells #[.int .i64 low, .int .i64 least] 53)).alloc (.cells #[.int .u8 t.lit.toNat, .int .i64 t.dist, .int .i64 t.len] 42))) := ((Keep.refl [] w).alloc _).alloc _
  generalize lenS least t = z at *
  generalize t.lit.toNat = c at *
  generalize t.dist = d at *
  generalize (t.len - least).toNat = y at *
  generalize t.len = n at *
  clear hl hm hls
  go_enter Tryz.func62, Tryz.ntmps62
  go_wp2_with fail
  go_ret
  exact ⟨rfl, HK.out⟩
/-- the symbol of a copy's distance -/
theorem mdistance_c (w : World) (low least : Nat) (t : Tk) (hl : 1 ≤ t.dist) (hm : t.dist ≤ 100000) (hlow : low ≤ 7) : Calls Tryz.prog 61 #[.agg #[.int .i64 low, .int .i64 least], .agg #[.int .u8 t.lit.toNat, .int .i64 t.dist, .int .i64 t.len]] w fun e w' => e = .returned (.int .i64 (farS low t)) ∧ Keep [] w w' := by
  have hs : IntKind.i64.wrap (t.dist - 1) = ((t.dist - 1).toNat : Int) := by rw [IntKind.wrap_i64]; omega
  have hm2 : (((t.dist - 1).toNat : Nat) : Int) / 2 ^ low = ((farS low t : Nat) : Int) := by unfold farS; simp
  have hll : decide ((low : Int) < 0) = false := by simp
  have HK : Hid (Keep [] w ((w.alloc (.cells #[.int .i64 low, .int .i64 least] 53)).alloc (.cells #[.int .u8 t.lit.toNat, .int .i64 t.dist, .int .i64 t.len] 42))) := ((Keep.refl [] w).alloc _).alloc _
  generalize farS low t = z at *
  generalize t.lit.toNat = c at *
  generalize t.len = n at *
  generalize (t.dist - 1).toNat = y at *
  generalize t.dist = d at *
  clear hl hm
  go_enter Tryz.func61, Tryz.ntmps61
  go_wp2_with fail
  go_ret
  exact ⟨rfl, HK.out⟩
/-- numbers of symbols that did not come -/
theorem none_c (w : World) (n : Nat) (h1 : 1 ≤ n) (hn : n ≤ 256) : Calls Tryz.prog 65 #[.int .i64 n] w fun e w' => ∃ g, e = .returned (.slice (some ⟨g, 0, none⟩) n n) ∧ Blk w' g (fillL n n 1).toArray 3 ∧ Keep [] w w' ∧ w.heap.size ≤ g := by
  have HR := Lib.hid (repeat_c (w.alloc (.cells #[.int .i64 1] 3)) w.heap.size n 1 (Blk.new w _ _) h1 hn)
  have HK := Lib.hid ((Keep.refl [] w).alloc (.cells #[.int .i64 1] 3))
  have HZ : Hid ((w.alloc (.cells #[.int .i64 1] 3)).heap.size = w.heap.size + 1) := by unfold Hid; simp
  go_enter Tryz.func65, Tryz.ntmps65
  go_wp2_with fail
  refine HR.out.mono ?_; rintro e w1 ⟨g, rfl, hb, k1, hg⟩
  rw [HZ.out] at hg
  go_wp2_with fail
  go_ret
  exact ⟨g, rfl, hb, HK.out.trans k1 (by simp), by omega⟩
end Go.Proofs.YthmojejiaeninaaGreat
namespace Go.Proofs.YthmojejiaeninaaGreat
set_option linter.unusedVariables false
set_option linter.unusedSimpArgs false
set_option maxRecDepth 100000
open Go.ChangeShapes Go.WideShapes Go.ChangeAt Go.RowKit

/-- n words with their lengths -/
def Ob.wds (v : Value) (n : Nat) (wd ln : Nat → Nat) : Ob where
  P w bs := bs = v.ownBlock.toList ∧ Sts w v n 2 (fun i j => if j = 0 then .int .u32 (wd i) else .int .i64 (ln i)) ∧ ∀ b, v.ownBlock = some b → b < w.heap.size
  keep := fun ⟨h1, h2, h3⟩ k hb => ⟨h1, Sts.keep h2 k (fun b hb' => hb b (by rw [h1]; simp [hb'])), fun b hb' => by have := h3 b hb'; have := k.size; omega⟩
  lt := fun {w bs} ⟨h1, h2, h3⟩ b hb => by subst h1; exact h3 b (by simpa using hb)
theorem Ob.wds_cds (v : Value) (L : List Nat) : Ob.cds v L = Ob.wds v L.length (scode L) (len L) := rfl
theorem St.wds {W w : World} {Ps : List Ob} (h : St W w Ps) (i : Nat) {v : Value} {n : Nat} {wd ln : Nat → Nat} (hi : Ps[i]? = some (Ob.wds v n wd ln)) (k : Nat) (hk : k < n) : ∃ b off cap, v = .slice (some ⟨b, off, none⟩) n cap ∧ w.cell? ⟨b, off + k * 2, none⟩ = some (.int .u32 (wd k)) ∧ w.cell? ⟨b, off + k * 2 + 1, none⟩ = some (.int .i64 (ln k)) := by
  obtain ⟨bs, ⟨rfl, h1, _⟩, h2⟩ := h.get i hi
  rcases Sts.cases (by decide) h1 with ⟨h0, _⟩ | ⟨_, b, off, cap, rfl, _, _, _, hc⟩
  · omega
  · exact ⟨b, off, cap, rfl, hc k hk 0 (by omega), hc k hk 1 (by omega)⟩
theorem st_putbytes {W w : World} {Ps : List Ob} (h : St W w Ps) (i j : Nat) (hij : i ≠ j) {q : Nat} {bits : List Bool} {v2 : Value} {l2 : List UInt8} (hi : Ps[i]? = some (Ob.wr q bits)) (hj : Ps[j]? = some (Ob.bytes v2 l2)) (h8 : bits.length % 8 = 0) (hl : bits.length + 8 * l2.length ≤ 140737488353000) : Calls Tryz.prog 57 #[.pointer (some ⟨q, 0, none⟩), v2] w fun e w' => e = .returned (.tuple #[]) ∧ St W w' (Ps.set i (Ob.wr q (bits ++ b8 l2))) := by
  obtain ⟨bs, cs, ⟨v, rfl, h1⟩, ⟨rfl, h2⟩, hap, _, h3⟩ := h.apart i j hij hi hj
  refine (putbytes_c w q v bits v2 l2 h1 h2 (fun hne b hb => ?_) (by omega)).mono ?_
  · have hin : b ∈ (if l2 = [] then [] else v2.ownBlock.toList) := by rw [if_neg hne]; simp [hb]
    refine ⟨fun e => hap q (by simp) (by rw [← e]; exact hin), fun e => hap b (by simp [e]) hin⟩
  · rintro e w' ⟨v', he, hw, hk, hv⟩
    rw [pad8_same bits h8, toBits_b8] at hw
    refine ⟨he, h3 w' _ _ ⟨v', rfl, hw⟩ hk (fun b hb => ?_)⟩
    rcases List.mem_cons.1 hb with rfl | hb
    · exact .inl (by simp)
    · rcases hv b (by simpa using hb) with h | h
      · exact .inl (by simp [h])
      · exact .inr h
/-- what tokens are written by -/
def enCells (qw low least : Nat) (vb vl vd : Value) : Array Value := #[.pointer (some ⟨qw, 0, none⟩), .int .i64 low, .int .i64 least, vb, vl, vd]
theorem en_cells {w : World} {q qw low least : Nat} {vb vl vd : Value} (h : Blk w q (enCells qw low least vb vl vd) 58) : w.cell? ⟨q, 0, none⟩ = some (.pointer (some ⟨qw, 0, none⟩)) ∧ w.cell? ⟨q, 1, none⟩ = some (.int .i64 low) ∧
    w.cell? ⟨q, 2, none⟩ = some (.int .i64 least) ∧ w.cell? ⟨q, 3, none⟩ = some vb ∧ w.cell? ⟨q, 4, none⟩ = some vl ∧ w.cell? ⟨q, 5, none⟩ = some vd :=
  ⟨h.cell 0 _ rfl, h.cell 1 _ rfl, h.cell 2 _ rfl, h.cell 3 _ rfl, h.cell 4 _ rfl, h.cell 5 _ rfl⟩
/-- a word of the encoder's -/
theorem iword_c {W w : World} {Ps : List Ob} (h : St W w Ps) {q qw low least : Nat} {vb vl vd : Value} {bits : List Bool} (hi : Ps[0]? = some (Ob.box q (enCells qw low least vb vl vd) 58)) (hj : Ps[1]? = some (Ob.wr qw bits)) (x n : Nat) (hx : x < 4294967296) (hn : n ≤ 32) (hl : bits.length ≤ 1000000000000) :
    Calls Tryz.prog 60 #[.pointer (some ⟨q, 0, none⟩), .agg #[.int .u32 x, .int .i64 n]] w fun e w' => e = .returned (.tuple #[]) ∧ St W w' (Ps.set 1 (Ob.wr qw (bits ++ bitsOf x n))) := by
  have h1 := h.read ((Keep.refl [] w).alloc (.cells #[.int .u32 x, .int .i64 n] 82))
  have hb := Blk.new w #[.int .u32 x, .int .i64 n] 82
  obtain ⟨g, hg⟩ : ∃ g, w.heap.size = g := ⟨_, rfl⟩
  obtain ⟨w1, hw1⟩ : ∃ w1, w.alloc (.cells #[.int .u32 x, .int .i64 n] 82) = w1 := ⟨_, rfl⟩
  rw [hw1, hg] at hb
  rw [hw1] at h1
  have HP := Lib.hid (st_put (h1.read ((Keep.refl [] w1).drew)) 1 hj x n hx hn (by omega))
  obtain ⟨c0, -⟩ := en_cells (h1.blk 0 hi)
  have d0 := hb.cell 0 _ rfl
  have d1 := hb.cell 1 _ rfl
  clear h h1 hb hi hj hx hn hl
  go_enter Tryz.func60, Tryz.ntmps60
  go_wp2_with fail
  go_still_tail 8, (by kernel_rfl)
  change wpList _ _ _ _ _ w1.drew
  go_wp2_with fail
  refine HP.out.mono ?_; rintro e w2 ⟨rfl, h2⟩
  go_wp2_with fail
  go_end0
  exact ⟨rfl, h2⟩
/-- what tokens are written by, and all that it holds -/
def EnL (q qw low least : Nat) (vb vl vd : Value) (nb : Nat) (wb lb : Nat → Nat) (LL LF : List Nat) (bits : List Bool) (tl : List Ob) : List Ob :=
  Ob.box q (enCells qw low least vb vl vd) 58 :: Ob.wr qw bits :: Ob.wds vb nb wb lb :: Ob.cds vl LL :: Ob.cds vd LF :: tl
theorem at_last5 (a b c d e : Ob) (tl : List Ob) (P : Ob) : (a :: b :: c :: d :: e :: (tl ++ [P]))[tl.length + 5]? = some P := by
  rw [List.getElem?_cons_succ, List.getElem?_cons_succ, List.getElem?_cons_succ, List.getElem?_cons_succ, List.getElem?_cons_succ]
  simp
/-- a token's bits, bytes by any words -/
def tkW (wb lb : Nat → Nat) (low least : Nat) (LL LF : List Nat) (t : Tk) : List Bool :=
  if t.len = 0 then bitsOf 1 1 ++ bitsOf (wb t.lit.toNat) (lb t.lit.toNat)
  else (((bitsOf 0 1 ++ bitsOf (t.dist - 1).toNat low) ++ bitsOf (scode LF (farS low t)) (len LF (farS low t))) ++ bitsOf (scode LL (lenS least t)) (len LL (lenS least t)))
    ++ (if 63 ≤ (t.len - least).toNat then bitsOf ((t.len - least).toNat - 63) 8 else [])
theorem tkW_tkb (trees : Bool) (low least : Nat) (LB LL LF : List Nat) (wb lb : Nat → Nat) (h : ∀ i, i < 256 → bitsOf (wb i) (lb i) = if trees then bitsOf (scode LB i) (len LB i) else bitsOf i 8) : tkW wb lb low least LL LF = tkb15 trees low least LB LL LF := by
  funext t
  unfold tkW tkb15
  rw [h _ t.lit.toNat_lt]; rfl
set_option maxHeartbeats 8000000 in
theorem itoken_c {W w : World} (q qw low least : Nat) (vb vl vd : Value) (wb lb : Nat → Nat) (LL LF : List Nat) (bits : List Bool) (tl : List Ob) (h : St W w (EnL q qw low least vb vl vd 256 wb lb LL LF bits tl)) (t : Tk) (ht : tkOk15 low least t)
    (hlow : low ≤ 7) (hle : 2 ≤ least ∧ least ≤ 3) (hwb : ∀ i, i < 256 → wb i < 4294967296 ∧ lb i ≤ 16) (hL : LL.length = 64 ∧ ∀ i, len LL i ≤ 16) (hF : LF.length = 64 ∧ ∀ i, len LF i ≤ 16) (hl : bits.length ≤ 100000000000) :
    Calls Tryz.prog 26 #[.pointer (some ⟨q, 0, none⟩), .agg #[.int .u8 t.lit.toNat, .int .i64 t.dist, .int .i64 t.len]] w fun e w' => e = .returned (.tuple #[]) ∧ ∃ tl', St W w' (EnL q qw low least vb vl vd 256 wb lb LL LF (bits ++ tkW wb lb low least LL LF t) tl') := by
  have s1 := h.pushBox #[.int .u8 t.lit.toNat, .int .i64 t.dist, .int .i64 t.len] 42
  obtain ⟨g, hg⟩ : ∃ g, w.heap.size = g := ⟨_, rfl⟩
  obtain ⟨w1, hw1⟩ : ∃ w1, w.alloc (.cells #[.int .u8 t.lit.toNat, .int .i64 t.dist, .int .i64 t.len] 42) = w1 := ⟨_, rfl⟩
  rw [hw1, hg] at s1
  have s1 : St W w1 (EnL q qw low least vb vl vd 256 wb lb LL LF bits (tl ++ [Ob.box g #[.int .u8 t.lit.toNat, .int .i64 t.dist, .int .i64 t.len] 42])) := s1
  have bt := s1.blk (tl.length + 5) (at_last5 ..)
  have d2 := bt.cell 2 _ rfl
  obtain ⟨c0, -⟩ := en_cells (s1.blk 0 rfl)
  have HS1 := Lib.hid s1
  obtain ⟨R, hR⟩ : ∃ R, tkW wb lb low least LL LF t = R := ⟨_, rfl⟩
  rw [hR]
  have HR := Lib.hid hR
  clear s1 h bt hR
  by_cases h0 : t.len = 0
  · have hR := HR.out
    unfold tkW at hR
    rw [if_pos h0] at hR
    have HR := Lib.hid hR
    have H1 := Lib.hid (st_put HS1.out 1 rfl 1 1 (by decide) (by decide) (by omega))
    have hz : t.lit.toNat < 256 := t.lit.toNat_lt
    have hlen0 : (t.len == 0) = true := by simp [h0]
    clear hR HS1 h0
    go_enter Tryz.func26, Tryz.ntmps26
    go_wp2_with fail
    refine H1.out.mono ?_; rintro e w2 ⟨rfl, h2⟩
    have h2 : St W w2 (EnL q qw low least vb vl vd 256 wb lb LL LF (bits ++ bitsOf 1 1) (tl ++ [Ob.box g #[.int .u8 t.lit.toNat, .int .i64 t.dist, .int .i64 t.len] 42])) := h2
    have bt := h2.blk (tl.length + 5) (at_last5 ..)
    have d0 := bt.cell 0 _ rfl
    obtain ⟨-, -, -, c3, -⟩ := en_cells (h2.blk 0 rfl)
    generalize t.lit.toNat = z at *
    obtain ⟨b, off, cap, rfl, f0, f1⟩ := h2.wds 2 rfl z hz
    obtain ⟨hw, hlb⟩ := hwb z hz
    have hz2 : (z : Int) < 256 := by omega
    have H2 := Lib.hid (iword_c (h2.read ((Keep.refl [] w2).drew)) rfl rfl (wb z) (lb z) hw (by omega) (by rw [List.length_append, bitsOf_length]; omega))
    generalize wb z = x at *
    generalize lb z = y at *
    clear H1 h2 bt hw1 hw hlb hwb d2 c0
    go_wp2_with fail
    go_still_tail 9, (by kernel_rfl)
    change wpList _ _ _ _ _ w2.drew
    clear c3 d0 f0 f1
    go_wp2_with fail
    refine H2.out.mono ?_; rintro e w3 ⟨rfl, h3⟩
    go_wp2_with fail
    (try simp only [Exit.inBlock, Exit.then])
    refine bodyPost_ret (by exact results_none rfl _ _ _) rfl ?_
    have h4 : St W w3 (EnL q qw low least (.slice (some ⟨b, off, none⟩) 256 cap) vl vd 256 wb lb LL LF (bits ++ R) (tl ++ [Ob.box g #[.int .u8 z, .int .i64 t.dist, .int .i64 t.len] 42])) := by
      rw [← HR.out, ← List.append_assoc]
      exact h3
    exact ⟨rfl, _, h4⟩
  · have hR := HR.out
    unfold tkW at hR
    rw [if_neg h0] at hR
    obtain ⟨g4, g5, g6, g7⟩ : (least : Int) ≤ t.len ∧ t.len ≤ least + 318 ∧ 1 ≤ t.dist ∧ t.dist ≤ 64 * 2 ^ low := by
      rcases ht with ⟨a, _⟩ | b
      · exact absurd a h0
      · exact b
    have h2low : 2 ^ low ≤ 2 ^ 7 := Nat.pow_le_pow_right (by decide) hlow
    have h64 : ((64 * 2 ^ low : Nat) : Int) = 64 * 2 ^ low := by simp
    have hzl : lenS least t < 64 := by unfold lenS; omega
    have hzf : farS low t < 64 := by
      unfold farS
      refine (Nat.div_lt_iff_lt_mul (Nat.two_pow_pos low)).2 ?_
      omega
    have hzl63 : lenS least t = min (t.len - least).toNat 63 := rfl
    have HC1 := Lib.hid (fun ww => mlength_c ww low least t g4 (by omega) hle.2)
    have HC2 := Lib.hid (fun ww => mdistance_c ww low least t g6 (by omega) hlow)
    obtain ⟨d, hd⟩ : ∃ d : Nat, (t.dist - 1).toNat = d := ⟨_, rfl⟩
    obtain ⟨n, hn⟩ : ∃ n : Nat, (t.len - least).toNat = n := ⟨_, rfl⟩
    rw [hd, hn] at hR
    rw [hn] at hzl63
    have HR := Lib.hid hR
    have hws1 : IntKind.i64.wrap (t.dist - 1) = (d : Int) := by rw [IntKind.wrap_i64]; omega
    have hwu1 : IntKind.u32.wrap (d : Int) = (d : Int) := by rw [IntKind.wrap_u32]; omega
    have hws2 : IntKind.i64.wrap (t.len - least) = (n : Int) := by rw [IntKind.wrap_i64]; omega
    have hd8 : d ≤ 8191 := by omega
    have hn8 : n ≤ 318 := by omega
    have hlen0 : (t.len == 0) = false := by rw [beq_eq_false_iff_ne]; exact h0
    have H1 := Lib.hid (st_put HS1.out 1 rfl 0 1 (by decide) (by decide) (by omega))
    obtain ⟨fz, hfz⟩ : ∃ fz, farS low t = fz := ⟨_, rfl⟩
    obtain ⟨lz, hlz⟩ : ∃ lz, lenS least t = lz := ⟨_, rfl⟩
    rw [hfz] at HC2 hzf HR
    rw [hlz] at HC1 hzl HR hzl63
    have HZL := Lib.hid hzl63
    clear hR h0 g4 g5 g6 g7 h2low h64 hd hn hfz hlz ht hzl63
    go_enter Tryz.func26, Tryz.ntmps26
    go_wp2_with fail
    refine H1.out.mono ?_; rintro e w2 ⟨rfl, h2⟩
    have h2 : St W w2 (EnL q qw low least vb vl vd 256 wb lb LL LF (bits ++ bitsOf 0 1) (tl ++ [Ob.box g #[.int .u8 t.lit.toNat, .int .i64 t.dist, .int .i64 t.len] 42])) := h2
    have HS2 := Lib.hid h2
    have bt := h2.blk (tl.length + 5) (at_last5 ..)
    have d1 := bt.cell 1 _ rfl
    obtain ⟨e0, e1, -⟩ := en_cells (h2.blk 0 rfl)
    have H2 := Lib.hid (st_put (h2.read ((Keep.refl [] w2).drew)) 1 rfl d low (by omega) (by omega) (by rw [List.length_append, bitsOf_length]; omega))
    clear H1 h2 bt hw1 d2 c0
    go_wp2_with fail
    go_still_tail 13, (by kernel_rfl)
    change wpList _ _ _ _ _ w2.drew
    clear e0 e1 d1
    go_wp2_with fail
    refine H2.out.mono ?_; rintro e w3 ⟨rfl, h3⟩
    have h3 : St W w3 (EnL q qw low least vb vl vd 256 wb lb LL LF ((bits ++ bitsOf 0 1) ++ bitsOf d low) (tl ++ [Ob.box g #[.int .u8 t.lit.toNat, .int .i64 t.dist, .int .i64 t.len] 42])) := h3
    clear H2 HS2 hws1 hwu1
    have bt := h3.blk (tl.length + 5) (at_last5 ..)
    have be := h3.blk 0 rfl
    have d0 : ∀ p : Kept w3, p.x.cell? ⟨g, 0, none⟩ = some (.int .u8 t.lit.toNat) := fun p => p.h.cell (bt.cell 0 _ rfl) (by simp)
    have d1 : ∀ p : Kept w3, p.x.cell? ⟨g, 1, none⟩ = some (.int .i64 t.dist) := fun p => p.h.cell (bt.cell 1 _ rfl) (by simp)
    have d2 : ∀ p : Kept w3, p.x.cell? ⟨g, 2, none⟩ = some (.int .i64 t.len) := fun p => p.h.cell (bt.cell 2 _ rfl) (by simp)
    have e1 : ∀ p : Kept w3, p.x.cell? ⟨q, 1, none⟩ = some (.int .i64 low) := fun p => p.h.cell (be.cell 1 _ rfl) (by simp)
    have e2 : ∀ p : Kept w3, p.x.cell? ⟨q, 2, none⟩ = some (.int .i64 least) := fun p => p.h.cell (be.cell 2 _ rfl) (by simp)
    have e5 : ∀ p : Kept w3, p.x.cell? ⟨q, 5, none⟩ = some vd := fun p => p.h.cell (be.cell 5 _ rfl) (by simp)
    obtain ⟨b, off, cap, rfl, f0', f1'⟩ := h3.wds 4 rfl fz (by rw [hF.1]; exact hzf)
    rw [hF.1] at h3 e5
    have h3 : St W w3 (EnL q qw low least vb vl (.slice (some ⟨b, off, none⟩) 64 cap) 256 wb lb LL LF ((bits ++ bitsOf 0 1) ++ bitsOf d low) (tl ++ [Ob.box g #[.int .u8 t.lit.toNat, .int .i64 t.dist, .int .i64 t.len] 42])) := h3
    have HS3 := Lib.hid h3
    have hz5 : (fz : Int) < 64 := by omega
    have hsc := scode_lt LF fz
    have h16 := hF.2 fz
    have hpw : 2 ^ len LF fz ≤ 2 ^ 16 := Nat.pow_le_pow_right (by decide) h16
    have hsc2 : scode LF fz < 4294967296 := by omega
    obtain ⟨sF, hsF⟩ : ∃ sF, scode LF fz = sF := ⟨_, rfl⟩
    obtain ⟨nF, hnF⟩ : ∃ nF, len LF fz = nF := ⟨_, rfl⟩
    rw [hsF, hnF] at HR
    rw [hsF] at f0' hsc2
    rw [hnF] at f1' h16
    have f0 : ∀ p : Kept w3, p.x.cell? ⟨b, off + fz * 2, none⟩ = some (.int .u32 sF) := fun p => p.h.cell f0' (by simp)
    have f1 : ∀ p : Kept w3, p.x.cell? ⟨b, off + fz * 2 + 1, none⟩ = some (.int .i64 nF) := fun p => p.h.cell f1' (by simp)
    clear h3 bt be hsF hnF hsc hpw hzf f0' f1'
    go_wp2_with fail
    refine wp_region_kept_tail 13 (by kernel_rfl) (by kernel_rfl) ?_
    simp only [List.take_succ_cons, List.take_zero, List.drop_succ_cons, List.drop_zero]
    repeat (quiet_step (first | (go_at_call 61; with_reducible exact kept_of (HC2.out _))))
    refine wpQuiet_nil ?_
    rintro _ ⟨⟨w4, k4⟩, rfl⟩
    rename_i w4
    clear d0 d1 d2 e1 e2 e5 f0 f1
    have h4 := HS3.out.read k4
    have H5 := Lib.hid (iword_c h4 rfl rfl sF nF hsc2 (by omega) (by simp only [List.length_append, bitsOf_length]; omega))
    clear h4 HS3 k4 HC2
    go_wp2_with fail
    refine H5.out.mono ?_; rintro e w5 ⟨rfl, h5⟩
    have h5 : St W w5 (EnL q qw low least vb vl (.slice (some ⟨b, off, none⟩) 64 cap) 256 wb lb LL LF (((bits ++ bitsOf 0 1) ++ bitsOf d low) ++ bitsOf sF nF) (tl ++ [Ob.box g #[.int .u8 t.lit.toNat, .int .i64 t.dist, .int .i64 t.len] 42])) := h5
    have bt := h5.blk (tl.length + 5) (at_last5 ..)
    have be := h5.blk 0 rfl
    have d0 : ∀ p : Kept w5, p.x.cell? ⟨g, 0, none⟩ = some (.int .u8 t.lit.toNat) := fun p => p.h.cell (bt.cell 0 _ rfl) (by simp)
    have d1 : ∀ p : Kept w5, p.x.cell? ⟨g, 1, none⟩ = some (.int .i64 t.dist) := fun p => p.h.cell (bt.cell 1 _ rfl) (by simp)
    have d2 : ∀ p : Kept w5, p.x.cell? ⟨g, 2, none⟩ = some (.int .i64 t.len) := fun p => p.h.cell (bt.cell 2 _ rfl) (by simp)
    have e1 : ∀ p : Kept w5, p.x.cell? ⟨q, 1, none⟩ = some (.int .i64 low) := fun p => p.h.cell (be.cell 1 _ rfl) (by simp)
    have e2 : ∀ p : Kept w5, p.x.cell? ⟨q, 2, none⟩ = some (.int .i64 least) := fun p => p.h.cell (be.cell 2 _ rfl) (by simp)
    have HS5 := Lib.hid h5
    clear H5 h5 bt be
    go_wp2_with fail
    refine wp_region_kept (by kernel_rfl) (by kernel_rfl) ?_
    repeat (quiet_step (first | (go_at_call 62; with_reducible exact kept_of (HC1.out _))))
    refine wpQuiet_nil ?_
    rintro _ ⟨⟨w6, k6⟩, rfl⟩
    rename_i w6
    clear d0 d1 d2 e1 e2 HC1
    have h6 := HS5.out.read k6
    obtain ⟨b2, off2, cap2, rfl, f0, f1⟩ := h6.wds 3 rfl lz (by rw [hL.1]; exact hzl)
    obtain ⟨-, -, -, -, e4, -⟩ := en_cells (h6.blk 0 rfl)
    rw [hL.1] at h6 e4
    have h6 : St W w6 (EnL q qw low least vb (.slice (some ⟨b2, off2, none⟩) 64 cap2) (.slice (some ⟨b, off, none⟩) 64 cap) 256 wb lb LL LF (((bits ++ bitsOf 0 1) ++ bitsOf d low) ++ bitsOf sF nF) (tl ++ [Ob.box g #[.int .u8 t.lit.toNat, .int .i64 t.dist, .int .i64 t.len] 42])) := h6
    have hz6 : (lz : Int) < 64 := by omega
    have hsc := scode_lt LL lz
    have h16L := hL.2 lz
    have hpw : 2 ^ len LL lz ≤ 2 ^ 16 := Nat.pow_le_pow_right (by decide) h16L
    have H7 := Lib.hid (iword_c h6 rfl rfl (scode LL lz) (len LL lz) (by omega) (by omega) (by simp only [List.length_append, bitsOf_length]; omega))
    obtain ⟨sL, hsL⟩ : ∃ sL, scode LL lz = sL := ⟨_, rfl⟩
    obtain ⟨nL, hnL⟩ : ∃ nL, len LL lz = nL := ⟨_, rfl⟩
    rw [hsL, hnL] at H7 HR
    rw [hsL] at f0
    rw [hnL] at f1 h16L
    clear hsL hnL hsc hpw h6 HS5 k6
    go_wp2_with fail
    refine H7.out.mono ?_; rintro e w7 ⟨rfl, h7⟩
    have h7 : St W w7 (EnL q qw low least vb (.slice (some ⟨b2, off2, none⟩) 64 cap2) (.slice (some ⟨b, off, none⟩) 64 cap) 256 wb lb LL LF ((((bits ++ bitsOf 0 1) ++ bitsOf d low) ++ bitsOf sF nF) ++ bitsOf sL nL) (tl ++ [Ob.box g #[.int .u8 t.lit.toNat, .int .i64 t.dist, .int .i64 t.len] 42])) := h7
    clear H7 f0 f1 e4
    have HS7 := Lib.hid h7
    by_cases h63 : 63 ≤ n
    · have hy1 : lz = 63 := by have := HZL.out; omega
      have hR := HR.out
      rw [if_pos h63] at hR
      obtain ⟨u, hu⟩ : ∃ u, n - 63 = u := ⟨_, rfl⟩
      rw [hu] at hR
      have HR := Lib.hid hR
      have bt := h7.blk (tl.length + 5) (at_last5 ..)
      have be := h7.blk 0 rfl
      have d2 := bt.cell 2 _ rfl
      obtain ⟨e0, -, e2, -⟩ := en_cells be
      have H8 := Lib.hid (st_put (h7.read ((Keep.refl [] w7).drew)) 1 rfl u 8 (by omega) (by decide) (by simp only [List.length_append, bitsOf_length]; omega))
      have hws3 : IntKind.i64.wrap ((n : Int) - 63) = (u : Int) := by rw [IntKind.wrap_i64]; omega
      have hwu3 : IntKind.u32.wrap (u : Int) = u := by rw [IntKind.wrap_u32]; omega
      subst hy1
      clear hR h7 HS7 bt be hu h63 HZL
      go_wp2_with fail
      go_still_tail 14, (by kernel_rfl)
      change wpList _ _ _ _ _ w7.drew
      clear d2 e0 e2
      go_wp2_with fail
      refine H8.out.mono ?_; rintro e w8 ⟨rfl, h8⟩
      go_wp2_with fail
      first | go_end0 | ((try simp only [Exit.inBlock, Exit.then]); refine bodyPost_ret (by exact results_none rfl _ _ _) rfl ?_)
      have h9 : St W w8 (EnL q qw low least vb (.slice (some ⟨b2, off2, none⟩) 64 cap2) (.slice (some ⟨b, off, none⟩) 64 cap) 256 wb lb LL LF (bits ++ R) (tl ++ [Ob.box g #[.int .u8 t.lit.toNat, .int .i64 t.dist, .int .i64 t.len] 42])) := by
        rw [← HR.out]
        simp only [← List.append_assoc]
        exact h8
      rw [hL.1, hF.1]
      exact ⟨rfl, _, h9⟩
    · have hy1 : ((lz : Int) == 63) = false := by rw [beq_eq_false_iff_ne]; have := HZL.out; omega
      have hR := HR.out
      rw [if_neg h63, List.append_nil] at hR
      have HR := Lib.hid hR
      clear hR h7 h63 HZL
      go_wp2_with fail
      first | go_end0 | ((try simp only [Exit.inBlock, Exit.then]); refine bodyPost_ret (by exact results_none rfl _ _ _) rfl ?_)
      have h9 : St W w7 (EnL q qw low least vb (.slice (some ⟨b2, off2, none⟩) 64 cap2) (.slice (some ⟨b, off, none⟩) 64 cap) 256 wb lb LL LF (bits ++ R) (tl ++ [Ob.box g #[.int .u8 t.lit.toNat, .int .i64 t.dist, .int .i64 t.len] 42])) := by
        rw [← HR.out]
        simp only [← List.append_assoc]
        exact HS7.out
      rw [hL.1, hF.1]
      exact ⟨rfl, _, h9⟩
end Go.Proofs.YthmojejiaeninaaGreat
namespace Go.Proofs.YthmojejiaeninaaGreat
set_option linter.unusedVariables false
set_option linter.unusedSimpArgs false
set_option maxRecDepth 100000
open Go.ChangeShapes Go.WideShapes Go.ChangeAt Go.RowKit

/-- the first k of 256 words stand in their cells -/
structure Eig (cs : Array Value) (k : Nat) : Prop where
  size : cs.size = 512
  at_ : ∀ j, j < k → cs[j * 2]? = some (.int .u32 (j : Nat)) ∧ cs[j * 2 + 1]? = some (.int .i64 8)
  old : ∀ j, k ≤ j → j < 256 → cs[j * 2]? = some (.int .u32 0) ∧ cs[j * 2 + 1]? = some (.int .i64 0)
theorem Eig.made : Eig (madeCells #[.int .u32 0, .int .i64 0] (256 * 2)) 0 := by
  refine ⟨by rw [size_madeCells], fun j hj => by omega, fun j _ hj => ?_⟩
  have : ∀ j, j < 256 → (madeCells #[.int .u32 0, .int .i64 0] (256 * 2))[j * 2]? = some (.int .u32 0) ∧ (madeCells #[.int .u32 0, .int .i64 0] (256 * 2))[j * 2 + 1]? = some (.int .i64 0) := by
    intro j hj
    have hs : (madeCells #[.int .u32 0, .int .i64 0] (256 * 2)).size = 512 := by rw [size_madeCells]
    have h0 : j * 2 % 2 = 0 := by omega
    have h1 : (j * 2 + 1) % 2 = 1 := by omega
    rw [Array.getElem?_eq_getElem (by omega), Array.getElem?_eq_getElem (by omega)]
    constructor
    · simp [madeCells, h0]
    · simp [madeCells, h1]
  exact this j hj
theorem Eig.next {cs : Array Value} {k : Nat} (h : Eig cs k) (hk : k < 256) : Eig ((cs.setIfInBounds (k * 2) (.int .u32 (k : Nat))).setIfInBounds (k * 2 + 1) (.int .i64 8)) (k + 1) := by
  have hs := h.size
  refine ⟨by simpa using hs, fun j hj => ?_, fun j hj hj2 => ?_⟩
  · simp only [Array.getElem?_setIfInBounds, Array.size_setIfInBounds]
    by_cases e : j = k
    · subst e
      simp [hs]; omega
    · have a1 : ¬ k * 2 + 1 = j * 2 := by omega
      have a2 : ¬ k * 2 = j * 2 := by omega
      have a3 : ¬ k * 2 + 1 = j * 2 + 1 := by omega
      have a4 : ¬ k * 2 = j * 2 + 1 := by omega
      simp only [if_neg a1, if_neg a2, if_neg a3, if_neg a4]
      exact h.at_ j (by omega)
  · simp only [Array.getElem?_setIfInBounds, Array.size_setIfInBounds]
    have a1 : ¬ k * 2 + 1 = j * 2 := by omega
    have a2 : ¬ k * 2 = j * 2 := by omega
    have a3 : ¬ k * 2 + 1 = j * 2 + 1 := by omega
    have a4 : ¬ k * 2 = j * 2 + 1 := by omega
    simp only [if_neg a1, if_neg a2, if_neg a3, if_neg a4]
    exact h.old j (by omega) hj2
theorem eights_c (w : World) : Calls Tryz.prog 24 #[] w fun e w' => ∃ b, e = .returned (.slice (some ⟨b, 0, none⟩) 256 256) ∧ (Ob.wds (.slice (some ⟨b, 0, none⟩) 256 256) 256 (fun i => i) (fun _ => 8)).P w' [b] ∧ Keep [] w w' ∧ w.heap.size ≤ b := by
  have hmk := run_make_codes w 256 (by omega)
  have hB := Blk.new w (madeCells #[.int .u32 0, .int .i64 0] (256 * 2)) 82
  have K0 := (Keep.refl [] w).alloc (.cells (madeCells #[.int .u32 0, .int .i64 0] (256 * 2)) 82)
  have hE := Eig.made
  generalize madeCells #[.int .u32 0, .int .i64 0] (256 * 2) = cs0 at *
  obtain ⟨b, hb⟩ : ∃ b, w.heap.size = b := ⟨_, rfl⟩
  rw [hb] at hB hmk
  have HB := Lib.hid hB
  have HK := Lib.hid K0
  have HBB : Hid (w.heap.size ≤ b) := by unfold Hid; omega
  have hmk2 : (Instr.makeSlice 55 (.int .i64 256) (.int .i64 256)).run Tryz.prog w = .ok (.slice (some ⟨b, 0, none⟩) 256 256) (w.alloc (.cells cs0 82)) := hmk
  clear hb hB K0 hmk
  go_enter Tryz.func24, Tryz.ntmps24
  go_wp2_with fail
  generalize w.alloc (.cells cs0 82) = w1 at HB HK ⊢
  clear hmk2
  go_loopw [6] (fun iv wr => ∃ (k : Nat) (cs : Array Value), k ≤ 256 ∧ iv = .int .i64 k ∧ Eig cs k ∧ Blk wr b cs 82 ∧ Keep [] w wr) (fun iv _ => 256 - (intOf iv).toNat)
  case atStart => exact ⟨0, cs0, by omega, rfl, hE, HB.out, HK.out⟩
  case round =>
    clear hE HB HK
    obtain ⟨k, cs, hk, rfl, hE, hB, K⟩ := hrel
    by_cases hlt : k < 256
    · have z1 : (k : Int) < 256 := by omega
      have hu : IntKind.u32.wrap (k : Int) = k := by rw [IntKind.wrap_u32]; omega
      obtain ⟨o0, o1⟩ := hE.old k (Nat.le_refl _) hlt
      have c0 := hB.cell _ _ o0
      have c1 := hB.cell _ _ o1
      have f0 := hB.free (k * 2)
      have f1 := hB.free (k * 2 + 1)
      have HB2 := Lib.hid ((hB.set (k * 2) (.int .u32 (k : Nat))).set (k * 2 + 1) (.int .i64 8))
      have HE2 := Lib.hid (hE.next hlt)
      have HK2 := Lib.hid ((K.setCell (p := ⟨b, k * 2, none⟩) (.inr HBB.out) (.int .u32 (k : Nat))).setCell (p := ⟨b, k * 2 + 1, none⟩) (.inr HBB.out) (.int .i64 8))
      clear hE hB K o0 o1
      go_wp2_with fail
      go_roundw
      case rel => exact ⟨k + 1, _, by omega, by go_num, HE2.out, HB2.out, HK2.out⟩
      case measure => simp [intOf]; omega
    · obtain rfl : k = 256 := by omega
      have HP : Hid ((Ob.wds (.slice (some ⟨b, 0, none⟩) 256 256) 256 (fun i => i) (fun _ => 8)).P wr [b]) := by
        refine ⟨rfl, ⟨some ⟨b, 0, none⟩, 256, rfl, Nat.le_refl _, by unfold maxLen; omega, (fun h => nomatch h), fun x hx i hi j hj => ?_⟩, fun b' hb' => ?_⟩
        · obtain rfl : (⟨b, 0, none⟩ : Addr) = x := by simpa using hx
          rw [addr0']
          obtain ⟨h1, h2⟩ := hE.at_ i hi
          obtain rfl | rfl : j = 0 ∨ j = 1 := by omega
          · exact hB.cell _ _ h1
          · exact hB.cell _ _ h2
        · simp [Value.ownBlock] at hb'; subst hb'; exact hB.lt
      clear hE hB
      go_wp2_with fail
      go_ret
      exact ⟨b, rfl, HP.out, K, HBB.out⟩
set_option maxHeartbeats 2000000 in
/-- a tree put, its words -/
theorem itree_c {W w : World} {Ps : List Ob} (h : St W w Ps) {q qw low least : Nat} {vb vl vd : Value} {bits : List Bool} (hi : Ps[0]? = some (Ob.box q (enCells qw low least vb vl vd) 58)) (hj : Ps[1]? = some (Ob.wr qw bits)) (v : Value) (zs : List Int) (hI : Is .i64 w v zs) (hw : Is .i64 W v zs) (hs : schk zs = 0) (h8 : bits.length % 8 = 0) (hl : bits.length ≤ 10000) :
    Calls Tryz.prog 25 #[.pointer (some ⟨q, 0, none⟩), v] w fun e w' => ∃ v', e = .returned v' ∧ St W w' (Ps.set 1 (Ob.wr qw (bits ++ b8 (packL (Ln zs)))) ++ [Ob.cds v' (Ln zs)]) := by
  have hpb := packS_len zs hs
  have hper : perr zs = 0 := by obtain ⟨hm, _⟩ := schk_ok hs; unfold perr; rw [hm]; rfl
  have hpk := sf_pack w v zs hI
  rw [hper, hpb.1] at hpk
  have HPK := Lib.hid hpk
  have hlen := hpb.2
  have hlsl : Ls zs = Ln zs := by unfold Ls; rw [if_pos hs]
  have HSC := Lib.hid (fun ww (h : Is .i64 ww v zs) => sf_codes ww v zs h)
  have HIW := Lib.hid hw
  have HS := Lib.hid h
  have hne : Ln zs ≠ [] := by
    obtain ⟨_, e, p, _⟩ := full_of hs
    intro e2; rw [e2] at e; simp at e; omega
  obtain ⟨a, c, rfl, _⟩ := hI.sh
  rw [hs, hlsl] at HSC
  have hi2 : Ps.length > 1 := by
    rcases Nat.lt_or_ge 1 Ps.length with h | h
    · exact h
    · rw [List.getElem?_eq_none h] at hj; cases hj
  clear hpk hpb hper h hw hlsl hI
  go_enter Tryz.func25, Tryz.ntmps25
  go_wp2_with fail
  refine HPK.out.mono ?_; rintro e w1 ⟨v1, rfl, hB1, k1, f1, -⟩
  have s1 := HS.out.pushBs hB1 k1 f1
  obtain ⟨c0, -⟩ := en_cells (s1.blk 0 (by rw [List.getElem?_append_left (by omega)]; exact hi))
  have hP := st_putbytes (v2 := v1) (l2 := packL (Ln zs)) s1 1 Ps.length (by omega) (by rw [List.getElem?_append_left (by omega)]; exact hj) (by rw [List.getElem?_append_right (Nat.le_refl _)]; simp) h8 (by omega)
  have HP := Lib.hid hP
  obtain ⟨a1, c1, rfl, _⟩ := hB1.shape
  clear HPK hB1 k1 f1 s1 hP HS
  go_wp2_with fail
  refine HP.out.mono ?_; rintro e w2 ⟨rfl, s2⟩
  rw [List.set_append_left _ _ (by omega)] at s2
  have s2 := s2.pop
  have HS2 := Lib.hid s2
  have HC := Lib.hid (HSC.out w2 (HIW.out.keep s2.kp (by simp)))
  clear HP s2 c0 HSC
  go_wp2_with fail
  refine HC.out.mono ?_; rintro e w3 ⟨v3, rfl, h3, k3, f3, -⟩
  have s3 := HS2.out.push (Ob.cds v3 (Ln zs)) v3.ownBlock.toList ⟨rfl, h3, h3.lt (.inl hne)⟩ k3 (fun b hb => f3 b (by simpa using hb))
  obtain ⟨a3, c3, rfl, _⟩ := h3.shape
  clear HC h3 k3 f3 HS2
  go_wp2_with fail
  go_ret
  exact ⟨_, rfl, s3⟩
end Go.Proofs.YthmojejiaeninaaGreat
namespace Go.Proofs.YthmojejiaeninaaGreat
set_option linter.unusedVariables false
set_option linter.unusedSimpArgs false
set_option maxRecDepth 100000
open Go.ChangeShapes Go.WideShapes Go.ChangeAt Go.RowKit

/-- a row of numbers of one's own -/
def Ob.ints (g n : Nat) (l : List Int) : Ob where
  P w bs := bs = [g] ∧ OwnI w (.slice (some ⟨g, 0, none⟩) n n) l
  keep := fun ⟨h1, h2⟩ k hb => ⟨h1, h2.keep k (fun b hb' => hb b (by simp [Value.ownBlock] at hb'; rw [h1]; simp [hb']))⟩
  lt := fun {w bs} ⟨h1, h2⟩ b hb => by subst h1; simp at hb; subst hb; exact h2.lt _ rfl
theorem St.ints {W w : World} {Ps : List Ob} (h : St W w Ps) (i : Nat) {g n : Nat} {l : List Int} (hi : Ps[i]? = some (Ob.ints g n l)) : OwnI w (.slice (some ⟨g, 0, none⟩) n n) l := by
  obtain ⟨bs, ⟨_, h1⟩, _⟩ := h.get i hi; exact h1
theorem St.setInts {W w : World} {Ps : List Ob} (h : St W w Ps) (i : Nat) {g n : Nat} {l : List Int} (hi : Ps[i]? = some (Ob.ints g n l)) (j : Nat) (x : Int) (hx : (Lit.int .i64 x).wf = true) : St W (w.setCell ⟨g, j, none⟩ (.int .i64 x)) (Ps.set i (Ob.ints g n (l.set j x))) := by
  obtain ⟨bs, ⟨rfl, h1⟩, h2, h3⟩ := h.focus i hi
  exact h3 _ _ [g] ⟨rfl, h1.store j x hx⟩ ((Keep.refl _ w).setCell (.inl (by simp)) _) (fun b hb => .inl hb)
theorem wts_none (n : Nat) : (fillL n n 1) = ints64 (wts n fun _ => 0) := by
  unfold fillL ints64 wts
  rw [Nat.sub_self]
  simp [List.map_const']
theorem OwnI.ofFill {w : World} {g n : Nat} (hb : Blk w g (fillL n n 1).toArray 3) (hn : n ≤ 256) : OwnI w (.slice (some ⟨g, 0, none⟩) n n) (wts n fun _ => 0) := by
  have hl : (wts n fun _ => 0).length = n := wts_len n _
  have hs : (fillL n n 1).toArray.size = n := by rw [List.size_toArray, fillL_len n n 1 (Nat.le_refl _)]
  refine ⟨⟨by rw [hl]; simp [ints64, wts], .inr ⟨g, n, (fillL n n 1).toArray, by rw [hl], Nat.zero_le _, hb, by omega, by unfold maxLen; omega, ?_, ?_⟩⟩, fun z hz => ?_⟩
  · rw [hs]; omega
  · rw [hl, wts_none]
    have : (ints64 (wts n fun _ => 0)).length = n := by simp [ints64, wts]
    rw [List.toList_toArray, List.take_of_length_le (by omega)]
  · unfold wts at hz
    obtain ⟨i, _, rfl⟩ := List.mem_map.1 hz
    show (Lit.int .i64 1).wf = true
    decide
/-- one more of a symbol -/
theorem wts_set (n : Nat) (o o' : Nat → Nat) (c : Nat) (hc : c < n) (h : ∀ i, o' i = o i + (if i = c then 1 else 0)) : (wts n o).set c ((1 + 1024 * o c : Nat) + 1024 : Int) = wts n o' := by
  apply List.ext_getElem
  · simp [wts]
  · intro i h1 h2
    rw [List.getElem_set]
    have hi : i < n := by simpa [wts] using h2
    by_cases e : c = i
    · subst e
      rw [if_pos rfl]
      simp only [wts, List.getElem_map, List.getElem_range, h, if_true]
      omega
    · rw [if_neg e]
      simp only [wts, List.getElem_map, List.getElem_range, h]
      rw [if_neg (fun e' => e e'.symm)]; simp
theorem wts_zn (n : Nat) (o : Nat → Nat) (c : Nat) (hc : c < n) : zn (wts n o) c = ((1 + 1024 * o c : Nat) : Int) := by
  rw [zn_get _ c (by rw [wts_len]; exact hc)]
  simp [wts]
theorem cnO_le (p : Tk → Bool) (s : Tk → Nat) (ts : List Tk) (c : Nat) : cnO p s ts c ≤ ts.length := by
  induction ts with
  | nil => simp [cnO]
  | cons t ts ih =>
    unfold cnO at ih ⊢
    by_cases hp : p t = true
    · rw [List.filter_cons_of_pos hp, List.map_cons, List.sum_cons, List.length_cons]; split <;> omega
    · rw [List.filter_cons_of_neg hp, List.length_cons]; omega
theorem cnO_snoc (p : Tk → Bool) (s : Tk → Nat) (ts : List Tk) (t : Tk) (c : Nat) : cnO p s (ts ++ [t]) c = cnO p s ts c + (if p t = true then (if c = s t then 1 else 0) else 0) := by
  unfold cnO
  rw [List.filter_append, List.map_append, List.sum_append]
  congr 1
  by_cases hp : p t = true
  · rw [if_pos hp, List.filter_cons_of_pos hp]; simp [eq_comm]
  · rw [if_neg hp, List.filter_cons_of_neg hp]; rfl
theorem okF_wts (n : Nat) (o : Nat → Nat) (h : ∀ i, o i ≤ 100000) : okF (wts n o) = true := by
  rw [okF_iff]
  intro z hz
  unfold wts at hz
  obtain ⟨i, _, rfl⟩ := List.mem_map.1 hz
  have := h i
  omega
theorem may_wts (n : Nat) (o : Nat → Nat) (hn : n ≤ 256) (h : ∀ i, o i ≤ 100000) : mayF (wts n o) 16 = true := by
  rw [mayF_iff]
  refine ⟨by omega, by omega, by rw [wts_len]; omega, okF_wts n o h, ?_⟩
  have h1 : usedN (wts n o).length (fn (wts n o)) ≤ (wts n o).length := ct_le _ _
  rw [wts_len] at h1
  have h2 : (2 : Nat) ^ (16 : Int).toNat = 65536 := by decide
  rw [wts_len, h2]; omega
end Go.Proofs.YthmojejiaeninaaGreat
namespace Go.Proofs.YthmojejiaeninaaGreat
set_option linter.unusedVariables false
set_option linter.unusedSimpArgs false
set_option maxRecDepth 100000
open Go.ChangeShapes Go.WideShapes Go.ChangeAt Go.RowKit

/-- what is counted in: what copies' symbols hang on, the answer's cells, the three rows, what tells them -/
def CnL (qm qa qc g1 g2 g3 : Nat) (low least : Nat) (l1 l2 l3 : List Int) (tl : List Ob) : List Ob :=
  Ob.box qm #[.int .i64 low, .int .i64 least] 53 :: Ob.box qa #[.slice none 0 0, .slice none 0 0, .slice none 0 0] 64 ::
   Ob.ints g1 256 l1 :: Ob.ints g2 64 l2 :: Ob.ints g3 64 l3 ::
   Ob.box qc #[.slice (some ⟨g1, 0, none⟩) 256 256, .slice (some ⟨g2, 0, none⟩) 64 64, .slice (some ⟨g3, 0, none⟩) 64 64] 64 :: tl
theorem at_last6 (a b c d e f : Ob) (tl : List Ob) (P : Ob) : (a :: b :: c :: d :: e :: f :: (tl ++ [P]))[tl.length + 6]? = some P := by
  rw [List.getElem?_cons_succ, List.getElem?_cons_succ, List.getElem?_cons_succ, List.getElem?_cons_succ, List.getElem?_cons_succ, List.getElem?_cons_succ]
  simp
set_option maxHeartbeats 8000000 in
theorem icount_c (w : World) (v : Value) (ts : List Tk) (low least : Nat) (h : Ts w v ts) (hts : ∀ t ∈ ts, tkOk15 low least t) (hlow : low ≤ 7) (hle : 2 ≤ least ∧ least ≤ 3) (hn : ts.length ≤ 100000) : Calls Tryz.prog 29 #[.agg #[.int .i64 low, .int .i64 least], v] w fun e w' =>
    ∃ g1 g2 g3, e = .returned (.agg #[.slice (some ⟨g1, 0, none⟩) 256 256, .slice (some ⟨g2, 0, none⟩) 64 64, .slice (some ⟨g3, 0, none⟩) 64 64]) ∧
      St w w' [Ob.ints g1 256 (wts 256 (cnO litP litS ts)), Ob.ints g2 64 (wts 64 (cnO copP (lenS least) ts)), Ob.ints g3 64 (wts 64 (cnO copP (farS low) ts))] := by
  obtain ⟨a, cap, rfl, _⟩ := h.sh
  have HT := Lib.hid h
  have HTS := Lib.hid hts
  have HLE := Lib.hid hle
  have HLO := Lib.hid hlow
  have HM1 := Lib.hid (fun ww (t : Tk) h1 h2 => mlength_c ww low least t h1 h2 hle.2)
  have HM2 := Lib.hid (fun ww (t : Tk) h1 h2 => mdistance_c ww low least t h1 h2 hlow)
  have s0 := ((St.nil w).pushBox #[.int .i64 low, .int .i64 least] 53).pushBox #[.slice none 0 0, .slice none 0 0, .slice none 0 0] 64
  obtain ⟨w0, hw0⟩ : ∃ w0, (w.alloc (.cells #[.int .i64 low, .int .i64 least] 53)).alloc (.cells #[.slice none 0 0, .slice none 0 0, .slice none 0 0] 64) = w0 := ⟨_, rfl⟩
  rw [hw0] at s0
  have HW0 := Lib.hid hw0
  obtain ⟨qa, hqa⟩ : ∃ qa, (w.alloc (.cells #[.int .i64 low, .int .i64 least] 53)).heap.size = qa := ⟨_, rfl⟩
  rw [hqa] at s0
  have hqa2 : qa = w.heap.size + 1 := by rw [← hqa]; simp
  obtain ⟨qm, hqm⟩ : ∃ qm, w.heap.size = qm := ⟨_, rfl⟩
  rw [hqm] at s0 hqa2
  have HQM := Lib.hid hqm
  have HQA := Lib.hid hqa2
  have HS0 := Lib.hid s0
  clear s0 hw0 hqa hqa2 hqm h hts hle hlow
  go_enter Tryz.func29, Tryz.ntmps29
  go_wp2_with fail
  rw [HW0.out, HQM.out, ← HQA.out]
  refine (none_c w0 256 (by omega) (by omega)).mono ?_; rintro e w1 ⟨g1, rfl, b1, k1, f1⟩
  have HS1 := Lib.hid (HS0.out.push (Ob.ints g1 256 (wts 256 fun _ => 0)) [g1] ⟨rfl, OwnI.ofFill b1 (by omega)⟩ k1 (by simpa using f1))
  clear b1 k1 f1 HS0
  go_wp2_with fail
  refine (none_c w1 64 (by omega) (by omega)).mono ?_; rintro e w2 ⟨g2, rfl, b2, k2, f2⟩
  have HS2 := Lib.hid (HS1.out.push (Ob.ints g2 64 (wts 64 fun _ => 0)) [g2] ⟨rfl, OwnI.ofFill b2 (by omega)⟩ k2 (by simpa using f2))
  clear b2 k2 f2 HS1
  go_wp2_with fail
  refine (none_c w2 64 (by omega) (by omega)).mono ?_; rintro e w3 ⟨g3, rfl, b3, k3, f3⟩
  have HS3 := Lib.hid (HS2.out.push (Ob.ints g3 64 (wts 64 fun _ => 0)) [g3] ⟨rfl, OwnI.ofFill b3 (by omega)⟩ k3 (by simpa using f3))
  clear b3 k3 f3 HS2
  go_wp2_with fail
  have s4 := HS3.out.pushBox #[.slice (some ⟨g1, 0, none⟩) 256 256, .slice (some ⟨g2, 0, none⟩) 64 64, .slice (some ⟨g3, 0, none⟩) 64 64] 64
  obtain ⟨qc, hqc⟩ : ∃ qc, w3.heap.size = qc := ⟨_, rfl⟩
  rw [hqc] at s4 ⊢
  generalize w3.alloc (.cells #[.slice (some ⟨g1, 0, none⟩) 256 256, .slice (some ⟨g2, 0, none⟩) 64 64, .slice (some ⟨g3, 0, none⟩) 64 64] 64) = w4 at s4 ⊢
  have HS4 : Hid (St w w4 (CnL qm qa qc g1 g2 g3 low least (wts 256 fun _ => 0) (wts 64 fun _ => 0) (wts 64 fun _ => 0) [])) := s4
  clear s4 hqc HS3 HW0
  go_loopw [14] (fun iv wr => ∃ (k : Nat) (tl : List Ob), k ≤ ts.length ∧ iv = .int .i64 k ∧ St w wr (CnL qm qa qc g1 g2 g3 low least (wts 256 (cnO litP litS (ts.take k))) (wts 64 (cnO copP (lenS least) (ts.take k))) (wts 64 (cnO copP (farS low) (ts.take k))) tl)) (fun iv _ => ts.length - (intOf iv).toNat)
  case atStart => exact ⟨0, [], Nat.zero_le _, rfl, HS4.out⟩
  case round =>
    clear HS4
    obtain ⟨k, tl, hk, rfl, hS⟩ := hrel
    by_cases hlt : k < ts.length
    · have z1 : (k : Int) < (ts.length : Int) := by omega
      obtain ⟨b, off, cap', hv, e1, e2, e3⟩ := (HT.out.keep hS.kp (by simp)).at k hlt
      simp only [Value.slice.injEq] at hv
      obtain ⟨rfl, h2, rfl⟩ := hv
      clear h2
      have hok := HTS.out _ (List.getElem_mem hlt)
      obtain ⟨t, ht⟩ : ∃ t, ts[k] = t := ⟨_, rfl⟩
      have htk : ts.take (k + 1) = ts.take k ++ [t] := by rw [List.take_succ_eq_append_getElem hlt, ht]
      have htl : (ts.take k).length ≤ 100000 := by rw [List.length_take]; omega
      rw [ht] at e1 e2 e3 hok
      have HTK := Lib.hid htk
      have hc := fun p s c => Nat.le_trans (cnO_le p s (ts.take k) c) htl
      have HCN := Lib.hid hc
      generalize ts.take k = ts0 at hS HTK HCN
      have s2 := hS.pushBox #[.int .u8 t.lit.toNat, .int .i64 t.dist, .int .i64 t.len] 42
      obtain ⟨g, hg⟩ : ∃ g, wr.heap.size = g := ⟨_, rfl⟩
      rw [hg] at s2
      have HG := Lib.hid hg
      have s2 : St w (wr.alloc (.cells #[.int .u8 t.lit.toNat, .int .i64 t.dist, .int .i64 t.len] 42)) (CnL qm qa qc g1 g2 g3 low least (wts 256 (cnO litP litS ts0)) (wts 64 (cnO copP (lenS least) ts0)) (wts 64 (cnO copP (farS low) ts0)) (tl ++ [Ob.box g #[.int .u8 t.lit.toNat, .int .i64 t.dist, .int .i64 t.len] 42])) := s2
      have HS2 := Lib.hid s2
      clear s2 hS htk hc ht htl hg
      by_cases h0 : t.len = 0
      · have hp : litP t = true := by simp [litP, h0]
        have hp2 : copP t = false := by simp [copP, hp]
        have hz : litS t < 256 := t.lit.toNat_lt
        have hI := HS2.out.ints 2 rfl
        have r0 := hI.cell (litS t) (by rw [wts_len]; exact hz)
        have f0 := hI.free (litS t)
        rw [wts_zn 256 _ _ hz] at r0
        have hxc := HCN.out litP litS (litS t)
        have hws := wts_set 256 (cnO litP litS ts0) (cnO litP litS (ts0 ++ [t])) (litS t) hz (fun i => by rw [cnO_snoc, if_pos hp])
        have e2' : cnO copP (lenS least) (ts0 ++ [t]) = cnO copP (lenS least) ts0 := by funext i; rw [cnO_snoc, if_neg (by rw [hp2]; simp)]; rfl
        have e3' : cnO copP (farS low) (ts0 ++ [t]) = cnO copP (farS low) ts0 := by funext i; rw [cnO_snoc, if_neg (by rw [hp2]; simp)]; rfl
        have HS3 := Lib.hid (HS2.out.setInts 2 rfl (litS t) ((1 + 1024 * cnO litP litS ts0 (litS t) : Nat) + 1024 : Int) (by simp [Lit.wf, IntKind.min, IntKind.max, IntKind.bits, IntKind.signed]; omega))
        rw [hws] at HS3
        have hzz : t.lit.toNat = litS t := rfl
        have c0 := (HS2.out.blk 5 rfl).cell 0 _ rfl
        rw [h0] at e3 c0 r0 f0 HS3
        rw [hzz] at e1 c0 r0 f0 HS3
        generalize litS t = z at *
        have hz2 : (z : Int) < 256 := by omega
        obtain ⟨X, hX⟩ : ∃ X, 1 + 1024 * cnO litP litS ts0 z = X := ⟨_, rfl⟩
        rw [hX] at r0 HS3
        have hwX : IntKind.i64.wrap ((X : Int) + 1024) = (X : Int) + 1024 := by rw [IntKind.wrap_i64]; omega
        clear hX hI hws hzz h0 hp hp2 hok HS2 hxc
        go_wp2_with fail
        go_roundw
        case rel =>
          refine ⟨k + 1, tl ++ [Ob.box g #[.int .u8 z, .int .i64 t.dist, .int .i64 0] 42], by omega, by first | rfl | simp, ?_⟩
          rw [HTK.out, e2', e3']
          exact HS3.out
        case measure => simp [intOf]; omega
      · have hp : litP t = false := by simp [litP, h0]
        have hp2 : copP t = true := by simp [copP, hp]
        obtain ⟨g4, g5, g6, g7⟩ : (least : Int) ≤ t.len ∧ t.len ≤ least + 318 ∧ 1 ≤ t.dist ∧ t.dist ≤ 64 * 2 ^ low := by
          rcases hok with ⟨a, _⟩ | b
          · exact absurd a h0
          · exact b
        have h2low : 2 ^ low ≤ 2 ^ 7 := Nat.pow_le_pow_right (by decide) HLO.out
        have h64 : ((64 * 2 ^ low : Nat) : Int) = 64 * 2 ^ low := by simp
        have hle := HLE.out
        have hzl : lenS least t < 64 := by unfold lenS; omega
        have hzf : farS low t < 64 := by
          unfold farS
          refine (Nat.div_lt_iff_lt_mul (Nat.two_pow_pos low)).2 ?_
          omega
        have hxl := HCN.out copP (lenS least) (lenS least t)
        have hxf := HCN.out copP (farS low) (farS low t)
        have hwl := wts_set 64 (cnO copP (lenS least) ts0) (cnO copP (lenS least) (ts0 ++ [t])) (lenS least t) hzl (fun i => by rw [cnO_snoc, if_pos hp2])
        have hwf := wts_set 64 (cnO copP (farS low) ts0) (cnO copP (farS low) (ts0 ++ [t])) (farS low t) hzf (fun i => by rw [cnO_snoc, if_pos hp2])
        have e1' : cnO litP litS (ts0 ++ [t]) = cnO litP litS ts0 := by funext i; rw [cnO_snoc, if_neg (by rw [hp]; simp)]; rfl
        have HC1 := Lib.hid (fun ww => HM1.out ww t g4 (by omega))
        have HC2 := Lib.hid (fun ww => HM2.out ww t g6 (by omega))
        have rl := wts_zn 64 (cnO copP (lenS least) ts0) (lenS least t) hzl
        have rf := wts_zn 64 (cnO copP (farS low) ts0) (farS low t) hzf
        have hL1 := wts_len 64 (cnO copP (lenS least) ts0)
        have hL2 := wts_len 64 (cnO copP (farS low) ts0)
        have HWL := Lib.hid hwl
        have HWF := Lib.hid hwf
        have h0' : (t.len == 0) = false := by rw [beq_eq_false_iff_ne]; exact h0
        clear hwl hwf h64 h2low g4 g5 g6 g7 hok hle hp hp2 HM1 HM2
        generalize lenS least t = zl at *
        generalize farS low t = zf at *
        generalize wts 64 (cnO copP (lenS least) ts0) = l2 at *
        generalize wts 64 (cnO copP (farS low) ts0) = l3 at *
        obtain ⟨XL, hXL⟩ : ∃ X, 1 + 1024 * cnO copP (lenS least) ts0 zl = X := ⟨_, rfl⟩
        obtain ⟨XF, hXF⟩ : ∃ X, 1 + 1024 * cnO copP (farS low) ts0 zf = X := ⟨_, rfl⟩
        rw [hXL] at rl HWL
        rw [hXF] at rf HWF
        have hXL2 : XL ≤ 110000000 := by omega
        have hXF2 : XF ≤ 110000000 := by omega
        have hwXL : IntKind.i64.wrap ((XL : Int) + 1024) = (XL : Int) + 1024 := by rw [IntKind.wrap_i64]; omega
        have hwXF : IntKind.i64.wrap ((XF : Int) + 1024) = (XF : Int) + 1024 := by rw [IntKind.wrap_i64]; omega
        have wfL : (Lit.int .i64 ((XL : Int) + 1024)).wf = true := by simp [Lit.wf, IntKind.min, IntKind.max, IntKind.bits, IntKind.signed]; omega
        have wfF : (Lit.int .i64 ((XF : Int) + 1024)).wf = true := by simp [Lit.wf, IntKind.min, IntKind.max, IntKind.bits, IntKind.signed]; omega
        have HWFL := Lib.hid wfL
        have HWFF := Lib.hid wfF
        have hzl2 : (zl : Int) < 64 := by omega
        have hzf2 : (zf : Int) < 64 := by omega
        have HRL := Lib.hid rl; have HRF := Lib.hid rf; have HL1 := Lib.hid hL1; have HL2 := Lib.hid hL2
        clear hXL hXF hXL2 hXF2 wfL wfF hxl hxf rl rf hL1 hL2 h0
        go_upto_region 7 with fail
        rw [HG.out]
        generalize wr.alloc (.cells #[.int .u8 t.lit.toNat, .int .i64 t.dist, .int .i64 t.len] 42) = w5 at HS2 ⊢
        have HS5 := Lib.hid HS2.out
        clear HS2 e1 e2 e3 HG
        have bt := HS5.out.blk (tl.length + 6) (at_last6 ..)
        have bc := HS5.out.blk 5 rfl
        have bm := HS5.out.blk 0 rfl
        have hI := HS5.out.ints 3 rfl
        have r0' := hI.cell zl (by rw [HL1.out]; omega)
        rw [HRL.out] at r0'
        have d0 : ∀ p : Kept w5, p.x.cell? ⟨g, 0, none⟩ = some (.int .u8 t.lit.toNat) := fun p => p.h.cell (bt.cell 0 _ rfl) (by simp)
        have d1 : ∀ p : Kept w5, p.x.cell? ⟨g, 1, none⟩ = some (.int .i64 t.dist) := fun p => p.h.cell (bt.cell 1 _ rfl) (by simp)
        have d2 : ∀ p : Kept w5, p.x.cell? ⟨g, 2, none⟩ = some (.int .i64 t.len) := fun p => p.h.cell (bt.cell 2 _ rfl) (by simp)
        have c1 : ∀ p : Kept w5, p.x.cell? ⟨qc, 1, none⟩ = some (.slice (some ⟨g2, 0, none⟩) 64 64) := fun p => p.h.cell (bc.cell 1 _ rfl) (by simp)
        have m0 : ∀ p : Kept w5, p.x.cell? ⟨qm, 0, none⟩ = some (.int .i64 low) := fun p => p.h.cell (bm.cell 0 _ rfl) (by simp)
        have m1 : ∀ p : Kept w5, p.x.cell? ⟨qm, 1, none⟩ = some (.int .i64 least) := fun p => p.h.cell (bm.cell 1 _ rfl) (by simp)
        have r0 : ∀ p : Kept w5, p.x.cell? ⟨g2, zl, none⟩ = some (.int .i64 XL) := fun p => p.h.cell r0' (by simp)
        clear bt bc bm hI r0'
        go_wp2_with fail
        refine wp_region_kept_tail 9 (by kernel_rfl) (by kernel_rfl) ?_
        simp only [List.take_succ_cons, List.take_zero, List.drop_succ_cons, List.drop_zero]
        repeat (quiet_step (first | (go_at_call 62; with_reducible exact kept_of (HC1.out _))))
        refine wpQuiet_nil ?_
        rintro _ ⟨⟨w6, k6⟩, rfl⟩
        rename_i w6
        clear d0 d1 d2 c1 m0 m1 r0
        have s6 := HS5.out.read k6
        have hI := s6.ints 3 rfl
        have r0 := hI.cell zl (by rw [HL1.out]; omega)
        rw [HRL.out] at r0
        have f0 := hI.free zl
        have HS6' := Lib.hid (s6.setInts 3 rfl zl ((XL : Int) + 1024) HWFL.out)
        clear hI s6 k6
        go_wp2_with fail
        generalize w6.setCell ⟨g2, zl, none⟩ (.int .i64 ((XL : Int) + 1024)) = w7 at HS6' ⊢
        have HS7 : Hid (St w w7 (CnL qm qa qc g1 g2 g3 low least (wts 256 (cnO litP litS ts0)) (l2.set zl ((XL : Int) + 1024)) l3 (tl ++ [Ob.box g #[.int .u8 t.lit.toNat, .int .i64 t.dist, .int .i64 t.len] 42]))) := HS6'.out
        clear HS6' r0 f0
        have bt := HS7.out.blk (tl.length + 6) (at_last6 ..)
        have bc := HS7.out.blk 5 rfl
        have bm := HS7.out.blk 0 rfl
        have hI := HS7.out.ints 4 rfl
        have r0' := hI.cell zf (by rw [HL2.out]; omega)
        rw [HRF.out] at r0'
        have d0 : ∀ p : Kept w7, p.x.cell? ⟨g, 0, none⟩ = some (.int .u8 t.lit.toNat) := fun p => p.h.cell (bt.cell 0 _ rfl) (by simp)
        have d1 : ∀ p : Kept w7, p.x.cell? ⟨g, 1, none⟩ = some (.int .i64 t.dist) := fun p => p.h.cell (bt.cell 1 _ rfl) (by simp)
        have d2 : ∀ p : Kept w7, p.x.cell? ⟨g, 2, none⟩ = some (.int .i64 t.len) := fun p => p.h.cell (bt.cell 2 _ rfl) (by simp)
        have c1 : ∀ p : Kept w7, p.x.cell? ⟨qc, 2, none⟩ = some (.slice (some ⟨g3, 0, none⟩) 64 64) := fun p => p.h.cell (bc.cell 2 _ rfl) (by simp)
        have m0 : ∀ p : Kept w7, p.x.cell? ⟨qm, 0, none⟩ = some (.int .i64 low) := fun p => p.h.cell (bm.cell 0 _ rfl) (by simp)
        have m1 : ∀ p : Kept w7, p.x.cell? ⟨qm, 1, none⟩ = some (.int .i64 least) := fun p => p.h.cell (bm.cell 1 _ rfl) (by simp)
        have r0 : ∀ p : Kept w7, p.x.cell? ⟨g3, zf, none⟩ = some (.int .i64 XF) := fun p => p.h.cell r0' (by simp)
        clear bt bc bm hI r0'
        go_wp2_with fail
        refine wp_region_kept_tail 9 (by kernel_rfl) (by kernel_rfl) ?_
        simp only [List.take_succ_cons, List.take_zero, List.drop_succ_cons, List.drop_zero]
        repeat (quiet_step (first | (go_at_call 61; with_reducible exact kept_of (HC2.out _))))
        refine wpQuiet_nil ?_
        rintro _ ⟨⟨w8, k8⟩, rfl⟩
        rename_i w8
        clear d0 d1 d2 c1 m0 m1 r0
        have s8 := HS7.out.read k8
        have hI := s8.ints 4 rfl
        have r0 := hI.cell zf (by rw [HL2.out]; omega)
        rw [HRF.out] at r0
        have f0 := hI.free zf
        have HS8' := Lib.hid (s8.setInts 4 rfl zf ((XF : Int) + 1024) HWFF.out)
        clear hI s8 k8
        go_wp2_with fail
        go_roundw
        case rel =>
          refine ⟨k + 1, tl ++ [Ob.box g #[.int .u8 t.lit.toNat, .int .i64 t.dist, .int .i64 t.len] 42], by omega, by first | rfl | simp, ?_⟩
          rw [HTK.out, e1', ← HWL.out, ← HWF.out]
          exact HS8'.out
        case measure => simp [intOf]; omega
    · obtain rfl : k = ts.length := by omega
      rw [List.take_length] at hS
      have bc := hS.blk 5 rfl
      have ba := hS.blk 1 rfl
      have c0 := bc.cell 0 _ rfl
      have c1 := bc.cell 1 _ rfl
      have c2 := bc.cell 2 _ rfl
      have a0 := ba.cell 0 _ rfl
      have a1 := ba.cell 1 _ rfl
      have a2 := ba.cell 2 _ rfl
      have f0 := ba.free 0
      have f1 := ba.free 1
      have f2 := ba.free 2
      have s9 := ((hS.setBox 1 rfl 0 (.slice (some ⟨g1, 0, none⟩) 256 256)).setBox 1 rfl 1 (.slice (some ⟨g2, 0, none⟩) 64 64)).setBox 1 rfl 2 (.slice (some ⟨g3, 0, none⟩) 64 64)
      have HS9 := Lib.hid s9
      clear bc ba hS s9
      go_wp2_with fail
      refine bodyPost_ret (results_cellA rfl _ rfl (HS9.out.blk 1 rfl) _ Tryz.underlying64 rfl (by kernel_rfl)) rfl ?_
      refine ⟨g1, g2, g3, rfl, ?_⟩
      exact HS9.out.sub _ (fun j => j + 2) (fun j => j - 2) (fun j hj => by
        have : j = 0 ∨ j = 1 ∨ j = 2 := by simp at hj; omega
        rcases this with rfl | rfl | rfl
        · exact ⟨rfl, rfl⟩
        · exact ⟨rfl, rfl⟩
        · exact ⟨rfl, rfl⟩)
end Go.Proofs.YthmojejiaeninaaGreat
namespace Go.Proofs.YthmojejiaeninaaGreat
set_option linter.unusedVariables false
set_option linter.unusedSimpArgs false
set_option maxRecDepth 100000
open Go.ChangeShapes Go.WideShapes Go.ChangeAt Go.RowKit

/-- the lengths of weights as Lengths answers them -/
theorem lim_wts (w : World) (v : Value) (n : Nat) (o : Nat → Nat) (h : Is .i64 w v (wts n o)) (hn : n ≤ 256) (ho : ∀ i, o i ≤ 100000) : Calls Tryz.prog 30 #[v, .int .i64 16] w fun e w' => ∃ v' ls, e = .returned (.tuple #[v', .int .i64 0]) ∧ Is .i64 w' v' ls ∧ Keep [] w w' ∧ BestL (wts n o) ls 16 ∧ ls = limL (wts n o) 16 := by
  refine (lim_lengths w v (wts n o) 16 h (by decide)).mono ?_
  rintro e w' ⟨v', ls, er, rfl, hI, k, _, hg⟩
  obtain ⟨rfl, hb, hp⟩ := hg (may_wts n o hn ho)
  exact ⟨v', ls, rfl, hI, k, hb, hp.is (by rw [wts_len]; omega)⟩
theorem lim_nil (w : World) : Calls Tryz.prog 30 #[.slice none 0 0, .int .i64 16] w fun e w' => ∃ v', e = .returned (.tuple #[v', .int .i64 0]) ∧ Is .i64 w' v' [] ∧ Keep [] w w' := by
  refine (lim_lengths w (.slice none 0 0) [] 16 (OwnI.nil w).is (by decide)).mono ?_
  rintro e w' ⟨v', ls, er, rfl, hI, k, _, hg⟩
  obtain ⟨rfl, hb, _⟩ := hg (by decide)
  have : ls = [] := List.eq_nil_of_length_eq_zero hb.1
  subst this
  exact ⟨v', rfl, hI, k⟩
theorem St.since {W W1 w : World} {Ps : List Ob} (h : St W1 w Ps) (k : Keep [] W W1) : St W w Ps := by
  obtain ⟨h1, own, h2⟩ := h
  refine ⟨k.trans h1 (by simp), own, fun i P hi => ?_⟩
  obtain ⟨bs, h3, h4⟩ := h2 i P hi
  exact ⟨bs, h3, fun b hb => ⟨(h4 b hb).1, Nat.le_trans k.size (h4 b hb).2⟩⟩
set_option maxHeartbeats 8000000 in
theorem imp_trees (w : World) (v : Value) (ts : List Tk) (large trees : Bool) (h : Ts w v ts) (hf : fitsT ts (sh16 large trees) = true) (hn : ts.length ≤ 100000) : Calls Tryz.prog 14 #[v, .bool large, .bool trees] w fun e w' => ∃ vx vy vz x y z, e = .returned (.tuple #[vx, vy, vz, .int .i64 0]) ∧ Is .i64 w' vx x ∧ Is .i64 w' vy y ∧ Is .i64 w' vz z ∧ Keep [] w w' ∧ T16 large trees ts x y z := by
  have HS := Lib.hid (fun w => ishape_c w large trees)
  have HF := Lib.hid (fun w (h : Ts w v ts) => tok_fits w v ts (sh16 large trees) h hf)
  have HM := Lib.hid (fun w => measureof_c w large trees)
  have HT := Lib.hid h
  have hC := fun w (h : Ts w v ts) => icount_c w v ts (low15 large) (least15 trees) h (fits16 hf) (low16 large).1 (least16 trees) hn
  have HC := Lib.hid hC
  have hcn : ∀ p s i, cnO p s ts i ≤ 100000 := fun p s i => Nat.le_trans (cnO_le p s ts i) hn
  have hT16 : ∀ x y z, ((trees = true → BestL (wts 256 (cnO litP litS ts)) x 16) ∧ x = (if trees then limL (wts 256 (cnO litP litS ts)) 16 else [])) → (BestL (wts 64 (cnO copP (lenS (least15 trees)) ts)) y 16 ∧ y = limL (wts 64 (cnO copP (lenS (least15 trees)) ts)) 16) →
      (BestL (wts 64 (cnO copP (farS (low15 large)) ts)) z 16 ∧ z = limL (wts 64 (cnO copP (farS (low15 large)) ts)) 16) → T16 large trees ts x y z := fun x y z a b c => ⟨⟨a.1, b.1, c.1⟩, a.2, b.2, c.2⟩
  have HT16 := Lib.hid hT16
  obtain ⟨a, c, rfl, _⟩ := h.sh
  generalize (sh16 large trees).val = V at *
  generalize low15 large = low at *
  generalize least15 trees = least at *
  have H1 := Lib.hid (fun w g (h : OwnI w (.slice (some ⟨g, 0, none⟩) 256 256) (wts 256 (cnO litP litS ts))) => lim_wts w _ 256 _ h.is (by omega) (hcn litP litS))
  have H2 := Lib.hid (fun w g (h : OwnI w (.slice (some ⟨g, 0, none⟩) 64 64) (wts 64 (cnO copP (lenS least) ts))) => lim_wts w _ 64 _ h.is (by omega) (hcn copP (lenS least)))
  have H3 := Lib.hid (fun w g (h : OwnI w (.slice (some ⟨g, 0, none⟩) 64 64) (wts 64 (cnO copP (farS low) ts))) => lim_wts w _ 64 _ h.is (by omega) (hcn copP (farS low)))
  generalize wts 256 (cnO litP litS ts) = L1 at *
  generalize wts 64 (cnO copP (lenS least) ts) = L2 at *
  generalize wts 64 (cnO copP (farS low) ts) = L3 at *
  clear hcn hC h hf hT16
  go_enter Tryz.func14, Tryz.ntmps14
  go_wp2_with fail
  refine (HS.out w).mono ?_; rintro e w1 ⟨rfl, k1⟩
  have HT1 := Lib.hid (HT.out.keep k1 (by simp))
  have HK1 := Lib.hid k1
  clear HT k1
  go_wp2_with fail
  refine (HF.out w1 HT1.out).mono ?_; rintro e w2 ⟨rfl, k2⟩
  have HT2 := Lib.hid (HT1.out.keep k2 (by simp))
  have HK2 := Lib.hid (HK1.out.trans k2 (by simp))
  clear HF HT1 HK1 k2
  go_wp2_with fail
  refine (HM.out w2).mono ?_; rintro e w3 ⟨rfl, k3⟩
  have HT3 := Lib.hid (HT2.out.keep k3 (by simp))
  have HK3 := Lib.hid (HK2.out.trans k3 (by simp))
  clear HT2 HK2 k3
  go_wp2_with fail
  refine (HC.out w3 HT3.out).mono ?_; rintro e w4 ⟨g1, g2, g3, rfl, h4⟩
  have s5 := (h4.since HK3.out).pushBox #[.slice (some ⟨g1, 0, none⟩) 256 256, .slice (some ⟨g2, 0, none⟩) 64 64, .slice (some ⟨g3, 0, none⟩) 64 64] 64
  obtain ⟨q, hq⟩ : ∃ q, w4.heap.size = q := ⟨_, rfl⟩
  have HQ := Lib.hid hq
  rw [hq] at s5
  have HS5 := Lib.hid s5
  clear HC HT3 h4 hq HK3 s5
  obtain ⟨vb, hvb⟩ : ∃ vb : Value, vb = if trees then .slice (some ⟨g1, 0, none⟩) 256 256 else .slice none 0 0 := ⟨_, rfl⟩
  have HVB := Lib.hid hvb
  clear hvb
  go_upto_if 30 with fail
  rw [HQ.out]
  generalize w4.alloc (.cells #[.slice (some ⟨g1, 0, none⟩) 256 256, .slice (some ⟨g2, 0, none⟩) 64 64, .slice (some ⟨g3, 0, none⟩) 64 64] 64) = w5 at HS5 ⊢
  have HS5 : Hid (St w w5 [Ob.ints g1 256 L1, Ob.ints g2 64 L2, Ob.ints g3 64 L3, Ob.box q #[.slice (some ⟨g1, 0, none⟩) 256 256, .slice (some ⟨g2, 0, none⟩) 64 64, .slice (some ⟨g3, 0, none⟩) 64 64] 64]) := HS5.out
  go_cut [] (fun wx => St w wx [Ob.ints g1 256 L1, Ob.ints g2 64 L2, Ob.ints g3 64 L3, Ob.box q #[vb, .slice (some ⟨g2, 0, none⟩) 64 64, .slice (some ⟨g3, 0, none⟩) 64 64] 64])
  case first =>
    cases trees with
    | true =>
      have h := HVB.out
      rw [if_pos rfl] at h
      subst h
      go_wp2_with fail
      go_meet
      exact HS5.out
    | false =>
      have h := HVB.out
      rw [if_neg (by simp)] at h
      subst h
      have bx := HS5.out.blk 3 rfl
      have c0 := bx.cell 0 _ rfl
      have f0 := bx.free 0
      have HS6 := Lib.hid (HS5.out.setBox 3 rfl 0 (.slice none 0 0))
      clear bx
      go_wp2_with fail
      go_meet
      exact HS6.out
  case rest =>
  clear HS5 HQ HS HM
  have HB : Hid (∀ ww, OwnI ww (.slice (some ⟨g1, 0, none⟩) 256 256) L1 → Calls Tryz.prog 30 #[vb, .int .i64 16] ww fun e w' => ∃ v' ls, e = .returned (.tuple #[v', .int .i64 0]) ∧ Is .i64 w' v' ls ∧ Keep [] ww w' ∧ ((trees = true → BestL L1 ls 16) ∧ ls = (if trees then limL L1 16 else []))) := fun ww h => by
    cases trees with
    | true =>
      have e := HVB.out
      rw [if_pos rfl] at e
      subst e
      refine (H1.out ww g1 h).mono ?_
      rintro e w' ⟨v', ls, rfl, a, b, c, d⟩
      exact ⟨v', ls, rfl, a, b, fun _ => c, by rw [if_pos rfl]; exact d⟩
    | false =>
      have e := HVB.out
      rw [if_neg (by simp)] at e
      subst e
      refine (lim_nil ww).mono ?_
      rintro e w' ⟨v', rfl, a, b⟩
      exact ⟨v', [], rfl, a, b, fun h => by simp at h, by rw [if_neg (by simp)]⟩
  have hb := HB.out wc (hcut.ints 0 rfl)
  have HB2 := Lib.hid hb
  have c0 := (hcut.blk 3 rfl).cell 0 _ rfl
  have HC := Lib.hid hcut
  clear HB hb hcut H1 HVB
  go_wp2_with fail
  refine HB2.out.mono ?_; rintro e w6 ⟨vx, x, rfl, hx, k6, px⟩
  have h6 := HC.out.read k6
  have HX := Lib.hid hx
  have HPX := Lib.hid px
  have HL := Lib.hid (H2.out w6 g2 (h6.ints 1 rfl))
  have c1 := (h6.blk 3 rfl).cell 1 _ rfl
  have HC6 := Lib.hid h6
  obtain ⟨ax, cx, rfl, _⟩ := hx.sh
  clear HB2 c0 hx px h6 k6 HC H2
  go_wp2_with fail
  refine HL.out.mono ?_; rintro e w7 ⟨vy, y, rfl, hy, k7, py⟩
  have h7 := HC6.out.read k7
  have HX7 := Lib.hid (HX.out.keep k7 (by simp))
  have HY := Lib.hid hy
  have HPY := Lib.hid py
  have HL3 := Lib.hid (H3.out w7 g3 (h7.ints 2 rfl))
  have c2 := (h7.blk 3 rfl).cell 2 _ rfl
  have HC7 := Lib.hid h7
  obtain ⟨ay, cy, rfl, _⟩ := hy.sh
  clear HL c1 hy py h7 k7 HC6 H3 HX
  go_wp2_with fail
  refine HL3.out.mono ?_; rintro e w8 ⟨vz, z, rfl, hz, k8, pz⟩
  have HX8 := Lib.hid (HX7.out.keep k8 (by simp))
  have HY8 := Lib.hid (HY.out.keep k8 (by simp))
  have HZ8 := Lib.hid hz
  have HK8 := Lib.hid (HC7.out.kp.trans k8 (by simp))
  have HT := Lib.hid (HT16.out x y z HPX.out HPY.out pz)
  obtain ⟨az, cz, rfl, _⟩ := hz.sh
  have HO := Lib.hid (or3_c (w8.alloc (.cells #[.int .i64 0, .int .i64 0, .int .i64 0] 33)) w8.heap.size (Blk.new w8 _ _))
  have ka := (Keep.refl [] w8).alloc (.cells #[.int .i64 0, .int .i64 0, .int .i64 0] 33)
  have HKA := Lib.hid ka
  clear HL3 c2 hz pz k8 HC7 HX7 HY HT16 HPX HPY ka
  go_wp2_with fail
  refine HO.out.mono ?_; rintro e w9 ⟨rfl, k9⟩
  have k9' := HKA.out.trans k9 (by simp)
  have HX9 := Lib.hid (HX8.out.keep k9' (by simp))
  have HY9 := Lib.hid (HY8.out.keep k9' (by simp))
  have HZ9 := Lib.hid (HZ8.out.keep k9' (by simp))
  have HK9 := Lib.hid (HK8.out.trans k9' (by simp))
  clear HO HKA k9 k9' HX8 HY8 HZ8 HK8
  go_wp2_with fail
  (try simp only [Exit.inBlock, Exit.then])
  refine bodyPost_ret (results_tmp4 rfl _ _ _) rfl ?_
  exact ⟨_, _, _, x, y, z, rfl, HX9.out, HY9.out, HZ9.out, HK9.out, HT.out⟩
end Go.Proofs.YthmojejiaeninaaGreat
namespace Go.Proofs.YthmojejiaeninaaGreat
set_option linter.unusedVariables false
set_option linter.unusedSimpArgs false
set_option maxRecDepth 100000
open Go.ChangeShapes Go.WideShapes Go.ChangeAt Go.RowKit

set_option maxHeartbeats 8000000 in
theorem imp_encode (w : World) (v : Value) (b : List UInt8) (large trees : Bool) (hb : Bs w v b) (hl : b.length ≤ 100000) : Calls Tryz.prog 13 #[v, .bool large, .bool trees] w fun e w' => ∃ v' x y z, e = .returned v' ∧ Bs w' v' (enc16 b large trees x y z) ∧ Keep [] w w' ∧ (b.length ≠ 0 → T16 large trees (found b (sh16 large trees)) x y z) := by
  by_cases hb0 : b.length = 0
  · obtain ⟨a, c, rfl, _⟩ := hb.shape
    have z1 : ((b.length : Int) == 0) = true := by rw [hb0]; rfl
    have z2 : (b.length == 0) = true := by rw [hb0]; rfl
    have HE : Hid (enc16 b large trees [] [] [] = []) := by unfold enc16 Hid; rw [if_pos hb0]
    have HB0 := Lib.hid hb0
    clear hb hb0
    go_enter Tryz.func13, Tryz.ntmps13
    go_wp2_with fail
    go_ret
    exact ⟨_, [], [], [], rfl, by rw [HE.out]; exact (OwnB.nil _).bs, Keep.refl _ _, fun h => absurd HB0.out h⟩
  have z1 : ((b.length : Int) == 0) = false := by rw [beq_eq_false_iff_ne]; omega
  have z2 : (b.length == 0) = false := by rw [beq_eq_false_iff_ne]; omega
  have HTK := Lib.hid (imp_tokens w v b large trees hb hl)
  have hfit : fitsT (found b (sh16 large trees)) (sh16 large trees) = true := fd_fits (sh16_ok large trees) _ _
  have hfl := found16_len b large trees
  have hok := found16 b large trees
  have HTR := Lib.hid (fun w v (h : Ts w v (found b (sh16 large trees))) => imp_trees w v _ large trees h hfit (by omega))
  have hE : ∀ x y z, enc16 b large trees x y z = wr15 trees (low15 large) (least15 trees) (Ln x) (Ln y) (Ln z) (found b (sh16 large trees)) := fun x y z => by unfold enc16; rw [if_neg hb0]
  have HE := Lib.hid hE
  obtain ⟨ts, hts⟩ : ∃ ts, found b (sh16 large trees) = ts := ⟨_, rfl⟩
  rw [hts] at HTK HTR HE hfl hok ⊢
  have HM := Lib.hid (fun w => measureof_c w large trees)
  have hlow := (low16 large).1
  have hle := least16 trees
  have HOKT := Lib.hid (fun x y z (h : T16 large trees ts x y z) => h.ok)
  obtain ⟨a, c, rfl, _⟩ := hb.shape
  obtain ⟨PT, hPT⟩ : ∃ PT, T16 large trees ts = PT := ⟨_, rfl⟩
  rw [hPT] at HTR HOKT ⊢
  have HOK := Lib.hid hok
  generalize low15 large = low at *
  generalize least15 trees = least at *
  generalize hE' : enc16 b large trees = E at *
  clear hfit hok hts hE hPT hE' hb0 hb
  have hbl := Nat.le_trans hfl hl
  clear hfl hl
  go_enter Tryz.func13, Tryz.ntmps13
  go_wp2_with fail
  refine HTK.out.mono ?_; rintro e w1 ⟨v1, rfl, h1, k1⟩
  have HT1 := Lib.hid h1
  have HR1 := Lib.hid (HTR.out w1 _ h1)
  obtain ⟨a1, c1, rfl, _⟩ := h1.sh
  clear HTK HTR h1
  go_wp2_with fail
  refine HR1.out.mono ?_; rintro e w2 ⟨vx, vy, vz, x, y, z, rfl, hx, hy, hz, k2, hpt⟩
  obtain ⟨o1, o2, o3⟩ := HOKT.out x y z hpt
  have HPT := Lib.hid hpt
  have HO1 := Lib.hid o1; have HO2 := Lib.hid o2; have HO3 := Lib.hid o3
  have HT2 := Lib.hid (HT1.out.keep k2 (by simp))
  have HX := Lib.hid hx; have HY := Lib.hid hy; have HZ := Lib.hid hz
  have HK2 := Lib.hid (k1.trans k2 (by simp))
  have HEX := Lib.hid (HE.out x y z)
  obtain ⟨R, hER⟩ : ∃ R, E x y z = R := ⟨_, rfl⟩
  rw [hER] at HEX
  have HER := Lib.hid hER
  clear hER
  obtain ⟨ax, cx, rfl, _⟩ := hx.sh
  obtain ⟨ay, cy, rfl, _⟩ := hy.sh
  obtain ⟨az, cz, rfl, _⟩ := hz.sh
  clear hpt o1 o2 o3 hx hy hz k1 k2 HR1 HOKT HT1 HE
  have HN := Lib.hid (st_new (St.nil w2))
  go_wp2_with fail
  refine HN.out.mono ?_; rintro e w3 ⟨qw, rfl, s3, k3⟩
  have HS3 := Lib.hid s3
  clear HN s3 k3
  go_wp2_with fail
  refine (HM.out w3).mono ?_; rintro e w4 ⟨rfl, k4⟩
  have HS4 := Lib.hid (HS3.out.read k4)
  clear HS3 k4 HM
  go_wp2_with fail
  refine (eights_c w4).mono ?_; rintro e w5 ⟨be, rfl, h5, k5, f5⟩
  have HS5 := Lib.hid (HS4.out.push (Ob.wds (.slice (some ⟨be, 0, none⟩) 256 256) 256 (fun i => i) (fun _ => 8)) [be] h5 k5 (by simpa using f5))
  have s6 := HS5.out.pushBox (enCells qw low least (.slice (some ⟨be, 0, none⟩) 256 256) (.slice none 0 0) (.slice none 0 0)) 58
  obtain ⟨q, hq⟩ : ∃ q, w5.heap.size = q := ⟨_, rfl⟩
  have HQ := Lib.hid hq
  rw [hq] at s6
  have s6 := s6.sub [Ob.box q (enCells qw low least (.slice (some ⟨be, 0, none⟩) 256 256) (.slice none 0 0) (.slice none 0 0)) 58, Ob.wr qw [], Ob.wds (.slice (some ⟨be, 0, none⟩) 256 256) 256 (fun i => i) (fun _ => 8)] (fun j => if j = 0 then 2 else j - 1) (fun j => if j = 2 then 0 else j + 1) (fun j hj => by
    have : j = 0 ∨ j = 1 ∨ j = 2 := by simp at hj; omega
    rcases this with rfl | rfl | rfl
    · exact ⟨rfl, rfl⟩
    · exact ⟨rfl, rfl⟩
    · exact ⟨rfl, rfl⟩)
  have HS6 := Lib.hid s6
  clear s6 hq h5 k5 f5 HS4 HS5
  have hB8 : (if trees then b8 (packL (Ln x)) else []).length % 8 = 0 ∧ (if trees then b8 (packL (Ln x)) else []).length ≤ 3000 := by
    cases trees with
    | true => rw [if_pos rfl, b8_length]; have := (packS_len x (HO1.out rfl).1).2; omega
    | false => simp
  obtain ⟨B0, hB0⟩ : ∃ B0, (if trees then b8 (packL (Ln x)) else []) = B0 := ⟨_, rfl⟩
  rw [hB0] at hB8
  have HB0 := Lib.hid hB0
  clear hB0
  go_upto_if 37 with fail
  rw [HQ.out]
  have HS6 : Hid (St w2 (w5.alloc (.cells #[.pointer (some ⟨qw, 0, none⟩), .int .i64 low, .int .i64 least, .slice (some ⟨be, 0, none⟩) 256 256, .slice none 0 0, .slice none 0 0] 58)) [Ob.box q (enCells qw low least (.slice (some ⟨be, 0, none⟩) 256 256) (.slice none 0 0) (.slice none 0 0)) 58, Ob.wr qw [], Ob.wds (.slice (some ⟨be, 0, none⟩) 256 256) 256 (fun i => i) (fun _ => 8)]) := HS6.out
  generalize w5.alloc (.cells #[.pointer (some ⟨qw, 0, none⟩), .int .i64 low, .int .i64 least, .slice (some ⟨be, 0, none⟩) 256 256, .slice none 0 0, .slice none 0 0] 58) = w6 at HS6 ⊢
  go_cut [] (fun wx => ∃ (vb : Value) (wb lb : Nat → Nat), Hid (∀ i, i < 256 → bitsOf (wb i) (lb i) = if trees then bitsOf (scode (Ln x) i) (len (Ln x) i) else bitsOf i 8) ∧ Hid (∀ i, i < 256 → wb i < 4294967296 ∧ lb i ≤ 16) ∧
    St w2 wx [Ob.box q (enCells qw low least vb (.slice none 0 0) (.slice none 0 0)) 58, Ob.wr qw B0, Ob.wds vb 256 wb lb])
  case first =>
    cases trees with
    | true =>
      obtain ⟨o1, o2⟩ := HO1.out rfl
      have hI := HX.out
      have HIT := Lib.hid (itree_c HS6.out rfl rfl _ x (hI.keep HS6.out.kp (by simp)) hI o1 rfl (by simp))
      have hxl : (Ln x).length = 256 := by rw [(full_of o1).2.1]; exact o2
      have hB := HB0.out
      rw [if_pos rfl] at hB
      have HXL := Lib.hid hxl
      have HO := Lib.hid o1
      have HB := Lib.hid hB
      clear HB0 hxl o1 o2 hI hB HS6 HO1 HO2 HO3 HT2 HY HZ HEX HOK HPT
      go_wp2_with fail
      refine HIT.out.mono ?_; rintro e w7 ⟨v7, rfl, s7⟩
      have s7 : St w2 w7 [Ob.box q (enCells qw low least (.slice (some ⟨be, 0, none⟩) 256 256) (.slice none 0 0) (.slice none 0 0)) 58, Ob.wr qw (b8 (packL (Ln x))), Ob.wds (.slice (some ⟨be, 0, none⟩) 256 256) 256 (fun i => i) (fun _ => 8), Ob.cds v7 (Ln x)] := s7
      obtain ⟨a7, c7, rfl, _⟩ := (s7.cds 3 rfl).1.shape
      rw [HXL.out, HB.out] at s7
      rw [HXL.out]
      have bx := s7.blk 0 rfl
      obtain ⟨-, -, -, c3, -, -⟩ := en_cells bx
      have f3 := bx.free 3
      have s8 := s7.setBox 0 rfl 3 (.slice a7 256 c7)
      have s9 := s8.sub [Ob.box q (enCells qw low least (.slice a7 256 c7) (.slice none 0 0) (.slice none 0 0)) 58, Ob.wr qw B0, Ob.cds (.slice a7 256 c7) (Ln x)] (fun j => if j = 2 then 3 else j) (fun j => if j = 3 then 2 else j) (fun j hj => by
        have : j = 0 ∨ j = 1 ∨ j = 2 := by simp at hj; omega
        rcases this with rfl | rfl | rfl
        · exact ⟨rfl, rfl⟩
        · exact ⟨rfl, rfl⟩
        · exact ⟨rfl, rfl⟩)
      rw [Ob.wds_cds, HXL.out] at s9
      have HS9 := Lib.hid s9
      clear s7 s8 s9 bx HIT
      go_wp2_with fail
      go_meet
      exact ⟨_, _, _, (fun i _ => by simp), (fun i _ => ⟨by have h1 := scode_lt (Ln x) i; have h2 := Nat.pow_le_pow_right (n := 2) (by decide) (len16 HO.out i); omega, len16 HO.out i⟩), HS9.out⟩
    | false =>
      have hB := HB0.out
      rw [if_neg (by simp)] at hB
      subst hB
      clear HB0 HO1 HO2 HO3 HT2 HY HZ HEX HOK HPT
      go_wp2_with fail
      go_meet
      exact ⟨_, _, _, (fun i _ => by rw [if_neg (by simp)]), (fun i hi => ⟨by omega, by omega⟩), HS6.out⟩
  case rest =>
  clear HS6 HQ HX
  obtain ⟨vb, wb, lb, HWB, HWL, hs⟩ := hcut
  have HIT := Lib.hid (itree_c hs rfl rfl _ y (HY.out.keep hs.kp (by simp)) HY.out HO2.out.1 hB8.1 (by omega))
  clear hs HY
  go_wp2_with fail
  refine HIT.out.mono ?_; rintro e w7 ⟨vl, rfl, s7⟩
  have s7 : St w2 w7 [Ob.box q (enCells qw low least vb (.slice none 0 0) (.slice none 0 0)) 58, Ob.wr qw (B0 ++ b8 (packL (Ln y))), Ob.wds vb 256 wb lb, Ob.cds vl (Ln y)] := s7
  obtain ⟨al, cl, rfl, _⟩ := (s7.cds 3 rfl).1.shape
  have bx := s7.blk 0 rfl
  obtain ⟨-, -, -, -, c4, -⟩ := en_cells bx
  have f4 := bx.free 4
  have s8 := s7.setBox 0 rfl 4 (.slice al (Ln y).length cl)
  have s8 : St w2 (w7.setCell ⟨q, 4, none⟩ (.slice al (Ln y).length cl)) [Ob.box q (enCells qw low least vb (.slice al (Ln y).length cl) (.slice none 0 0)) 58, Ob.wr qw (B0 ++ b8 (packL (Ln y))), Ob.wds vb 256 wb lb, Ob.cds (.slice al (Ln y).length cl) (Ln y)] := s8
  have HS8 := Lib.hid s8
  have hpy := (packS_len y HO2.out.1).2
  have hB9 : (B0 ++ b8 (packL (Ln y))).length % 8 = 0 ∧ (B0 ++ b8 (packL (Ln y))).length ≤ 6000 := by rw [List.length_append, b8_length]; omega
  clear s7 s8 bx HIT hB8 hpy
  go_wp2_with fail
  clear c4 f4
  generalize w7.setCell ⟨q, 4, none⟩ (.slice al (Ln y).length cl) = w8 at HS8 ⊢
  obtain ⟨B1, hB1⟩ : ∃ B1, B0 ++ b8 (packL (Ln y)) = B1 := ⟨_, rfl⟩
  rw [hB1] at HS8 hB9
  have HB1 := Lib.hid hB1
  have hs := HS8.out
  have HIT := Lib.hid (itree_c hs rfl rfl _ z (HZ.out.keep hs.kp (by simp)) HZ.out HO3.out.1 hB9.1 (by omega))
  clear hs hB1 HS8 HZ
  refine HIT.out.mono ?_; rintro e w9 ⟨vd, rfl, s9⟩
  have s9 : St w2 w9 [Ob.box q (enCells qw low least vb (.slice al (Ln y).length cl) (.slice none 0 0)) 58, Ob.wr qw (B1 ++ b8 (packL (Ln z))), Ob.wds vb 256 wb lb, Ob.cds (.slice al (Ln y).length cl) (Ln y), Ob.cds vd (Ln z)] := s9
  obtain ⟨ad, cd, rfl, _⟩ := (s9.cds 4 rfl).1.shape
  have bx := s9.blk 0 rfl
  obtain ⟨-, -, -, -, -, c5⟩ := en_cells bx
  have f5 := bx.free 5
  have s8 := s9.setBox 0 rfl 5 (.slice ad (Ln z).length cd)
  have HSx : Hid (St w2 (w9.setCell ⟨q, 5, none⟩ (.slice ad (Ln z).length cd)) (EnL q qw low least vb (.slice al (Ln y).length cl) (.slice ad (Ln z).length cd) 256 wb lb (Ln y) (Ln z) (B1 ++ b8 (packL (Ln z))) [])) := s8
  have hpz := (packS_len z HO3.out.1).2
  have hH : Hid (hd15 trees (Ln x) (Ln y) (Ln z) = B1 ++ b8 (packL (Ln z))) := by unfold Hid hd15; rw [HB0.out, HB1.out]
  have hHl : (B1 ++ b8 (packL (Ln z))).length ≤ 10000 := by rw [List.length_append, b8_length]; omega
  clear s9 s8 bx HIT hB9 hpz HB0 HB1
  obtain ⟨H0, hH0⟩ : ∃ H0, B1 ++ b8 (packL (Ln z)) = H0 := ⟨_, rfl⟩
  rw [hH0] at hH hHl HSx
  clear hH0
  have hTW := tkW_tkb trees low least (Ln x) (Ln y) (Ln z) wb lb HWB.out
  have hT64 := tkb15_len trees low least (Ln x) (Ln y) (Ln z) hlow (fun e i => len16 (HO1.out e).1 i) (fun i => len16 HO2.out.1 i) (fun i => len16 HO3.out.1 i)
  rw [← hTW] at hT64
  have hLy : (Ln y).length = 64 ∧ ∀ i, len (Ln y) i ≤ 16 := ⟨by rw [(full_of HO2.out.1).2.1]; exact HO2.out.2, fun i => len16 HO2.out.1 i⟩
  have hLz : (Ln z).length = 64 ∧ ∀ i, len (Ln z) i ≤ 16 := ⟨by rw [(full_of HO3.out.1).2.1]; exact HO3.out.2, fun i => len16 HO3.out.1 i⟩
  have hR : R = ofBits (H0 ++ ts.flatMap (tkW wb lb low least (Ln y) (Ln z))) := by rw [HEX.out, hTW, ← hH.out]; rfl
  have HRR := Lib.hid hR
  have HT64 := Lib.hid hT64
  have HTOK := Lib.hid (fun ww bits tl t (h : St w2 ww (EnL q qw low least vb (.slice al (Ln y).length cl) (.slice ad (Ln z).length cd) 256 wb lb (Ln y) (Ln z) bits tl)) (ht : tkOk15 low least t) (hl : bits.length ≤ 100000000000) => itoken_c q qw low least vb _ _ wb lb (Ln y) (Ln z) bits tl h t ht hlow hle HWL.out hLy hLz hl)
  clear hTW hT64 hR hH HEX HO1 HO2 HO3 HWB HWL hLy hLz
  go_wp2_with fail
  clear c5 f5
  generalize w9.setCell ⟨q, 5, none⟩ (.slice ad (Ln z).length cd) = w10 at HSx ⊢
  generalize (Ln y).length = ny at *
  generalize (Ln z).length = nz at *
  generalize Ln y = LL at *
  generalize Ln z = LF at *
  obtain ⟨TK, hTK⟩ : ∃ TK, tkW wb lb low least LL LF = TK := ⟨_, rfl⟩
  rw [hTK] at HRR HT64 HTOK
  have HHL := Lib.hid hHl
  clear hTK hHl
  go_loopw [49] (fun iv wr => ∃ (k : Nat) (tl : List Ob), k ≤ ts.length ∧ iv = .int .i64 k ∧ St w2 wr (EnL q qw low least vb (.slice al ny cl) (.slice ad nz cd) 256 wb lb LL LF (H0 ++ (ts.take k).flatMap TK) tl)) (fun iv _ => ts.length - (intOf iv).toNat)
  case atStart => exact ⟨0, [], Nat.zero_le _, rfl, by simpa using HSx.out⟩
  case round =>
    clear HSx
    obtain ⟨k, tl, hk, rfl, hS⟩ := hrel
    have hb64 : ∀ l : List Tk, (l.flatMap TK).length ≤ 64 * l.length := by
      intro l
      induction l with
      | nil => simp
      | cons t l ih => rw [List.flatMap_cons, List.length_append, List.length_cons]; have := HT64.out t; omega
    by_cases hlt : k < ts.length
    · have z3 : (k : Int) < (ts.length : Int) := by omega
      have hbl2 : (H0 ++ (ts.take k).flatMap TK).length ≤ 100000000000 := by
        have h1 := hb64 (ts.take k)
        have h2 : (ts.take k).length ≤ k := by rw [List.length_take]; omega
        have := HHL.out
        rw [List.length_append]; omega
      have hsn : (H0 ++ (ts.take k).flatMap TK) ++ TK ts[k] = H0 ++ (ts.take (k + 1)).flatMap TK := by
        rw [List.take_succ_eq_append_getElem hlt, List.flatMap_append, List.append_assoc]; simp
      have HSN := Lib.hid hsn
      obtain ⟨b', off, cap, hv, e1, e2, e3⟩ := (HT2.out.keep hS.kp (by simp)).at k hlt
      simp only [Value.slice.injEq] at hv
      obtain ⟨rfl, h2, rfl⟩ := hv
      clear h2 hsn hb64
      have hok := HOK.out _ (List.getElem_mem hlt)
      obtain ⟨t, ht⟩ : ∃ t, ts[k] = t := ⟨_, rfl⟩
      rw [ht] at e1 e2 e3 hok HSN
      have HC := Lib.hid (HTOK.out (wr.alloc (.cells #[.int .u8 t.lit.toNat, .int .i64 t.dist, .int .i64 t.len] 42)) _ tl t (hS.read ((Keep.refl [] wr).alloc _)) hok hbl2)
      clear hS ht hok hbl2 HTOK
      go_wp2_with fail
      refine HC.out.mono ?_; rintro e w11 ⟨rfl, tl', h11⟩
      rw [HSN.out] at h11
      clear HC e1 e2 e3
      go_wp2_with fail
      go_roundw
      case rel => exact ⟨k + 1, tl', by omega, by first | rfl | simp, h11⟩
      case measure => simp [intOf]; omega
    · obtain rfl : k = ts.length := by omega
      rw [List.take_length] at hS
      have hbl2 : (H0 ++ ts.flatMap TK).length ≤ 100000000000 := by
        have h1 := hb64 ts
        have := HHL.out
        rw [List.length_append]; omega
      have HBY := Lib.hid (st_wbytes hS 1 rfl (by omega))
      obtain ⟨c0, -⟩ := en_cells (hS.blk 0 rfl)
      have hk2 := hS.kp
      clear hS hbl2 hb64 HTOK hlt
      go_wp2_with fail
      refine HBY.out.mono ?_; rintro e w11 ⟨v11, l', rfl, ho, hbits, k11, _⟩
      have hl' : l' = R := by rw [HRR.out]; exact toBits_inj _ _ (by rw [hbits, toBits_ofBits])
      subst hl'
      obtain ⟨a11, c11, rfl, _⟩ := ho.bs.shape
      go_wp2_with fail
      go_ret
      exact ⟨_, x, y, z, rfl, by rw [HER.out]; exact ho.bs, (HK2.out.trans hk2 (by simp)).trans k11 (by simp), fun _ => HPT.out⟩
end Go.Proofs.YthmojejiaeninaaGreat
