/- Texts put together: Sf StSf -/
import Derived.Test.YthmojejiaeninaaGreatPart8
import Derived.Test.YthmojejiaeninaaGreatPart12
import Derived.Test.YthmojejiaeninaaGreatPart7
import Derived.Test.YthmojejiaeninaaGreatPart16
import Derived.Test.YthmojejiaeninaaGreatPart5
namespace Go.Proofs.YthmojejiaeninaaGreat
set_option linter.unusedVariables false
set_option linter.unusedSimpArgs false
open Go.ChangeShapes Go.WideShapes Go.ChangeAt Go.RowKit

/-- block q is a decoder of lengths L, bs its blocks -/
def Dec6 (w : World) (q : Nat) (bs L : List Nat) : Prop := ∃ g n cap F nm dp, bs = [q, g] ∧ q ≠ g ∧ Blk w q #[.slice (some ⟨g, 0, none⟩) n cap] 208 ∧ OwnF w (.slice (some ⟨g, 0, none⟩) n cap) F n ∧
  Tr L F n L.length L.length nm dp ∧ (∀ i, i < L.length → 1 ≤ len L i ∧ len L i ≤ 16) ∧ tot16 L = 65536 ∧ L.length ≤ 256 ∧ n ≤ 10000
theorem Dec6.keep {w w' : World} {q : Nat} {bs L S : List Nat} (h : Dec6 w q bs L) (k : Keep S w w') (hs : ∀ b ∈ bs, b ∉ S) : Dec6 w' q bs L := by
  obtain ⟨g, n, cap, F, nm, dp, rfl, h1, h2, h3, h4⟩ := h
  exact ⟨g, n, cap, F, nm, dp, rfl, h1, h2.keep k (hs q (by simp)), h3.keep k (fun b hb => by
    obtain rfl : g = b := by simpa [Value.ownBlock] using hb
    exact hs g (by simp)), h4⟩
theorem Dec6.lt {w : World} {q : Nat} {bs L : List Nat} (h : Dec6 w q bs L) : ∀ b ∈ bs, b < w.heap.size := by
  obtain ⟨g, n, cap, F, nm, dp, rfl, h1, h2, h3, h4⟩ := h
  intro b hb
  simp at hb
  rcases hb with rfl | rfl
  · exact h2.lt
  · exact h3.lt _ rfl
theorem Dec6.ok {w : World} {q : Nat} {bs L : List Nat} (h : Dec6 w q bs L) : (∀ i, i < L.length → 1 ≤ len L i ∧ len L i ≤ 16) ∧ tot16 L = 65536 := by
  obtain ⟨g, n, cap, F, nm, dp, rfl, h1, h2, h3, h4, h5, h6, _⟩ := h
  exact ⟨h5, h6⟩
/-- what New's loop holds: the words of symbols below k are laid -/
structure NwS (w1 : World) (q : Nat) (cv : Value) (L : List Nat) (k g n cap : Nat) (F : Nat → Nat → Int) (nm dp : Nat → Nat) (wr : World) : Prop where
  blk : Blk wr q #[.slice (some ⟨g, 0, none⟩) n cap] 208
  ne : q ≠ g
  own : OwnF wr (.slice (some ⟨g, 0, none⟩) n cap) F n
  tr : Tr L F n k k nm dp
  nb : n ≤ 1 + 15 * k
  keep : Keep [] w1 wr
  fresh : w1.heap.size ≤ g ∧ w1.heap.size ≤ q
  cds : Cds6 wr cv L
theorem Cds6.keep0 {w w' : World} {v : Value} {L : List Nat} {S : List Nat} (h : Cds6 w v L) (k : Keep S w w') (hb : ∀ b, v.ownBlock = some b → b ∉ S) : Cds6 w' v L := Sts.keep h k hb
set_option maxRecDepth 100000 in
set_option maxHeartbeats 4000000 in
theorem new_err (w : World) (v : Value) (zs : List Int) (h : Is .i64 w v zs) (h0 : schk zs ≠ 0) : Calls Tryz.prog 117 #[v] w fun e w' => e = .returned (.tuple #[.pointer none, .int .i64 (schk zs)]) ∧ Keep [] w w' := by
  have HC := Lib.hid (sf_codes w v zs h)
  have hb : ((schk zs : Int) != 0) = true := by simp; exact h0
  clear h0
  generalize schk zs = er at *
  obtain ⟨a, cap, rfl, hl⟩ := h.sh
  clear h
  go_enter Tryz.func117, Tryz.ntmps117
  go_wp2_with fail
  refine HC.out.mono ?_; rintro e w1 ⟨v', rfl, hc, k1, _, _⟩
  clear HC
  go_wp2_with fail
  go_ret2
  exact ⟨rfl, k1⟩
set_option maxRecDepth 100000 in
set_option maxHeartbeats 4000000 in
theorem new_ok (w : World) (v : Value) (zs : List Int) (h : Is .i64 w v zs) (h0 : schk zs = 0) : Calls Tryz.prog 117 #[v] w fun e w' => ∃ q bs, e = .returned (.tuple #[.pointer (some ⟨q, 0, none⟩), .int .i64 0]) ∧ Dec6 w' q bs (Ln zs) ∧ Keep [] w w' ∧ ∀ b ∈ bs, w.heap.size ≤ b := by
  have hC := sf_codes w v zs h
  obtain ⟨hm, ht⟩ := schk_ok h0
  have hlz := (mayS_iff zs).1 hm
  have HL := Lib.hid (fun t (ht : t < zs.length) => (mayS_get hm t ht).2)
  have hN := Ln_length zs
  rw [show Ls zs = Ln zs by unfold Ls; rw [h0]; rfl, h0] at hC
  obtain ⟨a, cap, rfl, hl⟩ := h.sh
  rw [← hN] at hC hlz HL hl ⊢
  obtain ⟨l1, l2, l3⟩ := hlz
  clear l3
  have HC := Lib.hid hC
  have HT := Lib.hid ht
  clear h hC h0 hm ht
  generalize Ln zs = L at *
  clear hN
  go_enter Tryz.func117, Tryz.ntmps117
  go_wp2_with fail
  refine HC.out.mono ?_; rintro e w1 ⟨v', rfl, hc, k1, hcb, hx0⟩
  clear HC hx0
  obtain ⟨a', cap', rfl, hl'⟩ := hc.shape
  have hmk := run_make_forks w1 L.length (by omega) (by omega)
  go_wp2_with fail
  have hS0 : Hid (NwS w1 (w1.heap.size + 1) (.slice a' L.length cap') L 0 w1.heap.size 1 L.length (fun _ _ => 0) (fun _ => 0) (fun _ => 0) ((w1.alloc (.cells (madeCells #[.int .i16 0, .int .i16 0] (L.length * 2)) 215)).alloc (.cells #[.slice (some ⟨w1.heap.size, 0, none⟩) 1 L.length] 208))) := by
    have hB := Blk.new (w1.alloc (.cells (madeCells #[.int .i16 0, .int .i16 0] (L.length * 2)) 215)) #[.slice (some ⟨w1.heap.size, 0, none⟩) 1 L.length] 208
    rw [World.size_alloc] at hB
    have K2 := ((Keep.refl [] w1).alloc (.cells (madeCells #[.int .i16 0, .int .i16 0] (L.length * 2)) 215)).alloc (.cells #[.slice (some ⟨w1.heap.size, 0, none⟩) 1 L.length] 208)
    exact ⟨hB, by omega, (OwnF.made w1 L.length (by omega) (by omega)).keep ((Keep.refl [] _).alloc _) (by simp), Tr.start L 0, by omega, K2, by omega, hc.keep0 K2 (by simp)⟩
  obtain ⟨w2, hw2⟩ : ∃ x, ((w1.alloc (.cells (madeCells #[.int .i16 0, .int .i16 0] (L.length * 2)) 215)).alloc (.cells #[.slice (some ⟨w1.heap.size, 0, none⟩) 1 L.length] 208)) = x := ⟨_, rfl⟩
  rw [hw2] at hS0 ⊢
  obtain ⟨q, hq⟩ : ∃ x, w1.heap.size + 1 = x := ⟨_, rfl⟩
  rw [hq] at hS0 ⊢
  clear hw2 hmk
  have HW1 : Hid (Keep [] w w1) := k1
  have HBW : Hid (∀ b', (Value.slice a' L.length cap').ownBlock = some b' → b' < w1.heap.size) := by
    intro b' hb'
    obtain ⟨b, off, cp, hv, e1, _⟩ := hc.at 0 (by omega)
    simp only [Value.slice.injEq] at hv
    rw [hv.1] at hb'
    obtain rfl : b = b' := by simpa [Value.ownBlock] using hb'
    exact lt_of_cell' e1
  clear k1 hcb hc hq
  go_loopw [24] (fun i wr => ∃ k g n cap2 F nm dp, k ≤ L.length ∧ i = .int .i64 (k : Nat) ∧ Hid (NwS w1 q (.slice a' L.length cap') L k g n cap2 F nm dp wr)) (fun i _ => L.length - (intOf i).toNat)
  case atStart => exact ⟨0, w1.heap.size, 1, L.length, _, _, _, by omega, rfl, hS0⟩
  case round =>
    obtain ⟨k, g, n, cap2, F, nm, dp, hk, rfl, HS⟩ := hrel
    by_cases hlt : k < L.length
    · have h := HS.out
      obtain ⟨b, off, cp, hv, e1, e2⟩ := h.cds.at k hlt
      simp only [Value.slice.injEq] at hv
      obtain ⟨rfl, hvv, rfl⟩ := hv
      clear hvv
      have hX := Blk.new wr #[.int .u32 0, .int .i64 0] 82
      have p0 := hX.cell 0 _ rfl
      have p1 := hX.cell 1 _ rfl
      have g0 := hX.free 0
      have g1 := hX.free 1
      have hKB : Keep [] wr (wr.alloc (.cells #[.int .u32 (scode L k : Nat), .int .i64 (len L k : Nat)] 82)) := (Keep.refl [] wr).alloc _
      have HLY := Lib.hid (lay_c _ q g n cap2 L F nm dp k (h.blk.keep hKB (by simp)) h.ne (h.own.keep hKB (by simp)) h.tr hlt l2 HL.out HT.out (by have := h.nb; omega))
      clear hX h
      go_wp2_with fail
      refine HLY.out.mono ?_; rintro e w5 ⟨rfl, g5, n5, cap5, F5, nm5, dp5, r1, r2, r3, r4, r5, r6, r7⟩
      have h := HS.out
      have hS5 : Hid (NwS w1 q (.slice (some ⟨b, off, none⟩) L.length cap') L (k + 1) g5 n5 cap5 F5 nm5 dp5 w5) := by
        have hsz := h.keep.size
        have K5 : Keep [q, g] wr w5 := (hKB.mono (by simp)).trans r5 (fun x hx => .inl hx)
        refine ⟨r1, r2, r3, r4, by have := h.nb; omega, h.keep.trans K5 (by have := h.fresh; simp; omega), ?_, h.cds.keep0 K5 (fun b' hb' => ?_)⟩
        · have h1 := hKB.size
          rcases r6 with rfl | h2
          · exact h.fresh
          · exact ⟨by omega, h.fresh.2⟩
        · obtain rfl : b = b' := by simpa [Value.ownBlock] using hb'
          have := HBW.out b rfl
          have := h.fresh
          simp; omega
      clear h r1 r2 r3 r4 r5 r6 r7 HLY
      go_wp2_with fail
      go_roundw
      case rel => exact ⟨k + 1, g5, n5, cap5, F5, nm5, dp5, by omega, by go_num, hS5⟩
      case measure => simp [intOf]; omega
    · obtain rfl : k = L.length := by omega
      go_wp2_with fail
      go_ret2
      have h := HS.out
      have hsz := HW1.out.size
      refine ⟨q, rfl, [q, g], ⟨g, n, cap2, F, nm, dp, rfl, h.ne, h.blk, h.own, h.tr, HL.out, HT.out, l2, by have := h.nb; omega⟩, HW1.out.trans h.keep (by simp), fun b hb => ?_⟩
      have := h.fresh
      simp at hb
      omega
theorem sf_new (w : World) (v : Value) (zs : List Int) (h : Is .i64 w v zs) : Calls Tryz.prog 117 #[v] w fun e w' => ∃ p, e = .returned (.tuple #[.pointer p, .int .i64 (schk zs)]) ∧ Keep [] w w' ∧ (schk zs ≠ 0 → p = none) ∧ (schk zs = 0 → ∃ q bs, p = some ⟨q, 0, none⟩ ∧ Dec6 w' q bs (Ln zs) ∧ ∀ b ∈ bs, w.heap.size ≤ b) := by
  by_cases h0 : schk zs = 0
  · refine (new_ok w v zs h h0).mono ?_
    rintro e w' ⟨q, bs, rfl, hd, hk, hb⟩
    exact ⟨_, by rw [h0]; rfl, hk, fun hn => absurd h0 hn, fun _ => ⟨q, bs, rfl, hd, hb⟩⟩
  · refine (new_err w v zs h h0).mono ?_
    rintro e w' ⟨rfl, hk⟩
    exact ⟨none, rfl, hk, fun _ => rfl, fun hn => absurd hn h0⟩
theorem bit_nil6 (w : World) : Calls Tryz.prog 104 #[.pointer none] w fun e w' => e = .returned (.int .u32 0) ∧ w = w' := by
  go_enter Tryz.func104, Tryz.ntmps104
  go_wp2_with fail
  refine (bits_nil _ _).mono ?_; rintro e w1 ⟨rfl, rfl⟩
  go_wp2_with fail
  go_ret
  exact ⟨rfl, rfl⟩
theorem sf_next_nil (w : World) (p : Option Addr) : Calls Tryz.prog 119 #[.pointer none, .pointer p] w fun e w' => e = .returned (.tuple #[.int .i64 (-1), .int .i64 1]) ∧ Keep [] w w' := by
  go_enter Tryz.func119, Tryz.ntmps119
  go_wp2_with fail
  go_ret2
  exact ⟨rfl, Keep.refl _ _⟩
/-- a Decoder that New did not make -/
def Plain6 (w : World) (q : Nat) : Prop := Blk w q #[.slice none 0 0] 208
theorem Plain6.keep {w w' : World} {q : Nat} {S : List Nat} (h : Plain6 w q) (k : Keep S w w') (hq : q ∉ S) : Plain6 w' q := Blk.keep h k hq
theorem Plain6.lt {w : World} {q : Nat} (h : Plain6 w q) : q < w.heap.size := Blk.lt h
/-- the cells of a Decoder that New did not make -/
def pz6 : Array Value := #[.slice none 0 0]
theorem dec6Info : (Tryz.prog.info? 208).map (fun i => (i.zero, i.size)) = some (some (.agg pz6), 1) := by kernel_rfl
theorem pz_plain6 (w : World) (q : Nat) (h : Blk w q pz6 208) : Plain6 w q := h
theorem sf_next_plain (w : World) (q : Nat) (p : Option Addr) (h : Plain6 w q) : Calls Tryz.prog 119 #[.pointer (some ⟨q, 0, none⟩), .pointer p] w fun e w' => e = .returned (.tuple #[.int .i64 (-1), .int .i64 1]) ∧ Keep [] w w' := by
  have c0 : w.cell? ⟨q, 0, none⟩ = some (.slice none 0 0) := Blk.cell h 0 _ rfl
  clear h
  go_enter Tryz.func119, Tryz.ntmps119
  go_wp2_with fail
  go_ret2
  exact ⟨rfl, Keep.refl _ _⟩
theorem sf_next_nilrd (w : World) (q : Nat) (bs L : List Nat) (h : Dec6 w q bs L) : Calls Tryz.prog 119 #[.pointer (some ⟨q, 0, none⟩), .pointer none] w fun e w' => e = .returned (.tuple #[.int .i64 (-1), .int .i64 1]) ∧ Keep [] w w' := by
  obtain ⟨g, n, cap, F, nm, dp, rfl, h1, h2, h3, h4, h5, h6, h7, h8⟩ := h
  have c0 : w.cell? ⟨q, 0, none⟩ = some (.slice (some ⟨g, 0, none⟩) n cap) := Blk.cell h2 0 _ rfl
  have hn : 0 < n := h4.pos
  have hn0 : ((n : Int) == 0) = false := by rw [beq_eq_false_iff_ne]; omega
  clear h1 h2 h3 h4 h5 h6 h7
  go_enter Tryz.func119, Tryz.ntmps119
  go_wp2_with fail
  refine (look_nil _ _).mono ?_; rintro e w1 ⟨rfl, rfl⟩
  go_wp2_with fail
  go_loopw [26] (fun i wr => i = .int .i64 0 ∧ wr = w) (fun _ _ => 0)
  case atStart => exact ⟨rfl, rfl⟩
  case round =>
    obtain ⟨rfl, rfl⟩ := hrel
    go_wp2_with fail
    refine (bits_nil _ _).mono ?_; rintro e w1 ⟨rfl, rfl⟩
    go_wp2_with fail
    refine (bit_nil6 _).mono ?_; rintro e w1 ⟨rfl, rfl⟩
    go_wp2_with fail
    refine (err_nil _).mono ?_; rintro e w1 ⟨rfl, rfl⟩
    go_wp2_with fail
    go_ret2
    exact ⟨rfl, Keep.refl _ _⟩
theorem notI16bF : ∀ k : Fin 256, Go.bits .xor .i16 (-1) (-(((k.val : Nat) : Int) + 1)) = ((k.val : Nat) : Int) := by decide +kernel
theorem notI16b (k : Nat) (h : k < 256) : Go.bits .xor .i16 (-1) (-((k : Int) + 1)) = (k : Int) := notI16bF ⟨k, h⟩
theorem sf_next_err (w : World) (q r : Nat) (v : Value) (s : RS) (bs L : List Nat) (h : Dec6 w q bs L) (hr : Rd w r v s) (hE : s.E ≠ 0) : Calls Tryz.prog 119 #[.pointer (some ⟨q, 0, none⟩), .pointer (some ⟨r, 0, none⟩)] w fun e w' => e = .returned (.tuple #[.int .i64 (-1), .int .i64 s.E]) ∧ Rd w' r v s ∧ Keep [r] w w' := by
  obtain ⟨g, n, cap, F, nm, dp, rfl, h1, h2, h3, h4, h5, h6, h7, h8⟩ := h
  have c0 : w.cell? ⟨q, 0, none⟩ = some (.slice (some ⟨g, 0, none⟩) n cap) := Blk.cell h2 0 _ rfl
  have hn : 0 < n := h4.pos
  have hn0 : ((n : Int) == 0) = false := by rw [beq_eq_false_iff_ne]; omega
  have e0 : s.bits 0 = (0, s) := by unfold RS.bits; rw [if_neg (by omega), if_pos hE, if_neg (by omega)]
  have e1 : s.bits 1 = (0, s) := by unfold RS.bits; rw [if_neg (by omega), if_pos hE, if_pos (by omega), RS.fail_fail _ _ hE]
  have HL := Lib.hid (look_err w r v s 16 hr hE)
  have H0 := Lib.hid (bits_c w r v s 0 hr)
  rw [e0] at H0
  have H1 := Lib.hid (fun w (hr : Rd w r v s) => bit_c w r v s hr)
  rw [e1] at H1
  have H2 := Lib.hid (fun w (hr : Rd w r v s) => err_c w r v s hr)
  clear h1 h2 h3 h4 h5 h6 h7 e0 e1 hE hr
  generalize hse : s.E = er at *
  clear hse
  go_enter Tryz.func119, Tryz.ntmps119
  go_wp2_with fail
  refine HL.out.mono ?_; rintro e w1 ⟨rfl, rfl⟩
  go_wp2_with fail
  go_loopw [26] (fun i wr => i = .int .i64 0 ∧ wr = w) (fun _ _ => 0)
  case atStart => exact ⟨rfl, rfl⟩
  case round =>
    obtain ⟨rfl, rfl⟩ := hrel
    go_wp2_with fail
    refine H0.out.mono ?_; rintro e w1 ⟨rfl, hr1, k1⟩
    go_wp2_with fail
    refine (H1.out _ hr1).mono ?_; rintro e w2 ⟨rfl, hr2, k2⟩
    have K2 := k1.trans k2 (fun x hx => .inl hx)
    clear hr1 k1 k2
    go_wp2_with fail
    refine (H2.out _ hr2).mono ?_; rintro e w3 ⟨rfl, rfl⟩
    go_wp2_with fail
    go_ret2
    exact ⟨rfl, hr2, K2⟩
/-- what a number's first bits lead to in a whole tree -/
theorem Tr.leads {L : List Nat} {F : Nat → Nat → Int} {n : Nat} {nm dp : Nat → Nat} (h : Tr L F n L.length L.length nm dp) (h16 : ∀ k, k < L.length → len L k ≤ 16) (hf : tot16 L = 65536) (x : Nat) :
    spick L (tr 16 x 0) < L.length ∧ (∀ i, 0 < i → i < len L (spick L (tr 16 x 0)) → 0 < wk F x i ∧ wk F x i < n) ∧ wk F x (len L (spick L (tr 16 x 0))) = -((spick L (tr 16 x 0) : Nat) : Int) - 1 := by
  have hs := spick_hit L (tr 16 x 0) h16 hf (tr16_lt _)
  have hb := (spick_bits L x _ _ h16 hf hs.1 rfl).2 rfl
  generalize spick L (tr 16 x 0) = s at *
  obtain ⟨h1, h2⟩ := h.path s hs.1
  have e : ∀ i, i ≤ len L s → wk F (scode L s) i = wk F x i := fun i hi => by rw [← hb]; exact wk_mod F x _ i hi
  refine ⟨hs.1, fun i h3 h4 => by rw [← e i (by omega)]; exact h1 i h3 h4, by rw [← e _ (Nat.le_refl _), h2]; omega⟩
set_option maxRecDepth 100000 in
set_option maxHeartbeats 4000000 in
theorem sf_next_ok (w : World) (q r : Nat) (v : Value) (s : RS) (bs L : List Nat) (h : Dec6 w q bs L) (hr : Rd w r v s) (hd : r ∉ bs) (hE : s.E = 0) : Calls Tryz.prog 119 #[.pointer (some ⟨q, 0, none⟩), .pointer (some ⟨r, 0, none⟩)] w fun e w' => e = .returned (.tuple #[.int .i64 (s.nextS L).1, .int .i64 (s.nextS L).2.1]) ∧ Rd w' r v (s.nextS L).2.2 ∧ Keep [r] w w' := by
  obtain ⟨g, n, cap, F, nm, dp, rfl, h1, h2, h3, h4, h5, h6, h7, h8⟩ := h
  obtain ⟨l1, l2, l3⟩ := h4.leads (fun k hk => (h5 k hk).2) h6 (num s.l s.pos 16)
  have hx32 : num s.l s.pos 16 < 4294967296 := Nat.lt_of_lt_of_le (num_lt s.l s.pos 16) (by decide)
  have hmade : s.made = true := by
    cases hmd : s.made with
    | true => rfl
    | false => unfold RS.E at hE; rw [hmd] at hE; simp at hE
  have hnx : s.nextS L = if len L (spick L (tr 16 (num s.l s.pos 16) 0)) ≤ s.left then (((spick L (tr 16 (num s.l s.pos 16) 0) : Nat) : Int), 0, { s with pos := s.pos + len L (spick L (tr 16 (num s.l s.pos 16) 0)) }) else (-1, 3, { s with pos := s.pos + s.left, err := 3 }) := by
    unfold RS.nextS; rw [if_neg (by omega)]
  have HL := Lib.hid (look_ok w r v s 16 hr hE (by omega))
  generalize spick L (tr 16 (num s.l s.pos 16) 0) = sy at *
  have hl16 := (h5 sy l1).2
  have hl1 := (h5 sy l1).1
  generalize len L sy = lw at *
  generalize num s.l s.pos 16 = x at *
  have HP := Lib.hid l2
  have HE := Lib.hid l3
  have HX := Lib.hid hnx
  have hsy : sy < 256 := by omega
  have hpos := h4.pos
  clear l2 l3 hnx l1 h5 h6 h4 h7
  have hn := h3.lt g rfl
  have c0 : w.cell? ⟨q, 0, none⟩ = some (.slice (some ⟨g, 0, none⟩) n cap) := Blk.cell h2 0 _ rfl
  have HC := Lib.hid (fun a b (ha : a < n) (hb : b < 2) => h3.cell a b ha hb)
  have hn1 : 0 < n := hpos
  have hn0 : ((n : Int) == 0) = false := by rw [beq_eq_false_iff_ne]; omega
  obtain ⟨t, ht⟩ : ∃ t, min 16 s.left = t := ⟨_, rfl⟩
  have ht1 : t ≤ s.left := by omega
  have ht2 : t < 16 → t = s.left := by omega
  have ht3 : t ≤ 16 := by omega
  have HB := Lib.hid (fun m n => bits_c (w.drewN m) r v s n (hr.drewN m))
  have HB1 : Hid (∀ j : Nat, j ≤ t → (s.bits (j : Int)).2 = { s with pos := s.pos + j }) := by
    intro j hj
    unfold RS.bits
    rw [if_neg (by omega), if_neg (by omega), if_neg (by omega)]
    simp
  have HS := Lib.hid (fun (h : t = s.left) => bits1_short s t hE h)
  have HT2 := Lib.hid ht2
  have HT1 := Lib.hid ht1
  rw [ht] at HL
  clear h1 h2 h3 hr hE hd ht ht1 ht2 hn hpos
  go_enter Tryz.func119, Tryz.ntmps119
  go_wp2_with fail
  refine HL.out.mono ?_; rintro e w1 ⟨rfl, m0, rfl⟩
  clear HL
  go_wp2_with fail
  go_loopw [8, 26] (fun at' i wr => ∃ j a : Nat, j ≤ t ∧ j < lw ∧ a < n ∧ at' = .int .i16 (a : Nat) ∧ i = .int .i64 (j : Nat) ∧ Hid (wk F x j = (a : Nat)) ∧ ∃ m, wr = w.drewN m) (fun _ i _ => t - (intOf i).toNat)
  case atStart => exact ⟨0, 0, by omega, by omega, by omega, rfl, rfl, (rfl : wk F x 0 = 0), m0, rfl⟩
  case round =>
    obtain ⟨j, a, hjt, hjl, ha, rfl, rfl, HW, m, rfl⟩ := hrel
    by_cases hlt : j < t
    · have hb2 : x / 2 ^ j % 2 < 2 := Nat.mod_lt _ (by decide)
      have ce := HC.out a (x / 2 ^ j % 2) ha hb2
      have hbit := bit1' x j hx32
      have hwk : wk F x (j + 1) = F a (x / 2 ^ j % 2) := by rw [wk, HW.out]; rfl
      generalize hB : x / 2 ^ j % 2 = b at *
      clear hB
      by_cases hend : j + 1 < lw
      · obtain ⟨p1, p2⟩ := HP.out (j + 1) (by omega) hend
        rw [hwk] at p1 p2
        obtain ⟨m2, hm2⟩ : ∃ m2 : Nat, F a b = m2 := ⟨(F a b).toNat, by omega⟩
        rw [hm2] at ce hwk p1 p2
        have HW2 := Lib.hid hwk
        have hnl : decide ((m2 : Int) < 0) = false := by simp
        clear hwk hm2
        have hbi : (b : Int) < 2 := by omega
        go_wp2_with fail
        go_quiet (fail)
        go_wp2_with fail
        go_roundw
        case rel => exact ⟨j + 1, m2, by omega, hend, by omega, rfl, by go_num, HW2, _, rfl⟩
        case measure => simp [intOf]; omega
      · obtain rfl : lw = j + 1 := by omega
        rw [hwk] at HE
        have hno := notI16b sy hsy
        rw [show (-((sy : Int) + 1)) = F a b by have := HE.out; omega] at hno
        have hz : F a b < 0 := by have := HE.out; omega
        generalize F a b = z at *
        have hbi : (b : Int) < 2 := by omega
        have hnl : decide (z < 0) = true := by simpa using hz
        have HBB := Lib.hid (HB1.out (j + 1) (by omega))
        clear hwk
        go_wp2_with fail
        go_quiet (fail)
        go_wp2_with fail
        refine (HB.out (m + nq) ((j : Int) + 1)).mono ?_; rintro e w5 ⟨rfl, hr5, k5⟩
        have hr6 : Rd w5 r v { s with pos := s.pos + (j + 1) } := by rw [← HBB.out]; exact hr5
        have HXX : Hid (RS.nextS L s = ((sy : Int), 0, { s with pos := s.pos + (j + 1) })) := by
          unfold Hid; rw [HX.out, if_pos (by have := HT1.out; omega)]
        have HWI : Hid (wrap64 (sy : Int) = sy) := by unfold Hid wrap64; omega
        clear hr5 HB HB1 HS HC ce
        generalize (s.bits ((j : Int) + 1)).1 = y
        go_wp2_with fail
        go_ret2
        rw [HXX.out]
        exact ⟨ret_ints HWI.out rfl, hr6, ((Keep.refl [r] w).drewN (m + nq)).trans k5 (fun x hx => .inl hx)⟩
    · obtain rfl : j = t := by omega
      have htl : j = s.left := HT2.out (by omega)
      have hb := HB1.out j (Nat.le_refl _)
      have hs := HS.out htl
      have HXX : Hid (RS.nextS L s = (-1, 3, { s with pos := s.pos + j, err := 3 })) := by
        unfold Hid; rw [HX.out, if_neg (by omega), htl]
      have HBM := Lib.hid (HB.out m (j : Int))
      rw [hb] at HBM
      have HB2 := Lib.hid (fun w (hr : Rd w r v { s with pos := s.pos + j }) => bit_c w r v _ hr)
      rw [hs] at HB2
      have HE3 := Lib.hid (fun w (hr : Rd w r v { s with pos := s.pos + j, err := 3 }) => err_c w r v _ hr)
      have he3 : RS.E { s with pos := s.pos + j, err := 3 } = 3 := by
        unfold RS.E
        rw [if_pos]
        exact hmade
      rw [he3] at HE3
      clear HB HB1 HS HX htl hb hs HC
      generalize (s.bits (j : Int)).1 = y at *
      go_wp2_with fail
      refine HBM.out.mono ?_; rintro e w5 ⟨rfl, hr5, k5⟩
      clear HBM
      go_wp2_with fail
      refine (HB2.out _ hr5).mono ?_; rintro e w6 ⟨rfl, hr6, k6⟩
      have K6 := k5.trans k6 (fun x hx => .inl hx)
      clear hr5 k5 k6 HB2
      go_wp2_with fail
      refine (HE3.out _ hr6).mono ?_; rintro e w7 ⟨rfl, rfl⟩
      go_wp2_with fail
      go_ret2
      rw [HXX.out]
      exact ⟨rfl, hr6, ((Keep.refl [r] w).drewN m).trans K6 (fun x hx => .inl hx)⟩
theorem sf_next (w : World) (q r : Nat) (v : Value) (s : RS) (bs L : List Nat) (h : Dec6 w q bs L) (hr : Rd w r v s) (hd : r ∉ bs) : Calls Tryz.prog 119 #[.pointer (some ⟨q, 0, none⟩), .pointer (some ⟨r, 0, none⟩)] w fun e w' => e = .returned (.tuple #[.int .i64 (s.nextS L).1, .int .i64 (s.nextS L).2.1]) ∧ Rd w' r v (s.nextS L).2.2 ∧ Keep [r] w w' := by
  by_cases hE : s.E = 0
  · exact sf_next_ok w q r v s bs L h hr hd hE
  · rw [nextS_err L s hE]
    exact sf_next_err w q r v s bs L h hr hE
end Go.Proofs.YthmojejiaeninaaGreat
namespace Go.Proofs.YthmojejiaeninaaGreat
set_option linter.unusedVariables false
set_option linter.unusedSimpArgs false
open Go.ChangeShapes Go.WideShapes Go.ChangeAt Go.RowKit

def Ob.dec6 (q : Nat) (L : List Nat) : Ob where
  P w bs := Dec6 w q bs L
  keep := fun h k hb => h.keep k hb
  lt := fun h => h.lt
theorem st_sf_next {W w : World} {Ps : List Ob} (h : St W w Ps) (i j : Nat) (hij : i ≠ j) {q d : Nat} {s : RS} {L : List Nat} (hi : Ps[i]? = some (Ob.rd q s)) (hj : Ps[j]? = some (Ob.dec6 d L)) : Calls Tryz.prog 119 #[.pointer (some ⟨d, 0, none⟩), .pointer (some ⟨q, 0, none⟩)] w fun e w' =>
    e = .returned (.tuple #[.int .i64 (s.nextS L).1, .int .i64 (s.nextS L).2.1]) ∧ St W w' (Ps.set i (Ob.rd q (s.nextS L).2.2)) := by
  obtain ⟨bs, cs, ⟨v, rfl, h1⟩, h2, h3, _, h4⟩ := h.apart i j hij hi hj
  refine (sf_next w d q v s cs L h2 h1 (h3 q (by simp))).mono ?_
  rintro e w' ⟨he, hr, hk⟩
  exact ⟨he, h4 w' _ _ ⟨v, rfl, hr⟩ (hk.mono (by simp)) (fun b hb => .inl hb)⟩
/-- lengths that are unpacked of a reader among others -/
theorem st_sf_unpack {W w : World} {Ps : List Ob} (h : St W w Ps) (i : Nat) {q : Nat} {s : RS} (hi : Ps[i]? = some (Ob.rd q s)) (n : Int) : Calls Tryz.prog 116 #[.pointer (some ⟨q, 0, none⟩), .int .i64 n] w fun e w' =>
    ∃ v', e = .returned (.tuple #[v', .int .i64 (s.unp n).2.1]) ∧ Is .i64 w' v' (s.unp n).1 ∧ (∀ b, v'.ownBlock = some b → w.heap.size ≤ b) ∧ Keep [] W w' ∧ w.heap.size ≤ w'.heap.size ∧ ((s.unp n).2.1 = 0 → St W w' (Ps.set i (Ob.rd q (s.unp n).2.2))) := by
  obtain ⟨bs, ⟨v, rfl, h1⟩, h2, h3⟩ := h.focus i hi
  refine (sf_unpack w q v s n h1).mono ?_
  rintro e w' ⟨v', he, hI, hk, hb, hr⟩
  exact ⟨v', he, hI, hb, h.kp.trans hk (fun x hx => .inr (h2 x (by simp at hx; simp [hx]))), hk.size, fun h0 => h3 w' _ _ ⟨v, rfl, hr h0⟩ (hk.mono (by simp)) (fun b hb => .inl hb)⟩
theorem st_sf_new {W w : World} {Ps : List Ob} (h : St W w Ps) (v : Value) (zs : List Int) (hI : Is .i64 w v zs) : Calls Tryz.prog 117 #[v] w fun e w' =>
    ∃ p, e = .returned (.tuple #[.pointer p, .int .i64 (schk zs)]) ∧ Keep [] w w' ∧ St W w' Ps ∧ (schk zs ≠ 0 → p = none) ∧ (schk zs = 0 → ∃ q, p = some ⟨q, 0, none⟩ ∧ St W w' (Ps ++ [Ob.dec6 q (Ln zs)])) := by
  refine (sf_new w v zs hI).mono ?_
  rintro e w' ⟨p, he, hk, h1, h2⟩
  refine ⟨p, he, hk, h.read hk, h1, fun h0 => ?_⟩
  obtain ⟨q, bs, rfl, hd, hb⟩ := h2 h0
  exact ⟨q, rfl, h.push (Ob.dec6 q (Ln zs)) bs hd hk hb⟩
end Go.Proofs.YthmojejiaeninaaGreat
