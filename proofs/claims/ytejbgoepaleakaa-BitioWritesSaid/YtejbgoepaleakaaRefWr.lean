/- Contracts of the document's writer of bits. -/
import Derived.Test.YtejbgoepaleakaaBitWr2
import Derived.Test.YtejbgoepaleakaaRefKit
/-! The document's own writer of bits. -/
namespace Go.Proofs.Ytejbgoepaleakaa
set_option linter.unusedVariables false
set_option linter.unusedSimpArgs false
open Go.ChangeShapes Go.WideShapes Go.ChangeAt Go.RowKit

def bb (b : Bool) : UInt8 := if b then 1 else 0
/-- block q is the document's writer of the bits bs -/
def Rw (w : World) (q : Nat) (v : Value) (bs : List Bool) : Prop := Blk w q #[v] 50 ∧ OwnB w v (bs.map bb) ∧ ∀ b, v.ownBlock = some b → b ≠ q
theorem Rw.keep {w w' : World} {q : Nat} {v : Value} {bs : List Bool} {S : List Nat} (H : Rw w q v bs) (k : Keep S w w') (hq : q ∉ S) (hv : ∀ b, v.ownBlock = some b → b ∉ S) : Rw w' q v bs :=
  ⟨H.1.keep k hq, H.2.1.keep k hv, H.2.2⟩
/-- what a call may leave of a writer -/
def RwTo (w w' : World) (q : Nat) (v : Value) (bs : List Bool) : Prop := ∃ v', Rw w' q v' bs ∧ Keep (q :: v.ownBlock.toList) w w' ∧ ∀ b, v'.ownBlock = some b → v.ownBlock = some b ∨ w.heap.size ≤ b
theorem RwTo.refl {w : World} {q : Nat} {v : Value} {bs : List Bool} (h : Rw w q v bs) : RwTo w w q v bs := ⟨v, h, Keep.refl _ _, fun b hb => .inl hb⟩
theorem RwTo.trans {w w1 w2 : World} {q : Nat} {v v1 : Value} {bs2 : List Bool} (hk : Keep (q :: v.ownBlock.toList) w w1) (hv : ∀ b, v1.ownBlock = some b → v.ownBlock = some b ∨ w.heap.size ≤ b) (h2 : RwTo w1 w2 q v1 bs2) : RwTo w w2 q v bs2 := by
  obtain ⟨v2, hw2, hk2, hv2⟩ := h2
  refine ⟨v2, hw2, hk.trans hk2 ?_, ?_⟩
  · intro b hb
    simp at hb
    rcases hb with rfl | hb
    · left; simp
    · rcases hv b hb with h | h
      · left; simp [h]
      · right; exact h
  · intro b hb
    rcases hv2 b hb with h | h
    · exact hv b h
    · right; have := hk.size; omega
theorem rput_bit (x : Nat) : (UInt8.ofNat (x % 2)).toNat = x % 2 ∧ UInt8.ofNat (x % 2) = bb (x % 2 == 1) := by
  rcases Nat.mod_two_eq_zero_or_one x with h | h <;> rw [h] <;> exact ⟨rfl, rfl⟩
set_option maxHeartbeats 1000000 in
theorem rput_c (w : World) (q : Nat) (v : Value) (bs : List Bool) (y : Nat) (n : Int) (hy : y < 4294967296) (H : Rw w q v bs) (hl : bs.length ≤ 140737488355000) :
    Calls Try.prog 29 #[.pointer (some ⟨q, 0, none⟩), .int .u32 y, .int .i64 n] w fun e w' => e = .returned (.tuple #[]) ∧ RwTo w w' q v (bs ++ bitsOf y (cln n)) := by
  go_enter Try.func29, Try.ntmps29
  go_wp2
  go_loopw [1, 6] (fun a i wr => ∃ k z : Nat, k ≤ cln n ∧ i = .int .i64 k ∧ a = .int .u32 z ∧ z < 4294967296 ∧ Hid (bs ++ bitsOf y (cln n) = (bs ++ bitsOf y k) ++ bitsOf z (cln n - k)) ∧ RwTo w wr q v (bs ++ bitsOf y k)) (fun _ i _ => 32 - (intOf i).toNat)
  case atStart => exact ⟨0, y, by omega, rfl, rfl, hy, by simp [Hid, bitsOf], by simpa [bitsOf] using RwTo.refl H⟩
  case round =>
    obtain ⟨k, z, hk, rfl, rfl, hz, HB, HR⟩ := hrel
    have hkn : k ≤ 32 ∧ ((k : Int) < n ∧ k < 32 ↔ k < cln n) := by unfold cln at hk ⊢; omega
    obtain ⟨hk32, hiff⟩ := hkn
    by_cases hlt : (k : Int) < n ∧ k < 32
    · have hkc := hiff.1 hlt
      obtain ⟨h1, h2⟩ := hlt
      have h2' : (k : Int) < 32 := by omega
      obtain ⟨v1, hw1, hk1, hv1⟩ := HR
      have c0 := hw1.1.cell 0 _ rfl
      obtain ⟨a1, n1, cp1, rfl⟩ := hw1.2.1.shape
      have KA : Keep [] wr (wr.alloc (.cells #[.int .u8 (z % 2)] 5)) := (Keep.refl [] wr).alloc _
      have hO := hw1.2.1.keep KA (by simp)
      have hB := hw1.1.keep KA (by simp)
      have hS : Bs (wr.alloc (.cells #[.int .u8 (z % 2)] 5)) (.slice (some ⟨wr.heap.size, 0, none⟩) 1 1) [bb (z % 2 == 1)] := by
        have := Bs.new1 wr (UInt8.ofNat (z % 2))
        rw [(rput_bit z).1, (rput_bit z).2] at this
        simpa using this
      have hlen : ((bs ++ bitsOf y k).map bb).length + [bb (z % 2 == 1)].length ≤ 140737488355328 := by simp [bitsOf_length]; omega
      have hv1r := hw1.2.2
      have hrlt := hw1.1.lt
      have HB2 : Hid (bs ++ bitsOf y (cln n) = (bs ++ bitsOf y (k + 1)) ++ bitsOf (z / 2) (cln n - (k + 1)) ∧ (bs ++ bitsOf y k) ++ [z % 2 == 1] = bs ++ bitsOf y (k + 1)) := by
        have h3 : cln n - k = (cln n - (k + 1)) + 1 := by omega
        have h4 := HB.out
        rw [h3, bitsOf] at h4
        have h5 : (bs ++ bitsOf y k) ++ [z % 2 == 1] = bs ++ bitsOf y (k + 1) := by
          have h6 : bitsOf y (cln n) = bitsOf y (k + 1) ++ bitsOf (y / 2 ^ (k + 1)) (cln n - (k + 1)) := by rw [← bitsOf_add]; congr 1; omega
          rw [h6, List.append_assoc] at h4
          have h7 := List.append_cancel_left h4
          have h8 : (bitsOf y (k + 1)) = bitsOf y k ++ [z % 2 == 1] := by
            have := List.append_inj (s₁ := bitsOf y (k + 1)) (s₂ := bitsOf y k ++ [z % 2 == 1]) (by simpa using h7) (by simp [bitsOf_length])
            exact this.1
          rw [h8]; simp
        refine ⟨?_, h5⟩
        rw [h4, ← h5]; simp
      have Hv1 := Lib.hid hv1; have Hv1r := Lib.hid hv1r; have Hiff := Lib.hid hiff
      clear hv1 hv1r hiff HB
      go_wp2_with (at_builtin; (refine wpList_appendB (.tmp 22) (.tmp 26) rfl rfl (.slice a1 n1 cp1) _ rfl hO (.slice (some ⟨wr.heap.size, 0, none⟩) 1 1) [bb (z % 2 == 1)] rfl hS hlen ?_); (intro v3 w3 ho3 hk3 hb3 hz3); (obtain ⟨a3, n3, cp3, rfl⟩ := ho3.shape); (have HR3 := hB.keep hk3 (fun hm => Hv1r.out q (by simpa using hm) rfl)); (have d0 := HR3.cell 0 _ rfl); (have g0 := HR3.free 0))
      go_roundw
      case rel =>
        refine ⟨k + 1, z / 2, by omega, by go_num, by go_num, by omega, HB2.out.1, ?_⟩
        refine RwTo.trans hk1 Hv1.out ?_
        have hr3 : ∀ b, (Value.slice a3 n3 cp3).ownBlock = some b → b ≠ q := by
          intro b hb e
          rcases hb3 b hb with h | h
          · exact Hv1r.out b h e
          · simp at h; omega
        refine ⟨.slice a3 n3 cp3, ⟨by simpa using HR3.set 0 (.slice a3 n3 cp3), ?_, hr3⟩, ?_, ?_⟩
        · have e : (bs ++ bitsOf y k).map bb ++ [bb (z % 2 == 1)] = (bs ++ bitsOf y (k + 1)).map bb := by rw [← HB2.out.2]; simp
          rw [← e]
          exact ho3.keep ((Keep.refl [q] _).setCell (by simp) _) (by simpa using hr3)
        · exact ((KA.nil.trans hk3 (fun b hb => .inl (List.mem_cons_of_mem _ hb))).setCell (by simp) _)
        · intro b hb
          rcases hb3 b hb with h | h
          · exact .inl h
          · right; simp at h; omega
      case measure => simp [intOf]; omega
    · have hkc : k = cln n := by omega
      have Hkc := Lib.hid hkc; have Hiff := Lib.hid hiff
      clear hkc hiff
      by_cases h1 : (k : Int) < n
      · have h2 : ¬ (k : Int) < 32 := by omega
        clear hlt
        go_wp2
        go_end0
        exact ⟨rfl, by rw [← Hkc.out]; exact HR⟩
      · clear hlt
        go_wp2
        go_end0
        exact ⟨rfl, by rw [← Hkc.out]; exact HR⟩
set_option maxHeartbeats 1000000 in
theorem ralign8_c (w : World) (q : Nat) (v : Value) (bs : List Bool) (H : Rw w q v bs) (hl : bs.length ≤ 140737488354000) :
    Calls Try.prog 31 #[.pointer (some ⟨q, 0, none⟩)] w fun e w' => e = .returned (.tuple #[]) ∧ RwTo w w' q v (pad8 bs) := by
  go_enter Try.func31, Try.ntmps31
  go_wp2
  go_loopg [] ((8 - bs.length % 8) % 8) (fun g wr => ∃ m, g + m = (8 - bs.length % 8) % 8 ∧ RwTo w wr q v (bs ++ List.replicate m false))
  case atStart => exact ⟨0, by omega, by simpa using RwTo.refl H⟩
  case round =>
    obtain ⟨m, hm, v1, hw1, hk1, hv1⟩ := hrel
    have c0 := hw1.1.cell 0 _ rfl
    obtain ⟨a1, cp1, rfl, hc1, hc2⟩ := hw1.2.1.bs.shape
    have hlen : ((bs ++ List.replicate m false).map bb).length = bs.length + m := by simp
    rw [hlen] at c0 hc1 hw1 hv1
    unfold maxLen at hc2
    have Hv1 := Lib.hid hv1; clear hv1
    by_cases hg : gk = 0
    · have h8 : ((bs.length : Int) + m) % 8 = 0 := by omega
      have hne : (((bs.length : Int) + m) % 8 != 0) = false := by rw [h8]; rfl
      have hp : Hid (pad8 bs = bs ++ List.replicate m false) := by unfold Hid pad8; rw [show m = (8 - bs.length % 8) % 8 by omega]
      clear h8
      go_wp2
      go_end0
      exact ⟨rfl, by rw [hp.out]; exact ⟨_, hw1, hk1, Hv1.out⟩⟩
    · have hne : (((bs.length : Int) + m) % 8 != 0) = true := by simp; omega
      have hp := Lib.hid (rput_c wr q _ _ 0 1 (by decide) hw1 (by simp; omega))
      go_wp2_with fail
      refine hp.out.mono ?_; rintro e w2 ⟨rfl, hR⟩
      go_wp2_with fail
      go_roundg (gk - 1)
      case rel =>
        refine ⟨m + 1, by omega, RwTo.trans hk1 Hv1.out ?_⟩
        have e : bs ++ List.replicate (m + 1) false = (bs ++ List.replicate m false) ++ bitsOf 0 (cln 1) := by
          rw [show cln 1 = 1 from rfl, List.append_assoc, show bitsOf 0 1 = List.replicate 1 false from rfl, List.replicate_append_replicate]
        rw [e]; exact hR
      case measure => omega
set_option maxHeartbeats 1000000 in
theorem rputbytes_c (w : World) (q : Nat) (v : Value) (bs : List Bool) (v2 : Value) (l2 : List UInt8) (H : Rw w q v bs) (hb : Bs w v2 l2) (hdis : l2 ≠ [] → ∀ b, v2.ownBlock = some b → b ≠ q ∧ v.ownBlock ≠ some b) (hl : bs.length + 8 * l2.length ≤ 140737488353000) :
    Calls Try.prog 33 #[.pointer (some ⟨q, 0, none⟩), v2] w fun e w' => e = .returned (.tuple #[]) ∧ RwTo w w' q v (pad8 bs ++ toBits l2) := by
  have hpl := pad8_length bs
  go_enter Try.func33, Try.ntmps33
  go_wp2_with fail
  refine (ralign8_c w q v bs H (by omega)).mono ?_; rintro e w1 ⟨rfl, HR⟩
  obtain ⟨a2, cap2, rfl, hc2, hm2⟩ := hb.shape
  unfold maxLen at hm2
  have Hdis := Lib.hid hdis; have Hpl := Lib.hid hpl; clear hdis hpl
  go_wp2_with fail
  go_loopw [4] (fun i wr => ∃ k : Nat, k ≤ l2.length ∧ i = .int .i64 k ∧ RwTo w wr q v (pad8 bs ++ toBits (l2.take k))) (fun i _ => l2.length - (intOf i).toNat)
  case atStart => exact ⟨0, by omega, rfl, by simpa [toBits] using HR⟩
  case round =>
    obtain ⟨k, hk, rfl, v1, hw1, hk1, hv1⟩ := hrel
    have Hv1 := Lib.hid hv1; clear hv1
    by_cases hlt : k < l2.length
    · rcases hb.cases with ⟨rfl, _⟩ | ⟨_, b, off, cap, h, _, _, hbl, hcell⟩
      · simp at hlt
      · simp only [Value.slice.injEq] at h
        obtain ⟨rfl, _, rfl⟩ := h
        have hd := Hdis.out (by intro e; rw [e] at hlt; simp at hlt) b rfl
        have e1 : wr.cell? ⟨b, off + k, none⟩ = some (.int .u8 (l2[k].toNat)) := hk1.cell (hcell k hlt) (by simp; exact ⟨hd.1, fun h => hd.2 h⟩)
        have hb1 : l2[k].toNat < 256 := l2[k].toNat_lt
        have hlen : ((pad8 bs) ++ toBits (l2.take k)).length ≤ 140737488355000 := by
          rw [List.length_append, toBits_length, Hpl.out, List.length_take]; omega
        have HT : Hid (pad8 bs ++ toBits (l2.take (k + 1)) = (pad8 bs ++ toBits (l2.take k)) ++ bitsOf (l2[k].toNat) (cln 8)) := by
          unfold Hid; rw [List.take_succ_eq_append_getElem hlt, toBits_append]; simp [toBits]; rfl
        have hp := Lib.hid (rput_c wr q v1 _ (l2[k].toNat) 8 (by omega) hw1 hlen)
        generalize l2[k].toNat = x at e1 hb1 HT hp
        clear hcell hd
        go_wp2_with fail
        refine hp.out.mono ?_; rintro e w2 ⟨rfl, hR⟩
        go_wp2_with fail
        go_roundw
        case rel => exact ⟨k + 1, by omega, by go_num, by rw [HT.out]; exact RwTo.trans hk1 Hv1.out hR⟩
        case measure => simp [intOf]; omega
    · have ht : Hid (l2.take k = l2) := List.take_of_length_le (by omega)
      go_wp2
      go_end0
      exact ⟨rfl, v1, by rw [ht.out] at hw1; exact hw1, hk1, Hv1.out⟩
theorem bb_nat (bs : List Bool) (i : Nat) (h : i < bs.length) : ((bs.map bb)[i]'(by simpa using h)).toNat = nb bs i := by
  unfold nb
  rw [List.getD_eq_getElem?_getD, List.getElem?_eq_getElem h]
  simp only [List.getElem_map, Option.getD_some]
  cases bs[i] <;> rfl
set_option maxHeartbeats 2000000 in
theorem rwbytes_c (w : World) (q : Nat) (v : Value) (bs : List Bool) (H : Rw w q v bs) (hl : bs.length ≤ 140737488353000) :
    Calls Try.prog 35 #[.pointer (some ⟨q, 0, none⟩)] w fun e w' => ∃ v' l', e = .returned v' ∧ OwnB w' v' l' ∧ toBits l' = pad8 bs ∧ Keep [] w w' ∧ ∀ b, v'.ownBlock = some b → w.heap.size ≤ b := by
  have hpl := Lib.hid (pad8_length bs)
  obtain ⟨a, cap, rfl, hc, hm⟩ := H.2.1.bs.shape
  have hll : (bs.map bb).length = bs.length := by simp
  rw [hll] at H hc
  unfold maxLen at hm
  have Hll := Lib.hid hll; clear hll
  go_enter Try.func35, Try.ntmps35
  go_wp2
  go_loopw [3, 4] (fun o i wr => ∃ (j J : Nat) (l' : List UInt8), J ≤ bs.length + 7 ∧ Hid (J = 8 * j) ∧ i = .int .i64 J ∧ OwnB wr o l' ∧ Hid (toBits l' = (pad8 bs).take J) ∧ l'.length = j ∧ Keep [] w wr ∧ (∀ b, o.ownBlock = some b → w.heap.size ≤ b)) (fun _ i _ => bs.length + 8 - (intOf i).toNat)
  case atStart => exact ⟨0, 0, [], by omega, rfl, rfl, OwnB.nil _, by simp [Hid, toBits], rfl, Keep.refl _ _, by simp [Value.ownBlock]⟩
  case round =>
    obtain ⟨j, J, l', hj, HJ, rfl, ho, HT, hlj, K1, hv⟩ := hrel
    have hw1 := H.keep K1 (by simp) (by simp)
    have c0 := hw1.1.cell 0 _ rfl
    have Hv := Lib.hid hv; clear hv
    have Hlj := Lib.hid hlj; clear hlj
    by_cases hlt : J < bs.length
    · go_wp2
      go_loop [5, 6] (fun c i => ∃ (k x : Nat), k ≤ 8 ∧ i = .int .i64 (k - 1) ∧ c = .int .u8 x ∧ Hid (x = nv bs (J + k) (8 - k)) ∧ x < 2 ^ (8 - k)) (fun _ i => (intOf i + 1).toNat)
      case atStart => exact ⟨8, 0, by omega, rfl, rfl, rfl, by decide⟩
      case round =>
        obtain ⟨k, x, hk, rfl, rfl, HX, hx⟩ := hrel
        by_cases hk0 : 0 < k
        · obtain ⟨k, rfl⟩ : ∃ k', k = k' + 1 := ⟨k - 1, by omega⟩
          have hkk : (((k + 1 : Nat) : Int) - 1) = k := by omega
          rw [hkk]
          have hx2 : x < 128 := Nat.lt_of_lt_of_le hx (Nat.pow_le_pow_right (n := 2) (j := 7) (by decide) (by omega))
          have hstep : nv bs (J + k) (8 - k) = x * 2 + nb bs (J + k) := by
            rw [HX.out, show 8 - k = (8 - (k + 1)) + 1 by omega, nv]; rfl
          have hn2 : x * 2 + nb bs (J + k) < 2 ^ (8 - k) := by rw [← hstep]; exact nv_lt _ _ _
          have Hstep := Lib.hid hstep; have Hn2 := Lib.hid hn2; have hnb := nb_lt bs (J + k)
          clear hstep hn2 hkk hx
          by_cases hin : J + k < bs.length
          · rcases H.2.1.cases with ⟨h1, _⟩ | ⟨g, cap', h1, _, _, hcell, hg⟩
            · simp only [Value.slice.injEq] at h1; omega
            · simp only [Value.slice.injEq] at h1
              obtain ⟨rfl, hxx, rfl⟩ := h1
              clear hxx
              have e1 := K1.cell (hcell (J + k) (by rw [Hll.out]; exact hin)) (by simp)
              rw [bb_nat bs _ hin] at e1
              generalize nb bs (J + k) = y at e1 Hstep Hn2 hnb
              clear hcell
              go_wp2
              go_round
              case rel => exact ⟨k, x * 2 + y, by omega, by go_num, by go_num, Hstep.out.symm, Hn2.out⟩
              case measure => simp [intOf] <;> omega
          · have hz : nb bs (J + k) = 0 := by
              unfold nb; rw [List.getD_eq_getElem?_getD, List.getElem?_eq_none (by omega)]; rfl
            rw [hz] at Hstep Hn2 hnb
            clear hz
            go_wp2
            go_round
            case rel => exact ⟨k, x * 2 + 0, by omega, by go_num, by go_num, Hstep.out.symm, Hn2.out⟩
            case measure => simp [intOf] <;> omega
        · obtain rfl : k = 0 := by omega
          have hx8 : x < 256 := hx
          have hseg := Lib.hid (show (pad8 bs).take (8 * (j + 1)) = (pad8 bs).take J ++ bitsOf (nv bs J 8) 8 by rw [HJ.out]; exact pad8_seg bs j (by rw [← HJ.out]; exact hlt))
          have hT : Hid (toBits (l' ++ [UInt8.ofNat x]) = (pad8 bs).take (8 * (j + 1))) := by
            unfold Hid; rw [toBits_append, hseg.out, HT.out, toBits_one x hx8, HX.out]; rfl
          have KA : Keep [] wr (wr.alloc (.cells #[.int .u8 x] 5)) := (Keep.refl [] wr).alloc _
          have hO := ho.keep KA (by simp)
          have hS : Bs (wr.alloc (.cells #[.int .u8 x] 5)) (.slice (some ⟨wr.heap.size, 0, none⟩) 1 1) [UInt8.ofNat x] := by
            have := Bs.new1 wr (UInt8.ofNat x)
            rwa [show (UInt8.ofNat x).toNat = x by simp [UInt8.toNat_ofNat']; omega] at this
          have hlen : l'.length + [UInt8.ofNat x].length ≤ 140737488355328 := by have := HJ.out; rw [Hlj.out]; simp; omega
          clear hx
          go_wp2_with (at_builtin; (refine wpList_appendB (.tmp 42) (.tmp 44) rfl rfl u3 l' rfl hO (.slice (some ⟨wr.heap.size, 0, none⟩) 1 1) [UInt8.ofNat x] rfl hS hlen ?_); (intro v3 w3 ho3 hk3 hb3 hz3))
          go_roundw
          case rel => exact ⟨j + 1, J + 8, _, by omega, by unfold Hid; rw [HJ.out]; omega, by go_num, ho3, by unfold Hid; rw [hT.out, HJ.out]; rfl, by rw [List.length_append, Hlj.out]; rfl, (K1.trans KA (by simp)).trans hk3 (fun b hb => .inr (Hv.out b (by simpa using hb))), fun b hb => by
            rcases hb3 b hb with h | h
            · exact Hv.out b h
            · have := K1.size; simp at h; omega⟩
          case measure => simp [intOf]; omega
    · have ht : Hid ((pad8 bs).take (J) = pad8 bs) := List.take_of_length_le (by have := HJ.out; rw [hpl.out]; omega)
      go_wp2
      go_ret
      exact ⟨_, l', rfl, ho, by rw [HT.out, ht.out], K1, Hv.out⟩
end Go.Proofs.Ytejbgoepaleakaa
