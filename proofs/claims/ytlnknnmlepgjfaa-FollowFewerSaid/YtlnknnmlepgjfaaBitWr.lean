/- Contracts of Put, Len and New of bitio.Writer. -/
import Derived.Test.YtlnknnmlepgjfaaAppend
import Derived.Test.YtlnknnmlepgjfaaBitWrMath
import Derived.Test.YtlnknnmlepgjfaaBitLives
namespace Go.Proofs.Ytlnknnmlepgjfaa
set_option linter.unusedVariables false
set_option linter.unusedSimpArgs false
set_option maxRecDepth 100000
open Go.ChangeShapes Go.WideShapes Go.ChangeAt Go.RowKit

/-- block r is a writer: whole bytes in the slice v, h bits x behind them -/
def Wt (w : World) (r : Nat) (v : Value) (l : List UInt8) (x h : Nat) : Prop :=
  Blk w r #[v, .int .u64 x, .int .i64 h] 52 ∧ OwnB w v l ∧ x < 2 ^ h ∧ (∀ b, v.ownBlock = some b → b ≠ r)
theorem Wt.keep {w w' : World} {r : Nat} {v : Value} {l : List UInt8} {x h : Nat} {S : List Nat} (H : Wt w r v l x h) (k : Keep S w w') (hr : r ∉ S) (hv : ∀ b, v.ownBlock = some b → b ∉ S) : Wt w' r v l x h :=
  ⟨H.1.keep k hr, H.2.1.keep k hv, H.2.2⟩

theorem Bs.new1' (w : World) (x : Nat) : Bs (w.alloc (.cells #[.int .u8 (IntKind.u8.wrap x)] 5)).drew (.slice (some ⟨w.heap.size, 0, none⟩) 1 1) [UInt8.ofNat x] := by
  have e : IntKind.u8.wrap x = ((UInt8.ofNat x).toNat : Int) := by
    rw [IntKind.wrap_u8']; simp [UInt8.toNat_ofNat']
  rw [e]
  exact (Bs.new1 w (UInt8.ofNat x)).keep ((Keep.refl [] _).drew) (by simp)
theorem Bs.new1'' (w : World) (x : Nat) : Bs (w.alloc (.cells #[.int .u8 (IntKind.u8.wrap x)] 5)) (.slice (some ⟨w.heap.size, 0, none⟩) 1 1) [UInt8.ofNat x] := by
  have e : IntKind.u8.wrap x = ((UInt8.ofNat x).toNat : Int) := by
    rw [IntKind.wrap_u8']; simp [UInt8.toNat_ofNat']
  rw [e]
  exact Bs.new1 w (UInt8.ofNat x)
theorem put_rest (x h y n : Nat) (hy : y < 4294967296) (hx : x < 2 ^ h) (hh : h < 8) (hn : n ≤ 32) : Go.bits .or .u64 (x : Int) (IntKind.u64.wrap (Go.bits .and .u64 (y : Int) (IntKind.u64.wrap (IntKind.u64.wrap (2 ^ n) - 1)) * 2 ^ h)) = ((x + (y % 2 ^ n) * 2 ^ h : Nat) : Int) := by
  rw [mask_low y n hy hn]
  have h1 : y % 2 ^ n < 2 ^ n := Nat.mod_lt _ (Nat.two_pow_pos n)
  have h2 : 2 ^ n ≤ 2 ^ 32 := Nat.pow_le_pow_right (by decide) hn
  have h3 : 2 ^ h ≤ 2 ^ 7 := Nat.pow_le_pow_right (by decide) (by omega)
  have h4 : y % 2 ^ n * 2 ^ h ≤ 2 ^ 32 * 2 ^ 7 := Nat.mul_le_mul (by omega) h3
  have e : IntKind.u64.wrap (((y % 2 ^ n : Nat) : Int) * 2 ^ h) = ((y % 2 ^ n * 2 ^ h : Nat) : Int) := by
    rw [show ((y % 2 ^ n : Nat) : Int) * 2 ^ h = ((y % 2 ^ n * 2 ^ h : Nat) : Int) by simp, IntKind.wrap_u64]
    generalize y % 2 ^ n * 2 ^ h = q at h4
    omega
  rw [e, u64_or_nat _ _ (by omega) (by omega), Nat.or_comm, nat_join h _ _ (by simp) hx, Nat.add_comm]
theorem put_round (w wr w2 : World) (r : Nat) (v : Value) (l l' : List UInt8) (x' gk : Nat) (a' a2 : Option Addr) (n' n2 cp' cp2 : Nat) (B : List Bool) (HW : Wt wr r (.slice a' n' cp') l' x' gk) (hg : gk ≤ 39) (h8 : 8 ≤ gk)
    (hlen : l'.length + gk / 8 ≤ l.length + 4) (HB' : Hid (toBits l' ++ bitsOf x' gk = B)) (KK : Keep (r :: v.ownBlock.toList) w wr) (hv : ∀ b, (Value.slice a' n' cp').ownBlock = some b → v.ownBlock = some b ∨ w.heap.size ≤ b)
    (KA : Keep [] wr (wr.alloc (.cells #[.int .u8 (IntKind.u8.wrap ↑x')] 5)).drew)
    (HR2 : Blk w2 r #[.slice a' n' cp', .int .u64 x', .int .i64 gk] 52) (hk2 : Keep (Value.slice a' n' cp').ownBlock.toList (wr.alloc (.cells #[.int .u8 (IntKind.u8.wrap ↑x')] 5)).drew w2)
    (ho2 : OwnB w2 (.slice a2 n2 cp2) (l' ++ [UInt8.ofNat x'])) (hb2 : ∀ b, (Value.slice a2 n2 cp2).ownBlock = some b → (Value.slice a' n' cp').ownBlock = some b ∨ b = (wr.alloc (.cells #[.int .u8 (IntKind.u8.wrap ↑x')] 5)).drew.heap.size) :
    ∃ v3 l3 x3, Wt (((w2.setCell ⟨r, 0, none⟩ (.slice a2 n2 cp2)).setCell ⟨r, 1, none⟩ (.int .u64 (↑x' / 256))).setCell ⟨r, 2, none⟩ (.int .i64 (↑gk - 8))) r v3 l3 x3 (gk - 8) ∧ gk - 8 ≤ 39 ∧ l3.length + (gk - 8) / 8 ≤ l.length + 4 ∧ Hid (toBits l3 ++ bitsOf x3 (gk - 8) = B) ∧
      Keep (r :: v.ownBlock.toList) w (((w2.setCell ⟨r, 0, none⟩ (.slice a2 n2 cp2)).setCell ⟨r, 1, none⟩ (.int .u64 (↑x' / 256))).setCell ⟨r, 2, none⟩ (.int .i64 (↑gk - 8))) ∧ (∀ b, v3.ownBlock = some b → v.ownBlock = some b ∨ w.heap.size ≤ b) := by
  have hr2 : ∀ b, (Value.slice a2 n2 cp2).ownBlock = some b → b ≠ r := by
    intro b hb e
    rcases hb2 b hb with h | h
    · exact HW.2.2.2 b h e
    · have := HW.1.lt; simp at h; omega
  have hs : ∀ b, (Value.slice a2 n2 cp2).ownBlock = some b → v.ownBlock = some b ∨ w.heap.size ≤ b := by
    intro b hb
    rcases hb2 b hb with h | h
    · exact hv b h
    · right; have := KK.size; simp at h; omega
  have hK : Keep [r] w2 (((w2.setCell ⟨r, 0, none⟩ (.slice a2 n2 cp2)).setCell ⟨r, 1, none⟩ (.int .u64 (↑x' / 256))).setCell ⟨r, 2, none⟩ (.int .i64 (↑gk - 8))) :=
    (((Keep.refl [r] w2).setCell (by simp) _).setCell (by simp) _).setCell (by simp) _
  refine ⟨.slice a2 n2 cp2, l' ++ [UInt8.ofNat x'], x' / 256, ⟨?_, ho2.keep hK (by simpa using hr2), ?_, hr2⟩, by omega, ?_, ?_, ?_, hs⟩
  · have := ((HR2.set 0 (.slice a2 n2 cp2)).set 1 (.int .u64 (↑x' / 256))).set 2 (.int .i64 (↑gk - 8))
    rw [show ((gk - 8 : Nat) : Int) = gk - 8 by omega]
    simpa using this
  · have h1 : x' < 2 ^ gk := HW.2.2.1
    rw [Nat.div_lt_iff_lt_mul (by decide), show (256 : Nat) = 2 ^ 8 from rfl, ← Nat.pow_add, show gk - 8 + 8 = gk by omega]
    exact h1
  · simp; omega
  · unfold Hid
    rw [← HB'.out, toBits_append, List.append_assoc]
    congr 1
    have h3 := bitsOf_add x' 8 (gk - 8)
    rw [show 8 + (gk - 8) = gk by omega] at h3
    rw [h3]
    simp only [toBits, List.append_nil]
    congr 1
    rw [← bitsOf_mod x' 8]
    simp [UInt8.toNat_ofNat']
  · have h1 : Keep (r :: v.ownBlock.toList) w (wr.alloc (.cells #[.int .u8 (IntKind.u8.wrap ↑x')] 5)).drew := KK.trans KA (by simp)
    have h2 : Keep (r :: v.ownBlock.toList) w w2 := h1.trans hk2 (by
      intro b hb
      have hb' : (Value.slice a' n' cp').ownBlock = some b := by simpa using hb
      rcases hv b hb' with h | h
      · left; simp [h]
      · right; exact h)
    exact h2.trans hK (by simp)
theorem put_c (w : World) (r : Nat) (v : Value) (l : List UInt8) (x h : Nat) (y : Nat) (n : Int) (hy : y < 4294967296) (H : Wt w r v l x h) (hh : h < 8) (hl : l.length + 5 ≤ 140737488355328) :
    Calls Try.prog 23 #[.pointer (some ⟨r, 0, none⟩), .int .u32 y, .int .i64 n] w fun e w' => ∃ v' l' x' h', e = .returned (.tuple #[]) ∧ Wt w' r v' l' x' h' ∧ h' < 8 ∧ toBits l' ++ bitsOf x' h' = (toBits l ++ bitsOf x h) ++ bitsOf y (max 0 (min n 32)).toNat ∧
      Keep (r :: v.ownBlock.toList) w w' ∧ (∀ b, v'.ownBlock = some b → v.ownBlock = some b ∨ w.heap.size ≤ b) := by
  obtain ⟨c, hc⟩ : ∃ c : Nat, max 0 (min n 32) = c := ⟨(max 0 (min n 32)).toNat, by omega⟩
  have hc2 : c ≤ 32 := by omega
  have HC := Lib.hid hc; clear hc
  have c0 := H.1.cell 0 _ rfl
  have c1 := H.1.cell 1 _ rfl
  have c2 := H.1.cell 2 _ rfl
  have f1 := H.1.free 1
  have f2 := H.1.free 2
  go_enter Try.func23, Try.ntmps23
  go_wp2_with fail
  refine (clamp_c _ _).mono ?_; rintro e w' ⟨rfl, rfl⟩
  rw [HC.out]
  go_wp2_with fail
  go_still_tail 18, (by kernel_rfl)
  have K2 : Keep [] w w.drew := (Keep.refl [] w).drew
  have H2 := H.keep K2 (by simp) (by simp)
  change wpList _ _ _ _ _ w.drew
  generalize w.drew = w2 at H2 K2 ⊢
  clear c0 c1 c2 f1 f2
  have c1 := H2.1.cell 1 _ rfl
  have c2 := H2.1.cell 2 _ rfl
  have f1 := H2.1.free 1
  have f2 := H2.1.free 2
  go_wp2
  obtain ⟨w3, hw3⟩ : ∃ w3 : World, w3 = (w2.setCell { block := r, off := 1 } (Value.int IntKind.u64 (bits BinOp.or IntKind.u64 (↑x) (IntKind.u64.wrap (bits BinOp.and IntKind.u64 (↑y) (IntKind.u64.wrap (IntKind.u64.wrap (2 ^ c) - 1)) * 2 ^ h))))).setCell
      { block := r, off := 2 } (Value.int IntKind.i64 (↑h + ↑c)) := ⟨_, rfl⟩
  rw [← hw3]
  have K3 : Keep [r] w w3 := by rw [hw3]; exact (K2.nil.setCell (by simp) _).setCell (by simp) _
  have H3 : Wt w3 r v l (x + (y % 2 ^ c) * 2 ^ h) (h + c) := by
    rw [hw3, put_rest x h y c hy H.2.2.1 hh hc2]
    refine ⟨by simpa using (H2.1.set 1 _).set 2 _, ?_, ?_, H2.2.2.2⟩
    · exact H2.2.1.keep (((Keep.refl [r] w2).setCell (by simp) _).setCell (by simp) _) (by simpa using H2.2.2.2)
    · have : x < 2 ^ h := H.2.2.1
      have h2 : y % 2 ^ c < 2 ^ c := Nat.mod_lt _ (Nat.two_pow_pos c)
      rw [Nat.pow_add]
      calc x + y % 2 ^ c * 2 ^ h < 2 ^ h + y % 2 ^ c * 2 ^ h := by omega
        _ = (y % 2 ^ c + 1) * 2 ^ h := by rw [Nat.add_mul]; omega
        _ ≤ 2 ^ c * 2 ^ h := Nat.mul_le_mul_right _ (by omega)
        _ = 2 ^ h * 2 ^ c := Nat.mul_comm _ _
  have HB : Hid (toBits l ++ bitsOf (x + (y % 2 ^ c) * 2 ^ h) (h + c) = (toBits l ++ bitsOf x h) ++ bitsOf y c) := by
    unfold Hid; rw [bitsOf_shift _ _ _ _ H.2.2.1, bitsOf_mod, List.append_assoc]
  clear hw3 c1 c2 f1 f2 H2 K2
  go_loopg [] (h + c) (fun g wr => ∃ v' l' x', Wt wr r v' l' x' g ∧ g ≤ 39 ∧ l'.length + g / 8 ≤ l.length + 4 ∧ Hid (toBits l' ++ bitsOf x' g = (toBits l ++ bitsOf x h) ++ bitsOf y c) ∧ Keep (r :: v.ownBlock.toList) w wr ∧ (∀ b, v'.ownBlock = some b → v.ownBlock = some b ∨ w.heap.size ≤ b))
  case atStart => exact ⟨v, l, _, H3, by omega, by omega, HB, K3.mono (by simp), fun b hb => .inl hb⟩
  case round =>
    obtain ⟨v', l', x', HW, hg, hlen, HB', KK, hv⟩ := hrel
    have c0 := HW.1.cell 0 _ rfl
    have c1 := HW.1.cell 1 _ rfl
    have c2 := HW.1.cell 2 _ rfl
    have f0 := HW.1.free 0
    have f1 := HW.1.free 1
    have f2 := HW.1.free 2
    by_cases h8 : 8 ≤ gk
    · go_wp2
      obtain ⟨a', n', cp', rfl⟩ := HW.2.1.shape
      have KA : Keep [] wr (wr.alloc (.cells #[.int .u8 (IntKind.u8.wrap ↑x')] 5)).drew := ((Keep.refl [] wr).alloc _).drew
      have HO := HW.2.1.keep KA (by simp)
      have HR := HW.1.keep KA (by simp)
      have HS : Bs (wr.alloc (.cells #[.int .u8 (IntKind.u8.wrap ↑x')] 5)).drew (.slice (some ⟨wr.heap.size, 0, none⟩) 1 1) [UInt8.ofNat x'] := Bs.new1' _ _
      have hll : l'.length + 1 ≤ 140737488355328 := by omega
      have hrv := HW.2.2.2
      have hA0 : (wr.alloc (.cells #[.int .u8 (IntKind.u8.wrap ↑x')] 5)).cell? ⟨r, 0, none⟩ = some (.slice a' n' cp') := (HW.1.alloc _).cell 0 _ rfl
      go_region_law ((refine step_appendB (.tmp 45) (.tmp 51) rfl rfl (.slice a' n' cp') l' rfl HO (.slice (some ⟨wr.heap.size, 0, none⟩) 1 1) [UInt8.ofNat x'] rfl HS hll ?_); (intro v2 w2 ho2 hk2 hb2 hz2); (obtain ⟨a2, n2, cp2, rfl⟩ := ho2.shape); (have HR2 := HR.keep hk2 (fun hm => hrv r (by simpa using hm) rfl)); (have d0 := HR2.cell 0 _ rfl); (have g0 := HR2.free 0))
      all_goals
        have HR3 := HR2.set 0 (.slice a2 n2 cp2)
        have e0 := HR3.cell 0 _ rfl
        have e1 := HR3.cell 1 _ rfl
        have e2 := HR3.cell 2 _ rfl
        have q1 := HR3.free 1
        have q2 := HR3.free 2
        go_wp2
        go_roundg (gk - 8)
        case rel => exact put_round w wr w2 r v l l' x' gk a' a2 n' n2 cp' cp2 _ HW hg h8 hlen HB' KK hv KA HR2 hk2 ho2 hb2
        case measure => omega
    · go_wp2
      go_end0
      exact ⟨v', l', x', gk, rfl, HW, by omega, by rw [HB'.out, HC.out]; rfl, KK, hv⟩

/-- block r is a writer that has written the bits bs -/
def Wr (w : World) (r : Nat) (v : Value) (bs : List Bool) : Prop := ∃ l x h, Wt w r v l x h ∧ h < 8 ∧ bs = toBits l ++ bitsOf x h
theorem Wr.keep {w w' : World} {r : Nat} {v : Value} {bs : List Bool} {S : List Nat} (H : Wr w r v bs) (k : Keep S w w') (hr : r ∉ S) (hv : ∀ b, v.ownBlock = some b → b ∉ S) : Wr w' r v bs := by
  obtain ⟨l, x, h, h1, h2, h3⟩ := H
  exact ⟨l, x, h, h1.keep k hr hv, h2, h3⟩
def cln (n : Int) : Nat := (max 0 (min n 32)).toNat
theorem wput_c (w : World) (r : Nat) (v : Value) (bs : List Bool) (y : Nat) (n : Int) (hy : y < 4294967296) (H : Wr w r v bs) (hl : bs.length ≤ 1125899906842000) :
    Calls Try.prog 23 #[.pointer (some ⟨r, 0, none⟩), .int .u32 y, .int .i64 n] w fun e w' => ∃ v', e = .returned (.tuple #[]) ∧ Wr w' r v' (bs ++ bitsOf y (cln n)) ∧
      Keep (r :: v.ownBlock.toList) w w' ∧ (∀ b, v'.ownBlock = some b → v.ownBlock = some b ∨ w.heap.size ≤ b) := by
  obtain ⟨l, x, h, h1, h2, rfl⟩ := H
  refine (put_c w r v l x h y n hy h1 h2 (by simp [toBits_length, bitsOf_length] at hl; omega)).mono ?_
  rintro e w' ⟨v', l', x', h', he, hw, hh, hb, hk, hv⟩
  exact ⟨v', he, ⟨l', x', h', hw, hh, hb.symm⟩, hk, hv⟩
theorem put_nil (w : World) (y n : Int) : Calls Try.prog 23 #[.pointer none, .int .u32 y, .int .i64 n] w fun e w' => e = .returned (.tuple #[]) ∧ w = w' := by
  go_enter Try.func23, Try.ntmps23
  go_wp2
  refine bodyPost_ret (results_none rfl _ _ _) rfl ?_
  exact ⟨rfl, rfl⟩
theorem wlen_nil (w : World) : Calls Try.prog 14 #[.pointer none] w fun e w' => e = .returned (.int .i64 0) ∧ w = w' := by
  go_enter Try.func14, Try.ntmps14
  go_wp2
  go_ret
  exact ⟨rfl, rfl⟩
theorem new_c (w : World) : Calls Try.prog 11 #[] w fun e w' => ∃ r, e = .returned (.pointer (some ⟨r, 0, none⟩)) ∧ Wr w' r (.slice none 0 0) [] ∧ Keep [] w w' ∧ w.heap.size ≤ r := by
  go_enter Try.func11, Try.ntmps11
  go_wp2
  go_ret
  exact ⟨w.heap.size, rfl, ⟨[], 0, 0, ⟨Blk.new _ _ _, OwnB.nil _, by decide, by simp [Value.ownBlock]⟩, by decide, rfl⟩, (Keep.refl _ _).alloc _, Nat.le_refl _⟩
theorem wlen_c (w : World) (r : Nat) (v : Value) (bs : List Bool) (H : Wr w r v bs) (hl : bs.length ≤ 1125899906842600) : Calls Try.prog 14 #[.pointer (some ⟨r, 0, none⟩)] w fun e w' => e = .returned (.int .i64 bs.length) ∧ ∃ n, w' = w.drewN n := by
  obtain ⟨l, x, h, h1, h2, rfl⟩ := H
  have c0 := h1.1.cell 0 _ rfl
  have c2 := h1.1.cell 2 _ rfl
  obtain ⟨a, cap, rfl, _⟩ := h1.2.1.bs
  have hlen : (toBits l ++ bitsOf x h).length = 8 * l.length + h := by simp [toBits_length, bitsOf_length]
  rw [hlen] at hl
  have HF : Hid ((((toBits l ++ bitsOf x h).length : Nat) : Int) = 8 * l.length + h) := by rw [hlen]; simp [Hid]
  clear hlen
  go_enter Try.func14, Try.ntmps14
  go_wp2_with fail
  go_quiet (fail)
  go_wp2
  go_ret
  exact ⟨by rw [HF.out]; rfl, _, rfl⟩
end Go.Proofs.Ytlnknnmlepgjfaa
