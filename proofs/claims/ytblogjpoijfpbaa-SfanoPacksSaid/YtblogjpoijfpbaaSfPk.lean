/- Contract of sfano's Pack. -/
import Derived.Test.YtblogjpoijfpbaaSf1
import Derived.Test.YtblogjpoijfpbaaSfRow
import Derived.Test.YtblogjpoijfpbaaIsFrom
import Derived.Test.YtblogjpoijfpbaaRefSf4
import Derived.Test.YtblogjpoijfpbaaBitMath
namespace Go.Proofs.Ytblogjpoijfpbaa
set_option linter.unusedVariables false
set_option linter.unusedSimpArgs false
open Go.ChangeShapes Go.WideShapes Go.ChangeAt Go.RowKit

def sln : Value → Nat
  | .slice _ n _ => n
  | _ => 0
theorem or16 : ∀ a : Fin 16, ∀ b : Fin 16, a.val * 16 ||| b.val = a.val * 16 + b.val := by decide
theorem orI (a b : Nat) (ha : a < 16) (hb : b < 16) : Go.bits .or .i64 ((a : Int) * 16) (b : Int) = ((a * 16 + b : Nat) : Int) := by
  have h : Go.bits .or .i64 ((a * 16 : Nat) : Int) (b : Int) = ((a * 16 ||| b : Nat) : Int) := by
    have hx : a * 16 ||| b < 2 ^ 62 := Nat.or_lt_two_pow (by omega) (by omega)
    show IntKind.i64.wrap ((BitVec.ofInt 64 ((a * 16 : Nat) : Int) ||| BitVec.ofInt 64 (b : Int)).toNat : Int) = _
    rw [BitVec.toNat_or, ofInt_u64 _ (by omega), ofInt_u64 b (by omega), IntKind.wrap_i64]
    omega
  rw [or16 ⟨a, ha⟩ ⟨b, hb⟩] at h
  rw [← h]; simp
theorem Ln_drop (zs : List Int) (n : Nat) : Ln (zs.drop n) = (Ln zs).drop n := by simp [Ln]
set_option maxRecDepth 100000 in
theorem pack_arg (w : World) (v : Value) (zs : List Int) (h : Is .i64 w v zs) (hm : mayS zs = false) : Calls Try.prog 16 #[v] w fun e w' => e = .returned (.tuple #[.slice none 0 0, .int .i64 2]) ∧ Keep [] w w' := by
  have HM := Lib.hid (smaybe_c _ _ zs h)
  rw [hm] at HM
  clear h
  go_enter Try.func16, Try.ntmps16
  go_wp2_with fail
  refine HM.out.mono ?_; rintro e w1 ⟨rfl, n, rfl⟩
  clear HM
  go_wp2_with fail
  go_ret2
  exact ⟨rfl, (Keep.refl [] w).drewN n⟩
/-- what Pack's loop holds between its rounds -/
structure PkS (w : World) (zs ys : List Int) (v b : Value) (out : List UInt8) (wr : World) : Prop where
  isv : Is .i64 wr v ys
  own : OwnB wr b out
  all : ∀ z ∈ ys, 1 ≤ z ∧ z ≤ 16
  len : ys.length ≤ 256
  olen : out.length + ys.length ≤ 257
  eq : [0] ++ pk 1 (Ln zs) = out ++ pk 1 (Ln ys)
  keep : Keep [] w wr
  vb : ys ≠ [] → ∀ x, v.ownBlock = some x → x < w.heap.size
  bb : ∀ x, b.ownBlock = some x → w.heap.size ≤ x
set_option maxRecDepth 100000 in
set_option maxHeartbeats 4000000 in
theorem pack_ok (w : World) (v : Value) (zs : List Int) (h : Is .i64 w v zs) (hm : mayS zs = true) : Calls Try.prog 16 #[v] w fun e w' => ∃ v', e = .returned (.tuple #[v', .int .i64 0]) ∧ Bs w' v' (packL (Ln zs)) ∧ Keep [] w w' ∧ (∀ b, v'.ownBlock = some b → w.heap.size ≤ b) := by
  have HM := Lib.hid (smaybe_c _ _ zs h)
  rw [hm] at HM
  obtain ⟨m1, m2, m3⟩ := (mayS_iff zs).1 hm
  have HV := Lib.hid h
  have HA := Lib.hid m3
  clear h m3 hm
  obtain ⟨a, cap, rfl, hl⟩ := HV.out.sh
  go_enter Try.func16, Try.ntmps16
  go_wp2_with fail
  refine HM.out.mono ?_; rintro e w1 ⟨rfl, n, rfl⟩
  clear HM
  go_wp2_with fail
  have hS0 : Hid (PkS w zs zs (.slice a zs.length cap) (.slice (some ⟨(w.drewN n).heap.size, 0, none⟩) 1 1) [0] ((w.drewN n).alloc (.cells #[.int .u8 0] 5))) := by
    have K := ((Keep.refl [] w).drewN n).alloc (.cells #[.int .u8 0] 5)
    have ho := OwnB.one (w.drewN n) 0
    refine ⟨HV.out.keep K (by simp), ho, HA.out, m2, by simp; omega, rfl, K, fun hne x hx => ?_, fun x hx => ?_⟩
    · cases a with
      | none => simp [Value.ownBlock] at hx
      | some y =>
        obtain ⟨g, off, c, e1, e2⟩ := HV.out.at 0 m1
        simp only [Value.slice.injEq] at e1
        rw [e1.1] at hx
        obtain rfl : g = x := by simpa [Value.ownBlock] using hx
        apply Decidable.byContradiction
        intro hn
        have : w.heap[g]? = none := by rw [Array.getElem?_eq_none_iff]; omega
        simp [World.cell?, this] at e2
    · have : (w.drewN n).heap.size = x := by simpa [Value.ownBlock] using hx
      rw [← this]; exact ((Keep.refl [] w).drewN n).size
  generalize ((w.drewN n).alloc (.cells #[.int .u8 0] 5)) = w2 at hS0 ⊢
  rw [show (w.drewN n).heap.size = w.heap.size from rfl] at hS0
  clear HV HA
  go_loopw [0, 4] (fun v b wr => ∃ (ys : List Int) (a1 : Option Addr) (c1 : Nat) (out : List UInt8) (a2 : Option Addr) (c2 : Nat), v = .slice a1 ys.length c1 ∧ b = .slice a2 out.length c2 ∧ Hid (PkS w zs ys (.slice a1 ys.length c1) (.slice a2 out.length c2) out wr)) (fun v _ _ => sln v)
  case atStart => exact ⟨zs, a, cap, [0], _, 1, rfl, rfl, hS0⟩
  case round =>
    clear hS0
    obtain ⟨ys, a1, c1, out, a2, c2, rfl, rfl, HS⟩ := hrel
    by_cases hlt : 0 < ys.length
    · have HR := Lib.hid (srow_c wr _ ys HS.out.isv hlt HS.out.len)
      obtain ⟨g1, off1, c', e1, e2⟩ := HS.out.isv.at 0 hlt
      simp only [Value.slice.injEq] at e1
      obtain ⟨rfl, _, rfl⟩ := e1
      rw [Nat.add_zero] at e2
      obtain ⟨x1, x2⟩ := HS.out.all ys[0] (List.getElem_mem hlt)
      obtain ⟨x, hx⟩ : ∃ x : Nat, ys[0] = (x : Int) := ⟨ys[0].toNat, by omega⟩
      rw [hx] at e2 x1 x2
      have hys := HS.out.len
      have hol := HS.out.olen
      have hyi : (0 : Int) < (ys.length : Int) := by omega
      go_wp2_with fail
      refine HR.out.mono ?_; rintro e w3 ⟨m, rfl, hR, q, rfl⟩
      clear HR
      have r1 : (1 : Int) ≤ (m : Int) := by have := hR.pos; omega
      have r2 : (m : Int) ≤ 16 := by have := hR.le; omega
      obtain ⟨c, hc⟩ : ∃ c, UInt8.ofNat ((m - 1) * 16 + x - 1) = c := ⟨_, rfl⟩
      have hcn : (m - 1) * 16 + x - 1 = c.toNat := by rw [← hc, UInt8.toNat_ofNat', Nat.mod_eq_of_lt (by omega)]
      have hor : Go.bits .or .i64 (((m : Int) - 1) * 16) ((x : Int) - 1) = (c.toNat : Int) := by
        have := orI (m - 1) (x - 1) (by omega) (by omega)
        rw [show (((m - 1 : Nat) : Int)) = (m : Int) - 1 by omega, show (((x - 1 : Nat) : Int)) = (x : Int) - 1 by omega] at this
        rw [this, ← hcn]; omega
      have hc256 := c.toNat_lt
      have hu8 : IntKind.u8.wrap (c.toNat : Int) = (c.toNat : Int) := by rw [IntKind.wrap_u8]; omega
      have HPK : Hid (pk 1 (Ln ys) = c :: pk 1 (Ln (ys.drop m))) := by
        unfold Hid
        rw [Ln_drop, ← hc]
        refine pk_row (Ln ys) m x hR.pos hR.le (by rw [Ln_length]; exact hR.len) (fun i hi => ?_) ?_
        · have h1 := hR.same i hi
          simp only [Ln, List.getElem?_map, h1, List.getElem?_eq_getElem hlt, hx]; simp
        · rcases hR.stop with h1 | h1 | h1
          · left; rw [Ln_length]; exact h1
          · right; left; exact h1
          · right; right
            intro h2
            apply h1
            rw [List.getElem?_eq_getElem hlt, hx]
            simp only [Ln, List.getElem?_map, Option.map_eq_some_iff] at h2
            obtain ⟨z, hz, hzx⟩ := h2
            rw [hz]
            have := HS.out.all z (List.mem_of_getElem? hz)
            congr 1; omega
      obtain ⟨vr, hvr, hIr, hbr⟩ := HS.out.isv.from m (m : Int) rfl hR.len
      have HIr := Lib.hid hIr
      have HBr := Lib.hid hbr
      have hO2 := (HS.out.own.drewN q).keep ((Keep.refl [] (wr.drewN q)).alloc (.cells #[.int .u8 (c.toNat)] 5)) (by simp)
      have hS2 := Bs.new1 (wr.drewN q) c
      have hK2 := (HS.out.keep.drewN q).alloc (.cells #[.int .u8 (c.toNat)] 5)
      have HRl := Lib.hid hR.len
      clear hc hcn hIr hbr hx
      go_wp2_with (at_builtin; (refine wpList_appendB (.tmp 15) (.tmp 25) rfl rfl (.slice a2 out.length c2) out rfl hO2 _ [c] rfl hS2 (by simp; omega) ?_); (intro v3 w3 ho3 hk3 hb3 hz3))
      obtain ⟨ar, cr, rfl, hrl⟩ := HIr.out.sh
      obtain ⟨a3, n3, c3, rfl⟩ := ho3.shape
      obtain rfl : n3 = (out ++ [c]).length := by obtain ⟨_, _, e, _⟩ := ho3.bs; simp only [Value.slice.injEq] at e; exact e.2.1
      have hk13 : Keep (Value.slice a2 out.length c2).ownBlock.toList wr w3 := ((((Keep.refl [] wr).drewN q).alloc (.cells #[.int .u8 (c.toNat)] 5)).mono (by simp)).trans hk3 (fun x hx => .inl hx)
      have hne : ys ≠ [] := by rintro rfl; simp at hlt
      refine ⟨⟨ys.drop m, ar, cr, out ++ [c], a3, c3, rfl, rfl, ?_⟩, ?_⟩
      · refine ⟨HIr.out.keep hk13 (fun b hb hm => ?_), ho3, fun z hz => HS.out.all z (List.mem_of_mem_drop hz), ?_, ?_, ?_, hK2.trans hk3 (fun b hb => .inr (HS.out.bb b (by simpa using hb))), fun h x hx => HS.out.vb hne x (HBr.out x hx), fun b hb => ?_⟩
        · have h1 := HS.out.vb hne b (HBr.out b hb)
          have h2 := HS.out.bb b (by simpa using hm)
          omega
        · have := HS.out.len; simp; omega
        · have h1 := HS.out.olen; have h2 := HRl.out; simp; omega
        · rw [HS.out.eq, HPK.out]; simp
        · rcases hb3 b hb with h | h
          · exact HS.out.bb b h
          · rw [h]; have h5 := (HS.out.keep.drewN q).size; simp only [World.size_alloc]; omega
      · have h2 := HRl.out
        simp only [sln, List.length_drop]; omega
    · have hnil : ys = [] := by cases ys with | nil => rfl | cons x t => simp at hlt
      subst hnil
      have heq := HS.out.eq
      rw [show pk 1 (Ln []) = [] from rfl, List.append_nil] at heq
      have hpl := pk_pos (Ln zs) (by intro e; have := Ln_length zs; rw [e] at this; simp at this; omega) 1
      have hol := HS.out.olen
      have hlo : out.length = (pk 1 (Ln zs)).length + 1 := by rw [← heq]; simp
      have hPL : Hid (out.set 0 (UInt8.ofNat ((pk 1 (Ln zs)).length - 1)) = packL (Ln zs)) := by unfold Hid; rw [← heq]; rfl
      obtain ⟨c, hc⟩ : ∃ c, UInt8.ofNat ((pk 1 (Ln zs)).length - 1) = c := ⟨_, rfl⟩
      rw [hc] at hPL
      have hcn : (out.length : Int) - 2 = (c.toNat : Int) := by rw [← hc, UInt8.toNat_ofNat', Nat.mod_eq_of_lt (by simp at hol; omega)]; omega
      have hc256 := c.toNat_lt
      have hu8 : IntKind.u8.wrap ((out.length : Int) - 2) = (c.toNat : Int) := by rw [hcn, IntKind.wrap_u8]; omega
      have HO := Lib.hid HS.out.own
      have HK := Lib.hid HS.out.keep
      have HB := Lib.hid HS.out.bb
      simp at hol
      have hlo2 : 2 ≤ out.length := by omega
      clear HS hc hcn heq hpl hlo
      rcases HO.out.cases with ⟨hv, hl⟩ | ⟨g, cap', hv, hc1, hc2, hcells⟩
      · rw [hl] at hlo2; simp at hlo2
      · simp only [Value.slice.injEq] at hv
        obtain ⟨rfl, _, rfl⟩ := hv
        have c0 := hcells.1 0 (by omega)
        have f0 := HO.out.free 0
        have HO2 := Lib.hid (HO.out.store 0 (by omega) c)
        rw [hPL.out] at HO2
        have hbg := HB.out g rfl
        have hlz : (0 : Int) < (out.length : Int) := by omega
        clear hcells hPL
        generalize out[0] = y0 at c0
        go_wp2_with fail
        go_ret2
        have hb := HO2.out.bs
        refine ⟨_, rfl, hb, HK.out.setCell (.inr hbg) _, fun b hb => by simp [Value.ownBlock] at hb; omega⟩
theorem sf_pack (w : World) (v : Value) (zs : List Int) (h : Is .i64 w v zs) : Calls Try.prog 16 #[v] w fun e w' => ∃ v', e = .returned (.tuple #[v', .int .i64 (perr zs)]) ∧ Bs w' v' (packS zs) ∧ Keep [] w w' ∧ (∀ b, v'.ownBlock = some b → w.heap.size ≤ b) ∧ (perr zs ≠ 0 → v' = .slice none 0 0) := by
  unfold perr packS
  cases hm : mayS zs with
  | false =>
    refine (pack_arg w v zs h hm).mono ?_
    rintro e w' ⟨rfl, hk⟩
    exact ⟨_, rfl, (OwnB.nil w').bs, hk, by simp [Value.ownBlock], fun _ => rfl⟩
  | true =>
    refine (pack_ok w v zs h hm).mono ?_
    rintro e w' ⟨v', rfl, hb, hk, ho⟩
    exact ⟨v', rfl, hb, hk, ho, fun h => absurd rfl h⟩
end Go.Proofs.Ytblogjpoijfpbaa
