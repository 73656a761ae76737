/- Texts put together: DynWr DynLaw3 -/
import Derived.Test.YtibkepjbblfkoaaGreatDoorPart21
import Derived.Test.YtibkepjbblfkoaaGreatDoorPart22
import Derived.Test.YtibkepjbblfkoaaGreatDoorPart10
import Derived.Test.YtibkepjbblfkoaaGreatDoorPart14
import Derived.Test.YtibkepjbblfkoaaGreatDoorPart5
import Derived.Test.YtibkepjbblfkoaaGreatDoorPart13
namespace Go.Proofs.YtibkepjbblfkoaaGreatDoor
set_option linter.unusedVariables false
set_option linter.unusedSimpArgs false
set_option maxRecDepth 100000
open Go.ChangeShapes Go.WideShapes Go.ChangeAt Go.RowKit

/-- a row of symbols of one's own -/
def Ob.sayR (v : Value) (ts : List Lt) : Ob where
  P w bs := bs = v.ownBlock.toList ∧ OwnG EL17 w v ts
  keep := fun ⟨h1, h2⟩ k hb => ⟨h1, h2.keep k (fun b hb' => hb b (by rw [h1]; simp [hb']))⟩
  lt := fun {w bs} ⟨h1, h2⟩ b hb => by subst h1; exact h2.lt b (by simpa using hb)
/-- a writer, what is written (symbols, the third code's lengths and words), and what else is there -/
structure DW (W : World) (Ps : List Ob) (i q : Nat) (vs : Value) (ts : List Lt) (vt : Value) (T : List Int) (vc : Value) (X : List Ob) (bits : List Bool) (w : World) : Prop where
  st : St W w (Ps.set i (Ob.wr q bits) ++ ([Ob.sayR vs ts, Ob.is vt T, Ob.cds4 vc (Ln T)] ++ X))
  hi : i < Ps.length
section
variable {W : World} {Ps : List Ob} {i q : Nat} {vs : Value} {ts : List Lt} {vt : Value} {T : List Int} {vc : Value} {X : List Ob} {bits : List Bool} {w : World}
theorem DW.ix (h : DW W Ps i q vs ts vt T vc X bits w) : (Ps.set i (Ob.wr q bits) ++ ([Ob.sayR vs ts, Ob.is vt T, Ob.cds4 vc (Ln T)] ++ X))[i]? = some (Ob.wr q bits) := by
  rw [List.getElem?_append_left (by rw [List.length_set]; exact h.hi), List.getElem?_set_self h.hi]
theorem DW.iq (h : DW W Ps i q vs ts vt T vc X bits w) (j : Nat) : (Ps.set i (Ob.wr q bits) ++ ([Ob.sayR vs ts, Ob.is vt T, Ob.cds4 vc (Ln T)] ++ X))[Ps.length + j]? = ([Ob.sayR vs ts, Ob.is vt T, Ob.cds4 vc (Ln T)] ++ X)[j]? := by
  rw [List.getElem?_append_right (by rw [List.length_set]; omega), List.length_set]; congr 1; omega
theorem DW.put (h : DW W Ps i q vs ts vt T vc X bits w) (y n : Nat) (hy : y < 4294967296) (hn : n ≤ 32) (hl : bits.length ≤ 1125899906842000) :
    Calls Tryz.prog 26 #[.pointer (some ⟨q, 0, none⟩), .int .u32 y, .int .i64 n] w fun e w' => e = .returned (.tuple #[]) ∧ DW W Ps i q vs ts vt T vc X (bits ++ bitsOf y n) w' := by
  refine (st_put h.st i h.ix y n hy hn hl).mono ?_
  rintro e w' ⟨he, hs⟩
  refine ⟨he, ?_, h.hi⟩
  rw [List.set_append_left _ _ (by rw [List.length_set]; exact h.hi), List.set_set] at hs
  exact hs
theorem DW.read (h : DW W Ps i q vs ts vt T vc X bits w) {w' : World} (k : Keep [] w w') : DW W Ps i q vs ts vt T vc X bits w' := ⟨h.st.read k, h.hi⟩
theorem DW.says (h : DW W Ps i q vs ts vt T vc X bits w) : Gs EL17 w vs ts := by
  obtain ⟨bs, ⟨_, h1⟩, _⟩ := h.st.get (Ps.length + 0) (h.iq 0); exact h1.gs
theorem DW.third (h : DW W Ps i q vs ts vt T vc X bits w) : Is .i64 w vt T := h.st.is (Ps.length + 1) (h.iq 1)
theorem DW.cds (h : DW W Ps i q vs ts vt T vc X bits w) : Cds w vc (Ln T) := h.st.cds4 (Ps.length + 2) (h.iq 2)
theorem DW.box (h : DW W Ps i q vs ts vt T vc [] bits w) (cs : Array Value) (ty : TypeId) : DW W Ps i q vs ts vt T vc [Ob.box w.heap.size cs ty] bits (w.alloc (.cells cs ty)) := by
  refine ⟨?_, h.hi⟩
  have := h.st.pushBox cs ty
  rw [List.append_nil, List.append_assoc] at this
  exact this
theorem DW.blk {g : Nat} {cs : Array Value} {ty : TypeId} (h : DW W Ps i q vs ts vt T vc [Ob.box g cs ty] bits w) : Blk w g cs ty := h.st.blk (Ps.length + 3) (h.iq 3)
theorem DW.pop {P : Ob} (h : DW W Ps i q vs ts vt T vc [P] bits w) : DW W Ps i q vs ts vt T vc [] bits w := by
  refine ⟨?_, h.hi⟩
  have h0 := h.st
  rw [← List.append_assoc] at h0
  have := h0.pop
  rw [List.append_nil]
  exact this
theorem DW.fin (h : DW W Ps i q vs ts vt T vc [] bits w) : St W w (Ps.set i (Ob.wr q bits)) := by
  have h0 := h.st
  rw [show Ps.set i (Ob.wr q bits) ++ ([Ob.sayR vs ts, Ob.is vt T, Ob.cds4 vc (Ln T)] ++ []) = ((Ps.set i (Ob.wr q bits) ++ [Ob.sayR vs ts]) ++ [Ob.is vt T]) ++ [Ob.cds4 vc (Ln T)] by simp] at h0
  exact h0.pop.pop.pop
end
theorem ltB16 (j : Nat) (hj : j < 3) : ltBits (16 + j) = rpB j := by
  have : j = 0 ∨ j = 1 ∨ j = 2 := by omega
  rcases this with rfl | rfl | rfl <;> rfl
theorem ltB_lt (s : Nat) (h : s < 16) : ltBits s = 0 := by unfold ltBits; rw [if_neg (by omega), if_neg (by omega), if_neg (by omega)]
theorem wt_hdr (a b n : Nat) (T : List Int) (ts : List Lt) (B : List Bool) : ((((B ++ bitsOf (a - 257) 5) ++ bitsOf (b - 1) 5) ++ bitsOf (n - 4) 4) ++ hd3 T n) ++ ts.flatMap (Lt.bits (Ln T)) = B ++ wb17 a b n T ts := by
  unfold wb17; simp only [List.append_assoc]
set_option maxHeartbeats 16000000 in
theorem dyn_write {W w : World} {Ps : List Ob} (h : St W w Ps) (hg : G17 W) (i : Nat) {q : Nat} {bits : List Bool} (hi : Ps[i]? = some (Ob.wr q bits)) (hb : bits.length ≤ 1000000) (v1 v2 : Value) (l d : List Int) (large : Bool) (h1 : Is .i64 W v1 l) (h2 : Is .i64 W v2 d) : Calls Tryz.prog 7 #[.pointer (some ⟨q, 0, none⟩), v1, v2, .bool large] w fun e w' =>
    ∃ er : Nat, e = .returned (.int .i64 er) ∧ (right17 l d large = true → er = 0 ∧ St W w' (Ps.set i (Ob.wr q (bits ++ W17 l d)))) ∧ (right17 l d large = false → er = 2 ∧ St W w' Ps) := by
  have hil : i < Ps.length := by
    rcases Nat.lt_or_ge i Ps.length with h | h
    · exact h
    · rw [List.getElem?_eq_none h] at hi; cases hi
  have HI1 := Lib.hid (fun w' (k : Keep [] W w') => h1.keep k (by simp))
  have HI2 := Lib.hid (fun w' (k : Keep [] W w') => h2.keep k (by simp))
  have HG := Lib.hid (fun w' (k : Keep [] W w') => hg.keep k (by simp) (by simp))
  have HRI := Lib.hid (dyn_right w v1 v2 l d large (HI1.out w h.kp) (HI2.out w h.kp))
  obtain ⟨bz, hbz⟩ : ∃ bz, right17 l d large = bz := ⟨_, rfl⟩
  rw [hbz] at HRI ⊢
  have HBZ := Lib.hid hbz
  have HS := Lib.hid h
  have HIX := Lib.hid hi
  have HIL := Lib.hid hil
  have HBL := Lib.hid hb
  obtain ⟨a1, c1, rfl, hm1⟩ := h1.sh
  obtain ⟨a2, c2, rfl, hm2⟩ := h2.sh
  cases bz with
  | false =>
    clear h hg hi hb h1 h2 hbz hil HG HI1 HI2
    go_enter Tryz.func7, Tryz.ntmps7
    go_wp2_with fail
    refine HRI.out.mono ?_; rintro e w1 ⟨rfl, k1⟩
    have HS1 := Lib.hid (HS.out.read k1)
    clear HRI k1
    go_wp2_with fail
    go_ret
    exact ⟨2, rfl, fun h => by simp at h, fun _ => ⟨rfl, HS1.out⟩⟩
  | true =>
    have hr : right17 l d true = true := by
      unfold right17 at hbz ⊢
      simp only [Bool.and_eq_true, decide_eq_true_eq] at hbz ⊢
      obtain ⟨⟨a, b, c, e⟩, f⟩ := hbz
      exact ⟨⟨a, b, c, by show d.length ≤ if True then 32 else 30; simp only [if_true]; split at e <;> omega⟩, f⟩
    have hrt := right17_trim l d true hr
    obtain ⟨q1, q2, q3, q4, q5, q6⟩ := right17_in hr
    obtain ⟨p1, p2, p3, p4, p5, p6⟩ := right17_in hrt
    obtain ⟨s1, s2, s3, s4, s5, s6, s7⟩ := ts17_ok _ _ hrt
    have HT1 := Lib.hid (fun w' (k : Keep [] W w') => dtrim_c w' a1 l c1 257 (HI1.out w' k) (by omega) (by omega) q3)
    have HT2 := Lib.hid (fun w' (k : Keep [] W w') => dtrim_c w' a2 d c2 1 (HI2.out w' k) (by omega) (by omega) q5)
    have hW : W17 l d = wb17 (trim17 l 257).length (trim17 d 1).length (thN (T17 (trim17 l 257) (trim17 d 1)) 19) (T17 (trim17 l 257) (trim17 d 1)) (ts17 (trim17 l 257) (trim17 d 1)) := rfl
    have hA : ∀ w', Keep [] W w' → Is .i64 w' (.slice a1 (trimN l 257 l.length) c1) (trim17 l 257) := fun w' k => (HI1.out w' k).pre _ (trimN_le _ _ _)
    have hB : ∀ w', Keep [] W w' → Is .i64 w' (.slice a2 (trimN d 1 d.length) c2) (trim17 d 1) := fun w' k => (HI2.out w' k).pre _ (trimN_le _ _ _)
    have hla : (trim17 l 257).length = trimN l 257 l.length := by unfold trim17; rw [List.length_take]; have := trimN_le l 257 l.length; omega
    have hlb : (trim17 d 1).length = trimN d 1 d.length := by unfold trim17; rw [List.length_take]; have := trimN_le d 1 d.length; omega
    have hT17 : T17 (trim17 l 257) (trim17 d 1) = limL (cnt17 (ts17 (trim17 l 257) (trim17 d 1))) 7 := rfl
    have hts : ts17 (trim17 l 257) (trim17 d 1) = few17 (trim17 l 257 ++ trim17 d 1).length (trim17 l 257 ++ trim17 d 1) (-1) := by unfold ts17; rw [List.length_append]
    rw [hW, hla, hlb]
    obtain ⟨A, hA'⟩ : ∃ A, trim17 l 257 = A := ⟨_, rfl⟩
    obtain ⟨B, hB'⟩ : ∃ B, trim17 d 1 = B := ⟨_, rfl⟩
    obtain ⟨na, hna⟩ : ∃ n, trimN l 257 l.length = n := ⟨_, rfl⟩
    obtain ⟨nb, hnb⟩ : ∃ n, trimN d 1 d.length = n := ⟨_, rfl⟩
    rw [hA', hB'] at s2 s4 s6 s7 hts hT17 ⊢
    rw [hA'] at hA hla p1 p3 p4
    rw [hB'] at hB hlb p2 p5 p6
    rw [hna] at HT1 hA hla ⊢
    rw [hnb] at HT2 hB hlb ⊢
    obtain ⟨TS, hTS⟩ : ∃ TS, ts17 A B = TS := ⟨_, rfl⟩
    obtain ⟨T, hT⟩ : ∃ T, T17 A B = T := ⟨_, rfl⟩
    rw [hTS] at s2 s4 s7 hts hT17 ⊢
    rw [hT] at s6 s7 hT17 ⊢
    obtain ⟨n, hn⟩ : ∃ n, thN T 19 = n := ⟨_, rfl⟩
    have HCT := Lib.hid (fun w' v (hv : Is .i64 w' v T) (hg : G17 w') => count_c w' v T s6.len (by have := s6.n4; omega) hv hg)
    rw [hn] at s6 HCT ⊢
    obtain ⟨t1, t2, t3, t4, t5, t6⟩ := s6
    obtain ⟨m1, m2⟩ := chk_one t3
    have hwe : werr T = 0 := by unfold werr; rw [t3]; rfl
    have HCN := Lib.hid (fun w' g (hb : Blk w' g #[.slice a1 na c1, .slice a2 nb c2] 22) (k : Keep [] W w') => concat_c w' g _ _ A B hb (hA w' k) (hB w' k) (by omega) (by omega) (by omega))
    have HFE := Lib.hid (fun w' v (hv : Is .i64 w' v (A ++ B)) (hg : G17 w') => fewer_c w' v (A ++ B) (by rw [List.length_append]; omega) (fun z hz => by
      rcases List.mem_append.1 hz with hz | hz
      · exact p1 z hz
      · exact p2 z hz) hv hg)
    rw [← hts] at HFE
    have HTO := Lib.hid (fun w' v (hv : Gs EL17 w' v TS) => thirdof_c w' v TS (by omega) (fun t ht => (s2 t ht).1) hv)
    rw [← hT17] at HTO
    have HCO := Lib.hid (fun w' v (hv : Is .i64 w' v T) => cancodes_ok w' v T hv hwe)
    have HTK := Lib.hid (fun t (ht : t ∈ TS) => (⟨(s2 t ht).1, (s2 t ht).2, s7 t ht⟩ : t.sym < 19 ∧ t.x < 2 ^ ltBits t.sym ∧ 0 < len (Ln T) t.sym))
    have HLN := Lib.hid (third_le ⟨t1, t2, t3, t4, t5, t6⟩)
    have hcl : ∀ s, code (Ln T) s < 4294967296 := fun s => by
      have h1 := code_lt (Ln T) s
      have h2 := HLN.out s
      have : 2 ^ len (Ln T) s ≤ 2 ^ 7 := Nat.pow_le_pow_right (by decide) h2
      omega
    have HCL := Lib.hid hcl
    have HT7 := Lib.hid t2
    have HT19 := Lib.hid t1
    have HSN : Hid (T ≠ [] ∧ Ln T ≠ []) := ⟨fun e => by rw [e] at t1; simp at t1, fun e => by have := congrArg List.length e; rw [Ln_length, t1] at this; simp at this⟩
    have HLA : Hid (na ≤ 286 ∧ 257 ≤ na ∧ nb ≤ 32 ∧ 1 ≤ nb ∧ n ≤ 19 ∧ 4 ≤ n ∧ TS.length ≤ 318) := by unfold Hid; omega
    have wa1 : IntKind.i64.wrap ((na : Int) - 256) = ((na - 256 : Nat) : Int) := by rw [IntKind.wrap_i64]; omega
    have wa2 : IntKind.i64.wrap (((na - 256 : Nat) : Int) - 1) = ((na - 257 : Nat) : Int) := by rw [IntKind.wrap_i64]; omega
    have wa3 : IntKind.u32.wrap ((na - 257 : Nat) : Int) = ((na - 257 : Nat) : Int) := by simp [IntKind.wrap, IntKind.bits, IntKind.signed]; omega
    have wb1 : IntKind.i64.wrap ((nb : Int) - 1) = ((nb - 1 : Nat) : Int) := by rw [IntKind.wrap_i64]; omega
    have wb2 : IntKind.u32.wrap ((nb - 1 : Nat) : Int) = ((nb - 1 : Nat) : Int) := by simp [IntKind.wrap, IntKind.bits, IntKind.signed]; omega
    have wn1 : IntKind.i64.wrap ((n : Int) - 4) = ((n - 4 : Nat) : Int) := by rw [IntKind.wrap_i64]; omega
    have wn2 : IntKind.u32.wrap ((n - 4 : Nat) : Int) = ((n - 4 : Nat) : Int) := by simp [IntKind.wrap, IntKind.bits, IntKind.signed]; omega
    have HHD := Lib.hid (wt_hdr na nb n T TS bits)
    clear h hg hi hb h1 h2 hbz hil hr hrt q1 q2 q3 q4 q5 q6 p1 p2 p3 p4 p5 p6 s1 s2 s3 s4 s5 s7 hW hA hB hla hlb hT17 hts hA' hB' hna hnb hTS hT hn t1 t2 t3 t4 t5 t6 m1 m2 hwe hcl HI1 HI2 HBZ hm1 hm2
    obtain ⟨WB, hWB⟩ : ∃ WB, wb17 na nb n T TS = WB := ⟨_, rfl⟩
    rw [hWB] at HHD ⊢
    clear hWB
    go_enter Tryz.func7, Tryz.ntmps7
    go_wp2_with fail
    refine HRI.out.mono ?_; rintro e w1 ⟨rfl, k1⟩
    have HS1 := Lib.hid (HS.out.read k1)
    clear HRI k1 HS
    go_wp2_with fail
    refine (HT1.out w1 HS1.out.kp).mono ?_; rintro e w2 ⟨rfl, m2, rfl⟩
    have HS2 := Lib.hid (HS1.out.read ((Keep.refl [] w1).drewN m2))
    clear HT1 HS1
    generalize w1.drewN m2 = w2 at HS2 ⊢
    go_wp2_with fail
    refine (HT2.out w2 HS2.out.kp).mono ?_; rintro e w3 ⟨rfl, m3, rfl⟩
    have HS3 := Lib.hid (HS2.out.read ((Keep.refl [] w2).drewN m3))
    clear HT2 HS2
    generalize w2.drewN m3 = w3 at HS3 ⊢
    go_wp2_with fail
    have hk4 := HS3.out.read ((Keep.refl [] w3).alloc (.cells #[.slice a1 na c1, .slice a2 nb c2] 22))
    have hcn := HCN.out _ _ (Blk.new w3 #[.slice a1 na c1, .slice a2 nb c2] 22) hk4.kp
    have HC4 := Lib.hid hcn
    have HS4 := Lib.hid hk4
    clear hk4 hcn HCN HS3
    refine HC4.out.mono ?_; rintro e w5 ⟨v5, rfl, ho5, k5, hn5⟩
    have HS5 := Lib.hid (HS4.out.read k5)
    have HF5 := Lib.hid (HFE.out w5 v5 ho5.is (HG.out w5 HS5.out.kp))
    clear HC4 HS4 ho5 k5 hn5 HFE
    go_wp2_with fail
    refine HF5.out.mono ?_; rintro e w6 ⟨vs, rfl, ho6, k6, hn6⟩
    have HS6 : Hid (St W w6 (Ps ++ [Ob.sayR vs TS])) := HS5.out.push (Ob.sayR vs TS) vs.ownBlock.toList ⟨rfl, ho6⟩ k6 (fun b hb => hn6 b (by simpa using hb))
    have HT6 := Lib.hid (HTO.out w6 vs ho6.gs)
    have HSH := Lib.hid (ho6.gs.sh)
    clear HF5 HS5 ho6 k6 hn6 HTO
    go_wp2_with fail
    refine HT6.out.mono ?_; rintro e w7 ⟨vt, rfl, hi7, k7, hn7⟩
    have HS7 : Hid (St W w7 ((Ps ++ [Ob.sayR vs TS]) ++ [Ob.is vt T])) := HS6.out.push (Ob.is vt T) vt.ownBlock.toList ⟨rfl, hi7, HSN.out.1⟩ k7 (fun b hb => hn7 b (by simpa using hb))
    have HC7 := Lib.hid (HCO.out w7 vt hi7)
    have HI7 := Lib.hid hi7
    clear HT6 HS6 hi7 k7 hn7 HCO
    go_wp2_with fail
    refine HC7.out.mono ?_; rintro e w8 ⟨vc, rfl, hc8, k8, hn8⟩
    have HS8 : Hid (St W w8 (((Ps ++ [Ob.sayR vs TS]) ++ [Ob.is vt T]) ++ [Ob.cds4 vc (Ln T)])) := HS7.out.push (Ob.cds4 vc (Ln T)) vc.ownBlock.toList ⟨rfl, hc8, HSN.out.2⟩ k8 (fun b hb => hn8 b (by simpa using hb))
    have HI8 := Lib.hid (HI7.out.keep k8 (by simp))
    have HC8 := Lib.hid (HCT.out w8 vt HI8.out (HG.out w8 HS8.out.kp))
    clear HC7 HS7 HI7 hc8 k8 hn8 HCT
    go_wp2_with fail
    refine HC8.out.mono ?_; rintro e w9 ⟨rfl, m9, rfl⟩
    have HD9 : Hid (DW W Ps i q vs TS vt T vc [] bits (w8.drewN m9)) := by
      have hs := HS8.out.read ((Keep.refl [] w8).drewN m9)
      refine ⟨?_, HIL.out⟩
      have e1 : Ps.set i (Ob.wr q bits) = Ps := by
        apply List.ext_getElem?
        intro j
        by_cases e : i = j
        · subst e; rw [List.getElem?_set_self HIL.out, HIX.out]
        · rw [List.getElem?_set_ne e]
      rw [e1]
      simpa using hs
    clear HC8 HS8 HI8
    generalize w8.drewN m9 = w9 at HD9 ⊢
    obtain ⟨z1, z2, z3, z4, z5, z6, z7⟩ := HLA.out
    have HP1 := Lib.hid (HD9.out.put (na - 257) 5 (by omega) (by decide) (by have := HBL.out; omega))
    go_wp2_with fail
    refine HP1.out.mono ?_; rintro e w10 ⟨rfl, hd10⟩
    have HD10 := Lib.hid hd10
    have HP2 := Lib.hid (hd10.put (nb - 1) 5 (by omega) (by decide) (by simp only [List.length_append, bitsOf_length]; have := HBL.out; omega))
    clear HP1 HD9 hd10
    go_wp2_with fail
    refine HP2.out.mono ?_; rintro e w11 ⟨rfl, hd11⟩
    have HD11 := Lib.hid hd11
    have HP3 := Lib.hid (hd11.put (n - 4) 4 (by omega) (by decide) (by simp only [List.length_append, bitsOf_length]; have := HBL.out; omega))
    clear HP2 HD10 hd11
    go_wp2_with fail
    refine HP3.out.mono ?_; rintro e w12 ⟨rfl, hd12⟩
    have hbl3 : (((bits ++ bitsOf (na - 257) 5) ++ bitsOf (nb - 1) 5) ++ bitsOf (n - 4) 4).length ≤ 1000014 := by simp only [List.length_append, bitsOf_length]; have := HBL.out; omega
    obtain ⟨B1, hB1⟩ : ∃ B1, ((bits ++ bitsOf (na - 257) 5) ++ bitsOf (nb - 1) 5) ++ bitsOf (n - 4) 4 = B1 := ⟨_, rfl⟩
    rw [hB1] at HHD hd12 hbl3
    have HD12 : Hid (DW W Ps i q vs TS vt T vc [] (B1 ++ hd3 T 0) w12) := by
      have e : B1 ++ hd3 T 0 = B1 := by simp [hd3]
      unfold Hid; rw [e]; exact hd12
    have HB1 := Lib.hid hbl3
    clear HP3 HD11 hd12 hbl3 hB1 wa1 wa2 wa3 wb1 wb2 wn1 wn2
    go_wp2_with fail
    obtain ⟨at_, ct, rfl, _⟩ := HD12.out.third.sh
    rw [HT19.out] at HD12 ⊢
    go_loopw [61] (fun iv wr => ∃ k : Nat, k ≤ n ∧ iv = .int .i64 k ∧ Hid (DW W Ps i q vs TS (.slice at_ 19 ct) T vc [] (B1 ++ hd3 T k) wr)) (fun iv _ => n - (intOf iv).toNat)
    case atStart => exact ⟨0, Nat.zero_le _, rfl, HD12⟩
    case round =>
      clear HD12
      obtain ⟨k, hk, rfl, HD⟩ := hrel
      by_cases hlt : k < n
      · have hk19 : k < 19 := by omega
        have o1 := (HG.out wr HD.out.st.kp).order k hk19
        obtain ⟨y, hy⟩ : ∃ y, ordD.getD k 0 = y := ⟨_, rfl⟩
        have hy19 : y < 19 := by rw [← hy]; exact (ordI_at ⟨k, hk19⟩).2
        rw [hy] at o1
        obtain ⟨b, off, cap', hv, e1⟩ := HD.out.third.at y (by rw [HT19.out]; exact hy19)
        rw [HT19.out] at hv
        simp only [Value.slice.injEq] at hv
        obtain ⟨rfl, hvv, rfl⟩ := hv
        have hgd : T.getD y 0 = T[y]'(by rw [HT19.out]; exact hy19) := by rw [List.getD_eq_getElem?_getD, List.getElem?_eq_getElem (by rw [HT19.out]; exact hy19)]; rfl
        have h7 := HT7.out y
        have hsx : hd3 T (k + 1) = hd3 T k ++ bitsOf (T.getD y 0).toNat 3 := by rw [hd3_succ, hy]
        rw [hgd] at h7 hsx
        obtain ⟨z, hz⟩ : ∃ z, T[y]'(by rw [HT19.out]; exact hy19) = z := ⟨_, rfl⟩
        rw [hz] at e1 h7 hsx
        obtain ⟨zn_, rfl⟩ : ∃ m : Nat, z = m := ⟨z.toNat, by omega⟩
        rw [Int.toNat_natCast] at hsx
        have hp := HD.out.put zn_ 3 (by omega) (by decide) (by rw [List.length_append, hd3_length]; have := HB1.out; omega)
        rw [List.append_assoc, ← hsx] at hp
        have HP := Lib.hid hp
        have wz : IntKind.u32.wrap (zn_ : Int) = (zn_ : Int) := by simp [IntKind.wrap, IntKind.bits, IntKind.signed]; omega
        have hyz : (y : Int) < 19 := by omega
        have hkz : (k : Int) < 19 := by omega
        have hwk : IntKind.i64.wrap ((k : Int) + 1) = ((k + 1 : Nat) : Int) := by rw [IntKind.wrap_i64]; omega
        clear hp hsx hgd hz hvv h7 hy
        go_wp2_with fail
        refine HP.out.mono ?_; rintro e w13 ⟨rfl, hd13⟩
        have HD13 := Lib.hid hd13
        clear HP hd13
        go_wp2_with fail
        go_roundw
        case rel => exact ⟨k + 1, hlt, by first | rfl | simp, HD13⟩
        case measure => simp [intOf]; omega
      · obtain rfl : k = n := by omega
        have hbl4 : (B1 ++ hd3 T k).length ≤ 1000100 := by rw [List.length_append, hd3_length]; have := HB1.out; omega
        obtain ⟨B2, hB2⟩ : ∃ B2, B1 ++ hd3 T k = B2 := ⟨_, rfl⟩
        rw [hB2] at HD HHD hbl4
        have HB2 := Lib.hid hbl4
        have HD2 : Hid (DW W Ps i q vs TS (.slice at_ 19 ct) T vc [] (B2 ++ (TS.take 0).flatMap (Lt.bits (Ln T))) wr) := by simpa using HD
        clear hbl4 hB2 HD HB1
        obtain ⟨as_, cs_, rfl, _⟩ := HD2.out.says.sh
        obtain ⟨ac, cc, rfl, _⟩ := HD2.out.cds.shape
        go_wp2_with fail
        go_loopw [76] (fun iv wx => ∃ k : Nat, k ≤ TS.length ∧ iv = .int .i64 k ∧ Hid (DW W Ps i q (.slice as_ TS.length cs_) TS (.slice at_ 19 ct) T (.slice ac (Ln T).length cc) [] (B2 ++ (TS.take k).flatMap (Lt.bits (Ln T))) wx)) (fun iv _ => TS.length - (intOf iv).toNat)
        case atStart => exact ⟨0, Nat.zero_le _, rfl, HD2⟩
        case round =>
          clear HD2
          obtain ⟨k, hk, rfl, HD⟩ := hrel
          by_cases hlt : k < TS.length
          · obtain ⟨b, off, cap', hv, hc⟩ := HD.out.says.at EL17_good k hlt
            simp only [Value.slice.injEq] at hv
            obtain ⟨rfl, hvv, rfl⟩ := hv
            have c0 := hc 0 (by decide)
            have c1 := hc 1 (by decide)
            have hst : (TS.take (k + 1)).flatMap (Lt.bits (Ln T)) = (TS.take k).flatMap (Lt.bits (Ln T)) ++ (bitsOf (code (Ln T) (TS[k]).sym) (len (Ln T) (TS[k]).sym) ++ bitsOf (TS[k]).x (ltBits (TS[k]).sym)) := by
              rw [← List.take_append_getElem hlt, List.flatMap_append]; simp [Lt.bits]
            obtain ⟨g1, g2, g3⟩ := HTK.out _ (List.getElem_mem hlt)
            obtain ⟨t, ht⟩ : ∃ t, TS[k] = t := ⟨_, rfl⟩
            rw [ht] at c0 c1 hst g1 g2 g3
            have c0' : wr.cell? ⟨b, off + k * 2, none⟩ = some (.int .i64 t.sym) := c0
            have c1' : wr.cell? ⟨b, off + k * 2 + 1, none⟩ = some (.int .i64 t.x) := by rw [Nat.add_assoc]; exact c1
            have h7 := HLN.out t.sym
            have hcl := HCL.out t.sym
            obtain ⟨wb, wo, wc2, hvw, d1, d2⟩ := HD.out.cds.at t.sym (by rw [Ln_length, HT19.out]; exact g1)
            simp only [Value.slice.injEq] at hvw
            obtain ⟨rfl, hvv2, rfl⟩ := hvw
            obtain ⟨cd, hcd⟩ : ∃ cd, code (Ln T) t.sym = cd := ⟨_, rfl⟩
            obtain ⟨nd, hnd⟩ : ∃ nd, len (Ln T) t.sym = nd := ⟨_, rfl⟩
            rw [hcd] at d1 hcl hst
            rw [hnd] at d2 h7 hst g3
            have HST := Lib.hid hst
            have HCD := Lib.hid hcd
            have HND := Lib.hid hnd
            have hfl : (B2 ++ (TS.take k).flatMap (Lt.bits (Ln T))).length ≤ 1010000 := by
              rw [List.length_append]
              have h1 := flat_le (Ln T) (TS.take k) HLN.out 318 (by rw [List.length_take]; have := HLA.out; omega)
              have := HB2.out; omega
            have HFL := Lib.hid hfl
            have hlz : (k : Int) < (TS.length : Int) := by omega
            have hszz : (t.sym : Int) < ((Ln T).length : Int) := by rw [Ln_length, HT19.out]; omega
            have hszn : t.sym < (Ln T).length := by rw [Ln_length, HT19.out]; omega
            have hwk : IntKind.i64.wrap ((k : Int) + 1) = ((k + 1 : Nat) : Int) := by rw [IntKind.wrap_i64]; omega
            have HKWR := Lib.hid HD.out.st.kp
            obtain ⟨Bk, hBk⟩ : ∃ Bk, B2 ++ (TS.take k).flatMap (Lt.bits (Ln T)) = Bk := ⟨_, rfl⟩
            have hst2 : B2 ++ (TS.take (k + 1)).flatMap (Lt.bits (Ln T)) = (Bk ++ bitsOf cd nd) ++ bitsOf t.x (ltBits t.sym) := by rw [← hBk, hst, List.append_assoc, List.append_assoc]
            have HST2 := Lib.hid hst2
            rw [hBk] at HD HFL
            clear c0 c1 hc hvv hvv2 hcd hnd hst hfl hst2 hBk ht
            go_upto_region 21 with fail
            have hxp := HD.out.box #[.int .i64 t.sym, .int .i64 t.x] 60
            generalize wr.alloc (.cells #[.int .i64 t.sym, .int .i64 t.x] 60) = wX at hxp ⊢
            generalize wr.heap.size = gx at hxp ⊢
            have hbx := hxp.blk
            obtain ⟨wb', wo', wc', hvw', d1, d2⟩ := hxp.cds.at t.sym hszn
            simp only [Value.slice.injEq, Option.some.injEq, Addr.mk.injEq] at hvw'
            obtain ⟨⟨rfl, rfl, -⟩, -, rfl⟩ := hvw'
            rw [HCD.out] at d1
            rw [HND.out] at d2
            have y0 : ∀ p : Kept wX, p.x.cell? ⟨gx, 0, none⟩ = some (.int .i64 t.sym) := fun p => p.h.cell (hbx.cell 0 _ rfl) (by simp)
            have f0 : ∀ p : Kept wX, p.x.cell? ⟨wb, wo + t.sym * 2, none⟩ = some (.int .u32 cd) := fun p => p.h.cell d1 (by simp)
            have f1 : ∀ p : Kept wX, p.x.cell? ⟨wb, wo + t.sym * 2 + 1, none⟩ = some (.int .i64 nd) := fun p => p.h.cell d2 (by simp)
            have HDX := Lib.hid hxp
            clear hxp hbx d1 d2 HD c0' c1'
            refine wp_region_kept_tail 13 (by kernel_rfl) (by kernel_rfl) ?_
            simp only [List.take_succ_cons, List.take_zero, List.drop_succ_cons, List.drop_zero]
            repeat (quiet_step (fail))
            refine wpQuiet_nil ?_
            rintro _ ⟨⟨w4, k4⟩, rfl⟩
            rename_i w4
            have HP := Lib.hid ((HDX.out.read k4).put cd nd hcl (by omega) (by have := HFL.out; omega))
            clear y0 f0 f1 HDX k4
            go_wp2_with fail
            refine HP.out.mono ?_; rintro e w5 ⟨rfl, hd5⟩
            have HD5 := Lib.hid hd5
            have b0 := hd5.blk.cell 0 _ rfl
            have hfl5 : (Bk ++ bitsOf cd nd).length ≤ 1020000 := by rw [List.length_append, bitsOf_length]; have := HFL.out; omega
            have HFL5 := Lib.hid hfl5
            clear HP hd5 hfl5
            by_cases h16 : t.sym < 16
            · have b2 : decide ((t.sym : Int) ≥ 16) = false := by simp; omega
              have b2' : ¬ (16 : Int) ≤ (t.sym : Int) := by omega
              have hnx := HD5.out.pop
              have hst := HST2.out
              rw [ltB_lt _ h16, show bitsOf t.x 0 = [] from by simp [bitsOf], List.append_nil] at hst
              rw [← hst] at hnx
              have HNX := Lib.hid hnx
              clear hnx hst HD5 h16
              go_wp2_with fail
              go_roundw
              case rel => exact ⟨k + 1, hlt, by first | rfl | simp, HNX⟩
              case measure => simp [intOf]; omega
            · obtain ⟨j, hj⟩ : ∃ j, t.sym = 16 + j := ⟨t.sym - 16, by omega⟩
              have hj3 : j < 3 := by omega
              have b2 : decide ((t.sym : Int) ≥ 16) = true := by simp; omega
              have b2' : (16 : Int) ≤ (t.sym : Int) := by omega
              have hst := HST2.out
              have hlb : ltBits t.sym = rpB j := by rw [hj]; exact ltB16 j hj3
              have hrb : rpB j ≤ 7 := by unfold rpB; split <;> (try split) <;> omega
              have hx := g2
              rw [hlb] at hst hx
              have hx7 : 2 ^ rpB j ≤ 2 ^ 7 := Nat.pow_le_pow_right (by decide) hrb
              have HRP : Hid (∀ p : Kept w5, Calls Tryz.prog 27 #[.int .i64 (t.sym : Int)] p.x fun e w' => e = .returned (.agg #[.int .i64 (rpL j), .int .i64 (rpB j)]) ∧ Keep [] p.x w') := fun p => by
                rw [hj]
                exact repeatof_c p.x (HG.out p.x (HD5.out.st.kp.trans p.h (by simp))) j hj3
              obtain ⟨rb, hrbe⟩ : ∃ rb, rpB j = rb := ⟨_, rfl⟩
              obtain ⟨rl, hrle⟩ : ∃ rl, rpL j = rl := ⟨_, rfl⟩
              rw [hrbe] at hst hrb HRP hx7 hx
              rw [hrle] at HRP
              have hbx := HD5.out.blk
              have y0 : ∀ p : Kept w5, p.x.cell? ⟨gx, 0, none⟩ = some (.int .i64 t.sym) := fun p => p.h.cell (hbx.cell 0 _ rfl) (by simp)
              have y1 : ∀ p : Kept w5, p.x.cell? ⟨gx, 1, none⟩ = some (.int .i64 t.x) := fun p => p.h.cell (hbx.cell 1 _ rfl) (by simp)
              have hf1 := fun W a b => rp_f1 W a b
              have wx1 : IntKind.u32.wrap (t.x : Int) = (t.x : Int) := by simp [IntKind.wrap, IntKind.bits, IntKind.signed]; omega
              have hx32 : t.x < 4294967296 := by omega
              have HSTX := Lib.hid hst
              clear hbx hst hlb hrbe hrle hj h16 hx hx7
              go_wp2_with fail
              refine wp_region_kept_tail 8 (by kernel_rfl) (by kernel_rfl) ?_
              simp only [List.take_succ_cons, List.take_zero, List.drop_succ_cons, List.drop_zero]
              repeat (quiet_step (first | (go_at_call 27; with_reducible exact kept_of (HRP.out _))))
              refine wpQuiet_nil ?_
              rintro _ ⟨⟨w6, k6⟩, rfl⟩
              rename_i w6
              have HP2 := Lib.hid ((HD5.out.read k6).put t.x rb hx32 (by omega) (by have := HFL5.out; omega))
              clear y0 y1 hf1 HRP k6 HD5
              go_wp2_with fail
              refine HP2.out.mono ?_; rintro e w7 ⟨rfl, hd7⟩
              have hnx := hd7.pop
              rw [← HSTX.out] at hnx
              have HNX := Lib.hid hnx
              clear hnx hd7 HP2
              go_wp2_with fail
              go_roundw
              case rel => exact ⟨k + 1, hlt, by first | rfl | simp, HNX⟩
              case measure => simp [intOf]; omega
          · obtain rfl : k = TS.length := by omega
            have hfin := HD.out.fin
            rw [List.take_length, HHD.out] at hfin
            have HFIN := Lib.hid hfin
            clear hfin HD
            go_wp2_with fail
            go_ret
            exact ⟨0, rfl, by first | exact fun _ => ⟨rfl, HFIN.out⟩ | exact ⟨fun _ => ⟨rfl, HFIN.out⟩, fun h => by simp at h⟩ | exact ⟨⟨rfl, HFIN.out⟩, fun h => by simp at h⟩ | exact HFIN.out⟩
theorem dyn_cost (w : World) (hg : G17 w) (v1 v2 : Value) (l d : List Int) (h1 : Is .i64 w v1 l) (h2 : Is .i64 w v2 d) : Calls Tryz.prog 9 #[v1, v2] w fun e w' => ∃ n : Nat, e = .returned (.int .i64 n) ∧ (right17 l d true = true → n = (W17 l d).length) ∧ (right17 l d true = false → n = 0) ∧ Keep [] w w' := by
  have HN := Lib.hid (st_new (St.nil w))
  have HWR := Lib.hid (fun w' q (h : St w w' [Ob.wr q []]) => dyn_write h hg 0 rfl (by decide) v1 v2 l d true h1 h2)
  have hlen : right17 l d true = true → (W17 l d).length ≤ 10000 := fun h => by
    obtain ⟨n, T, ts, _, _, _, _, _, hl⟩ := W17_ok l d h
    exact hl
  have HLN := Lib.hid hlen
  obtain ⟨a1, c1, rfl, _⟩ := h1.sh
  obtain ⟨a2, c2, rfl, _⟩ := h2.sh
  obtain ⟨bz, hbz⟩ : ∃ bz, right17 l d true = bz := ⟨_, rfl⟩
  rw [hbz] at HWR HLN ⊢
  obtain ⟨WB, hWB⟩ : ∃ WB, W17 l d = WB := ⟨_, rfl⟩
  rw [hWB] at HWR HLN ⊢
  clear hlen h1 h2 hg hbz hWB
  go_enter Tryz.func9, Tryz.ntmps9
  go_wp2_with fail
  refine HN.out.mono ?_; rintro e w1 ⟨q, rfl, hs, -⟩
  have HW := Lib.hid (HWR.out w1 q hs)
  clear HN HWR hs
  go_wp2_with fail
  refine HW.out.mono ?_; rintro e w2 ⟨er, rfl, k1, k2⟩
  cases bz with
  | true =>
    obtain ⟨rfl, hs⟩ := k1 rfl
    have hs : St w w2 [Ob.wr q WB] := hs
    have HS := Lib.hid hs
    obtain ⟨bs, ⟨v, _, hw⟩, _⟩ := hs.get 0 rfl
    have HL := Lib.hid (wlen_c w2 q v WB hw (by have := HLN.out rfl; omega))
    clear k1 k2 hs HW hw
    go_wp2_with fail
    refine HL.out.mono ?_; rintro e w3 ⟨rfl, n3, rfl⟩
    go_wp2_with fail
    go_ret
    refine ⟨WB.length, rfl, ?_⟩
    first
      | exact ⟨fun _ => rfl, fun h => by simp at h, HS.out.kp.drewN n3⟩
      | simpa using HS.out.kp.drewN n3
  | false =>
    obtain ⟨rfl, hs⟩ := k2 rfl
    have HS := Lib.hid hs
    obtain ⟨bs, ⟨v, _, hw⟩, _⟩ := hs.get 0 rfl
    have HL := Lib.hid (wlen_c w2 q v [] hw (by decide))
    clear k1 k2 hs HW hw
    go_wp2_with fail
    refine HL.out.mono ?_; rintro e w3 ⟨rfl, n3, rfl⟩
    go_wp2_with fail
    go_ret
    refine ⟨0, rfl, ?_⟩
    first
      | exact ⟨fun h => by simp at h, fun _ => rfl, HS.out.kp.drewN n3⟩
      | simpa using HS.out.kp.drewN n3
end Go.Proofs.YtibkepjbblfkoaaGreatDoor
namespace Go.Proofs.YtibkepjbblfkoaaGreatDoor
set_option linter.unusedVariables false
set_option linter.unusedSimpArgs false
set_option maxRecDepth 100000
open Go.ChangeShapes Go.WideShapes Go.ChangeAt Go.RowKit

theorem right17_mono (l d : List Int) (large : Bool) (h : right17 l d large = true) : right17 l d true = true := by
  unfold right17 at h ⊢
  simp only [Bool.and_eq_true, decide_eq_true_eq] at h ⊢
  obtain ⟨⟨a, b, c, e⟩, f⟩ := h
  exact ⟨⟨a, b, c, by show d.length ≤ if True then 32 else 30; simp only [if_true]; split at e <;> omega⟩, f⟩
theorem st_wlen {W w : World} {Ps : List Ob} (h : St W w Ps) (i : Nat) {q : Nat} {bits : List Bool} (hi : Ps[i]? = some (Ob.wr q bits)) (hl : bits.length ≤ 1125899906842000) : Calls Tryz.prog 10 #[.pointer (some ⟨q, 0, none⟩)] w fun e w' => e = .returned (.int .i64 bits.length) ∧ ∃ n, w' = w.drewN n := by
  obtain ⟨bs, ⟨v, _, h1⟩, _⟩ := h.get i hi
  exact wlen_c w q v bits h1 (by omega)
theorem st_pos {W w : World} {Ps : List Ob} (h : St W w Ps) (i : Nat) {q : Nat} {s : RS} (hi : Ps[i]? = some (Ob.rd q s)) : Calls Tryz.prog 16 #[.pointer (some ⟨q, 0, none⟩)] w fun e w' => e = .returned (.int .i64 s.pos) ∧ w = w' := by
  obtain ⟨v, h1⟩ := h.rd i hi
  exact read_c w q v s h1
/-- what was written is read -/
theorem rights_read (l d : List Int) (large : Bool) (h : right17 l d large = true) (L : List UInt8) (post : List Bool) (hL : toBits L = W17 l d ++ post) :
    rd17 ⟨L, 0, true, 0⟩ large = (trim17 l 257, trim17 d 1, 0, ⟨L, (W17 l d).length, true, 0⟩) := by
  obtain ⟨n, T, ts, hT, hts, hh, hexp, hW, _⟩ := W17_ok l d (right17_mono l d large h)
  have hr := right17_trim l d large h
  have hb : 257 ≤ (trim17 l 257).length ∧ (trim17 l 257).length ≤ 286 ∧ 1 ≤ (trim17 d 1).length ∧ (trim17 d 1).length ≤ (if large then 32 else 30) := by
    unfold right17 at hr
    simp only [Bool.and_eq_true, decide_eq_true_eq] at hr
    exact hr.1
  have hb2 : (trim17 d 1).length ≤ 32 := by have := hb.2.2.2; split at this <;> omega
  rw [hW] at hL ⊢
  have := rd17_at L large _ _ n T ts (trim17 l 257) (trim17 d 1) hT (by omega) (by omega) hts hh hexp rfl rfl [] post (by rw [List.nil_append]; exact hL)
  simp only [List.length_nil, List.nil_append] at this
  rw [this, if_neg (by
    rintro (g | ⟨g, e⟩)
    · omega
    · rw [e] at hb; simp at hb; omega), hr, if_neg (by simp)]
theorem W17_pos (l d : List Int) (h : right17 l d true = true) : 0 < (W17 l d).length ∧ (W17 l d).length ≤ 10000 := by
  obtain ⟨n, T, ts, _, _, _, _, hW, hl⟩ := W17_ok l d h
  refine ⟨?_, hl⟩
  rw [hW]; unfold wb17; simp only [List.length_append, bitsOf_length]; omega
set_option maxHeartbeats 8000000 in
theorem dynrights_w (W : World) (hg : G17 W) (v1 : Value) (l1 : List Int) (h1 : Is .i64 W v1 l1) (v2 : Value) (l2 : List Int) (h2 : Is .i64 W v2 l2) (large : Bool) : Calls Tryz.prog 3 #[v1, v2, .bool large] W fun e w' => e = .returned (.bool true) ∧ Keep [] W w' := by
  have HG17 := Lib.hid hg
  clear hg
  have HA := Lib.hid (refints_c W v1 l1 290 (by decide) h1)
  have HB := Lib.hid (refints_c W v2 l2 34 (by decide) h2)
  go_enter Tryz.func3, Tryz.ntmps3
  go_wp2_with fail
  refine HA.out.mono ?_; rintro e w1 ⟨v3, rfl, i3, -, rfl⟩
  go_wp2_with fail
  refine HB.out.mono ?_; rintro e w2 ⟨v4, rfl, i4, -, rfl⟩
  obtain ⟨la, hla⟩ : ∃ la, l1.take 290 = la := ⟨_, rfl⟩
  obtain ⟨lb, hlb⟩ : ∃ lb, l2.take 34 = lb := ⟨_, rfl⟩
  rw [hla] at i3
  rw [hlb] at i4
  obtain ⟨a3, c3, rfl, _⟩ := i3.sh
  obtain ⟨a4, c4, rfl, _⟩ := i4.sh
  have HI3 := Lib.hid i3; have HI4 := Lib.hid i4
  clear HA HB hla hlb h1 h2 i3 i4
  have HR1 := Lib.hid (rright17_c W _ _ la lb large HI3.out HI4.out)
  have HM := Lib.hid (right17_mono la lb large)
  have HTR := Lib.hid (rights_read la lb large)
  have HPO := Lib.hid (W17_pos la lb)
  have HLE : Hid (right17 la lb large = true → 257 ≤ la.length ∧ la.length ≤ 286 ∧ 1 ≤ lb.length ∧ lb.length ≤ 32) := fun h => by
    unfold right17 at h
    simp only [Bool.and_eq_true, decide_eq_true_eq] at h
    obtain ⟨⟨a, b, c, e⟩, _⟩ := h
    exact ⟨a, b, c, by split at e <;> omega⟩
  have HWR := Lib.hid (fun w1 q (h : St W w1 [Ob.wr q []]) => dyn_write h HG17.out 0 rfl (by decide) _ _ la lb large HI3.out HI4.out)
  have HDR := Lib.hid (fun w1 (k : Keep [] W w1) => dyn_right w1 _ _ la lb large (HI3.out.keep k (by simp)) (HI4.out.keep k (by simp)))
  have HCO := Lib.hid (fun w1 (k : Keep [] W w1) => dyn_cost w1 (HG17.out.keep k (by simp) (by simp)) _ _ la lb (HI3.out.keep k (by simp)) (HI4.out.keep k (by simp)))
  have HR2 := Lib.hid (fun w1 (k : Keep [] W w1) => rright17_c w1 _ _ la lb true (HI3.out.keep k (by simp)) (HI4.out.keep k (by simp)))
  obtain ⟨bz, hbz⟩ : ∃ bz, right17 la lb large = bz := ⟨_, rfl⟩
  obtain ⟨bt, hbt⟩ : ∃ bt, right17 la lb true = bt := ⟨_, rfl⟩
  obtain ⟨WB, hWB⟩ : ∃ WB, W17 la lb = WB := ⟨_, rfl⟩
  rw [hbz] at HR1 HM HTR HWR HDR HLE
  rw [hbt] at HM HPO HCO HR2
  rw [hWB] at HTR HPO HWR HCO
  clear hbz hbt hWB
  go_wp2_with fail
  refine HR1.out.mono ?_; rintro e w1 ⟨rfl, n1, rfl⟩
  have HN := Lib.hid (st_new (show St W (W.drewN n1) [] from (St.nil W).read ((Keep.refl [] W).drewN n1)))
  clear HR1
  generalize W.drewN n1 = w1 at *
  go_wp2_with fail
  refine HN.out.mono ?_; rintro e w2 ⟨q, rfl, hS, -⟩
  have HW2 := Lib.hid (HWR.out w2 q hS)
  clear HN hS HWR
  go_wp2_with fail
  refine HW2.out.mono ?_; rintro e w3 ⟨er, rfl, k1, k2⟩
  cases bz with
  | false =>
    obtain ⟨rfl, hS⟩ := k2 rfl
    have HS := Lib.hid hS
    have HD := Lib.hid (HDR.out w3 hS.kp)
    clear k1 k2 hS HW2 HTR HM HLE HDR
    go_wp2_with fail
    refine HD.out.mono ?_; rintro e w4 ⟨rfl, k4⟩
    have HS4 := Lib.hid (HS.out.read k4)
    have HC := Lib.hid (HCO.out w4 HS4.out.kp)
    clear HD HS k4 HCO
    go_wp2_with fail
    refine HC.out.mono ?_; rintro e w5 ⟨n, rfl, m1, m2, k5⟩
    have HS5 := Lib.hid (HS4.out.read k5)
    have HR := Lib.hid (HR2.out w5 HS5.out.kp)
    have HCN : Hid (decide (0 < (n : Int)) = bt) := by
      unfold Hid
      cases bt with
      | true => rw [m1 rfl]; have := (HPO.out rfl).1; exact decide_eq_true (by omega)
      | false => rw [m2 rfl]; decide
    clear HC HS4 k5 m1 m2 HR2 HPO
    have hcn := HCN.out
    have hcn' : decide (0 < n) = bt := by rw [← hcn]; simp
    go_wp2_with fail
    refine HR.out.mono ?_; rintro e w6 ⟨rfl, n6, rfl⟩
    have HS6 := Lib.hid (HS5.out.read ((Keep.refl [] w5).drewN n6))
    have HL6 := Lib.hid (st_wlen HS6.out 0 rfl (by decide))
    clear HR HS5
    generalize w5.drewN n6 = w6 at *
    go_wp2_with fail
    refine HL6.out.mono ?_; rintro e w7 ⟨rfl, n7, rfl⟩
    have HS7 := Lib.hid (HS6.out.read ((Keep.refl [] w6).drewN n7))
    clear HL6 HS6
    generalize w6.drewN n7 = w7 at *
    have HL := Lib.hid (lives17_c w7)
    go_wp2_with fail
    refine HL.out.mono ?_; rintro e w8 ⟨rfl, k8⟩
    go_wp2_with fail
    go_ret
    exact ⟨rfl, HS7.out.kp.trans k8 (by simp)⟩
  | true =>
    obtain ⟨rfl, hS⟩ := k1 rfl
    have hS1 : St W w3 [Ob.wr q WB] := hS
    have HS := Lib.hid hS1
    have HD := Lib.hid (HDR.out w3 hS1.kp)
    obtain rfl : bt = true := HM.out rfl
    obtain ⟨p1, p2⟩ := HPO.out rfl
    obtain ⟨le1, le2, le3, le4⟩ := HLE.out rfl
    have HTR2 := Lib.hid (fun L post => HTR.out rfl L post)
    clear k1 k2 hS hS1 HW2 HTR HM HLE HDR HPO
    go_wp2_with fail
    refine HD.out.mono ?_; rintro e w4 ⟨rfl, k4⟩
    have HS4 := Lib.hid (HS.out.read k4)
    have HC := Lib.hid (HCO.out w4 HS4.out.kp)
    clear HD HS k4 HCO
    go_wp2_with fail
    refine HC.out.mono ?_; rintro e w5 ⟨n, rfl, m1, m2, k5⟩
    have hn := m1 trivial
    have HS5 := Lib.hid (HS4.out.read k5)
    have HR := Lib.hid (HR2.out w5 HS5.out.kp)
    have hnp : 0 < n := by rw [hn]; exact p1
    have hnl : n ≤ 10000 := by rw [hn]; exact p2
    have HN := Lib.hid hn
    have HNN : Hid (0 < n ∧ n ≤ 10000) := ⟨hnp, hnl⟩
    have hcn : decide (0 < (n : Int)) = true := decide_eq_true (by omega)
    have hcn' : decide (0 < n) = true := decide_eq_true hnp
    clear HC HS4 k5 m1 m2 HR2 hn p1 p2 hnp hnl
    go_wp2_with fail
    refine HR.out.mono ?_; rintro e w6 ⟨rfl, n6, rfl⟩
    have HS6 := Lib.hid (HS5.out.read ((Keep.refl [] w5).drewN n6))
    have HB6 := Lib.hid (st_wbytes HS6.out 0 rfl (by rw [← HN.out]; have := HNN.out; omega))
    clear HR HS5
    generalize w5.drewN n6 = w6 at *
    go_wp2_with fail
    refine HB6.out.mono ?_; rintro e w7 ⟨v7, L, rfl, ho7, hbits, k7, -⟩
    have HS7 := Lib.hid (HS6.out.read k7)
    have hLl : L.length ≤ 10000 := by
      have e1 := congrArg List.length hbits
      rw [toBits_length, pad8_length, ← HN.out] at e1
      have := HNN.out; omega
    have HRD : Hid (rd17 ⟨L, 0, true, 0⟩ large = (trim17 la 257, trim17 lb 1, 0, ⟨L, n, true, 0⟩)) := by
      unfold pad8 at hbits
      have := HTR2.out L _ hbits
      rw [← HN.out] at this; exact this
    have HOP := Lib.hid (st_open (St.nil w7) v7 L (by omega) ho7.bs)
    have HV7 := Lib.hid ho7.bs
    have HLL := Lib.hid hLl
    obtain ⟨a7, c7, rfl, _⟩ := ho7.bs.shape
    clear HB6 HS6 ho7 hbits k7 HTR2 hLl
    go_wp2_with fail
    refine HOP.out.mono ?_; rintro e w8 ⟨qr, rfl, hS8, k8⟩
    have HG7 : Hid (G17 w7) := HG17.out.keep HS7.out.kp (by simp) (by simp)
    have HS8 := Lib.hid (HS7.out.read k8)
    have hS9 := hS8.pushBox #[.slice a7 L.length c7, .int .i64 (0 : Nat), .int .i64 (0 : Nat)] 38
    have HS9 : Hid (St w7 (w8.alloc (.cells #[.slice a7 L.length c7, .int .i64 0, .int .i64 0] 38)) [Ob.rd qr ⟨L, 0, true, 0⟩, Ob.rr w8.heap.size (.slice a7 L.length c7) ⟨L, 0, true, 0⟩]) := hS9
    have HW9 : Hid (St W (w8.alloc (.cells #[.slice a7 L.length c7, .int .i64 0, .int .i64 0] 38)) [Ob.wr q WB]) := HS8.out.read ((Keep.refl [] w8).alloc _)
    obtain ⟨w9, hw9⟩ : ∃ w9, w8.alloc (.cells #[.slice a7 L.length c7, .int .i64 0, .int .i64 0] 38) = w9 := ⟨_, rfl⟩
    obtain ⟨qx, hqx⟩ : ∃ qx, w8.heap.size = qx := ⟨_, rfl⟩
    rw [hw9, hqx] at HS9
    rw [hw9] at HW9
    have HF : Hid (Fr w7 (.slice a7 L.length c7) L ⟨L, 0, true, 0⟩) := ⟨HV7.out, rfl, ⟨Nat.zero_le _, by have := HLL.out; show L.length ≤ 140737488355328; omega, by show 0 < 100; decide⟩, rfl⟩
    have hdr := dyn_read HS9.out HG7.out 0 rfl large
    rw [HRD.out] at hdr
    have HDR2 := Lib.hid hdr
    have hqx2 : qx < w9.heap.size := by rw [← hw9, ← hqx]; exact (Blk.new w8 _ _).lt
    have HQX := Lib.hid hqx2
    clear HOP hS8 k8 HS8 hS9 hdr HV7 hqx2 HW9
    go_wp2_with fail
    refine HDR2.out.mono ?_; rintro e w10 ⟨u1, u2, rfl, i1, i2, f1, f2, -, hS⟩
    have hS10 : St w7 w10 [Ob.rd qr ⟨L, n, true, 0⟩, Ob.rr qx (.slice a7 L.length c7) ⟨L, 0, true, 0⟩] := hS trivial
    have HS10 := Lib.hid hS10
    have HI1 := Lib.hid i1; have HI2 := Lib.hid i2; have HF1 := Lib.hid f1; have HF2 := Lib.hid f2
    have hrr := rread17_c w10 qx (.slice a7 L.length c7) ⟨L, 0, true, 0⟩ (hS10.rr 1 rfl HF.out) large
    rw [HRD.out] at hrr
    have HRR := Lib.hid hrr
    clear HDR2 hS hS10 i1 i2 f1 f2 hrr hw9 hqx HS9
    go_wp2_with fail
    refine HRR.out.mono ?_; rintro e w11 ⟨m1, m2, rfl, j1, j2, hr, hk⟩
    obtain ⟨hS11, -⟩ := HS10.out.setRr 1 rfl HF.out hr hk rfl
    have HW11 := Lib.hid (HS7.out.read hS11.kp)
    have HQ2 := HQX.out
    have HK1 : Hid (Is .i64 w11 u1 (trim17 la 257)) := HI1.out.keep hk (fun b hb hm => by have := HF1.out b hb; simp at hm; omega)
    have HK2 : Hid (Is .i64 w11 u2 (trim17 lb 1)) := HI2.out.keep hk (fun b hb hm => by have := HF2.out b hb; simp at hm; omega)
    have HJ1 := Lib.hid j1; have HJ2 := Lib.hid j2
    have HLN := st_wlen HW11.out 0 rfl (by rw [← HN.out]; have := HNN.out; omega)
    rw [← HN.out] at HLN
    have HLEN := Lib.hid HLN
    have HPOS := Lib.hid (fun m => st_pos (hS11.read ((Keep.refl [] w11).drewN m)) 0 rfl)
    have HAT : Hid (∀ m, (w11.drewN m).cell? ⟨qx, 1, none⟩ = some (.int .i64 n)) := fun m => (hr.drewN m).1.cell 1 _ rfl
    clear HRR hr hk hS11 HS10 HI1 HI2 HF1 HF2 HF HRD HQX HQ2 j1 j2 HLN HS7
    go_wp2_with fail
    refine HLEN.out.mono ?_; rintro e w12 ⟨rfl, n12, rfl⟩
    have HP2 := Lib.hid (HPOS.out n12)
    have c9 := HAT.out n12
    have kd : Keep [] w11 (w11.drewN n12) := (Keep.refl [] w11).drewN n12
    have HW12 := Lib.hid (HW11.out.read kd)
    have HK1' := Lib.hid (HK1.out.keep kd (by simp)); have HK2' := Lib.hid (HK2.out.keep kd (by simp)); have HJ1' := Lib.hid (HJ1.out.keep kd (by simp)); have HJ2' := Lib.hid (HJ2.out.keep kd (by simp))
    clear HLEN HPOS HAT kd HW11 HK1 HK2 HJ1 HJ2
    generalize w11.drewN n12 = w12 at *
    go_wp2_with fail
    refine HP2.out.mono ?_; rintro e w13 ⟨rfl, rfl⟩
    have HS1 := Lib.hid (sameints_c w12 u1 m1 _ HK1'.out HJ1'.out)
    go_wp2_with fail
    refine HS1.out.mono ?_; rintro e w13 ⟨rfl, n13, rfl⟩
    have kd : Keep [] w12 (w12.drewN n13) := (Keep.refl [] w12).drewN n13
    have HS2 := Lib.hid (sameints_c (w12.drewN n13) u2 m2 _ (HK2'.out.keep kd (by simp)) (HJ2'.out.keep kd (by simp)))
    clear HS1 HP2 c9
    go_wp2_with fail
    refine HS2.out.mono ?_; rintro e w14 ⟨rfl, n14, rfl⟩
    have kd2 : Keep [] w12 ((w12.drewN n13).drewN n14) := kd.drewN n14
    have HW14 := Lib.hid (HW12.out.read kd2)
    have HK14 := Lib.hid (HK1'.out.keep kd2 (by simp)); have HK24 := Lib.hid (HK2'.out.keep kd2 (by simp))
    clear HS2 kd kd2 HW12 HK1' HK2' HJ1' HJ2'
    generalize (w12.drewN n13).drewN n14 = w14 at *
    have hi3 := HI3.out.keep HW14.out.kp (by simp)
    have HT1 := Lib.hid (rtrim17_c w14 a3 la c3 257 hi3 (by omega) (by decide) le1)
    have HT2 := Lib.hid (fun w (k : Keep [] w14 w) => rtrim17_c w a4 lb c4 1 ((HI4.out.keep HW14.out.kp (by simp)).keep k (by simp)) (by omega) (by decide) le3)
    have hp1 := hi3.pre (trimN la 257 la.length) (trimN_le _ _ _)
    have HS3 := Lib.hid (fun w (k : Keep [] w14 w) => sameints_c w u1 _ _ (HK14.out.keep k (by simp)) (hp1.keep k (by simp)))
    have hp2 := (HI4.out.keep HW14.out.kp (by simp)).pre (trimN lb 1 lb.length) (trimN_le _ _ _)
    have HS4 := Lib.hid (fun w (k : Keep [] w14 w) => sameints_c w u2 _ _ (HK24.out.keep k (by simp)) (hp2.keep k (by simp)))
    obtain ⟨t1, ht1⟩ : ∃ t1, trimN la 257 la.length = t1 := ⟨_, rfl⟩
    obtain ⟨t2, ht2⟩ : ∃ t2, trimN lb 1 lb.length = t2 := ⟨_, rfl⟩
    rw [ht1] at HT1 HS3
    rw [ht2] at HT2 HS4
    clear ht1 ht2 hp1 hp2 hi3 HK14 HK24
    go_wp2_with fail
    refine HT1.out.mono ?_; rintro e w15 ⟨rfl, n15, rfl⟩
    have k15 : Keep [] w14 (w14.drewN n15) := (Keep.refl [] w14).drewN n15
    have HS3' := Lib.hid (HS3.out _ k15)
    clear HT1
    go_wp2_with fail
    refine HS3'.out.mono ?_; rintro e w16 ⟨rfl, n16, rfl⟩
    have k16 : Keep [] w14 ((w14.drewN n15).drewN n16) := k15.drewN n16
    have HT2' := Lib.hid (HT2.out _ k16)
    clear HS3' HS3 k15 HT2
    generalize (w14.drewN n15).drewN n16 = w16 at *
    go_wp2_with fail
    refine HT2'.out.mono ?_; rintro e w17 ⟨rfl, n17, rfl⟩
    have k17 : Keep [] w14 (w16.drewN n17) := k16.drewN n17
    have HS4' := Lib.hid (HS4.out _ k17)
    clear HT2' HS4
    go_wp2_with fail
    refine HS4'.out.mono ?_; rintro e w18 ⟨rfl, n18, rfl⟩
    have k18 : Keep [] w14 ((w16.drewN n17).drewN n18) := k17.drewN n18
    clear HS4' k17 k16
    generalize (w16.drewN n17).drewN n18 = w18 at *
    have HL := Lib.hid (lives17_c w18)
    go_wp2_with fail
    refine HL.out.mono ?_; rintro e w19 ⟨rfl, k19⟩
    go_wp2_with fail
    go_ret
    exact ⟨rfl, (HW14.out.kp.trans k18 (by simp)).trans k19 (by simp)⟩
end Go.Proofs.YtibkepjbblfkoaaGreatDoor
