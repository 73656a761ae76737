/- The landed table of layer 10: learn, Child. -/
import Derived.Test.YtpjebbhjagllgaaLz5
namespace Go.Proofs.Ytpjebbhjagllgaa
set_option linter.unusedVariables false
set_option linter.unusedSimpArgs false
open Go.ChangeShapes Go.WideShapes Go.ChangeAt Go.RowKit

/-- m[k] = v of the map, for the walk -/
theorem wpList_linkPut {w : World} {ops : Array Oper} {rest : List Oper} {o : Oper} {a : Act} {Q : Exit → Act → World → Prop} (hg : o.guard = none) (m x v : Operand) (hop : o.op = Op.mapUpdate 51 m x v)
    (g n : Nat) (L : Int → UInt8 → Option Nat) (hL : LinkM w g n L) (hn : n < maxLen) (p : Int) (c : UInt8) (hp : (Lit.int .i64 p).wf = true) (z : Nat) (hz : z < 9223372036854775808)
    (hm : a.eval m = .map (some g)) (hx : a.eval x = .agg #[.int .i64 p, .int .u8 c.toNat]) (hv : a.eval v = .int .i64 (z : Int))
    (h : ∀ w', LinkM w' g (n + 1) (fun p' c' => if p' = p ∧ c' = c then some z else L p' c') → Keep [g] w w' → wpList Try.prog ops Q rest (a.put o.dst undef) w') : wpList Try.prog ops Q (o :: rest) a w := by
  obtain ⟨w', hrun, h1, h2⟩ := hL.put hn p c hp z hz
  refine wpList_plain hg fun K hK => ?_
  unfold Oper.wp
  simp [execOp, hop, hm, hx, hv, hrun, Result.andThen]
  exact hK _ _ (h w' h1 h2)
theorem LinkM.mono {w : World} {g n n' : Nat} {L : Int → UInt8 → Option Nat} (h : LinkM w g n L) (hn : n ≤ n') : LinkM w g n' L := by
  obtain ⟨D, h1, h2⟩ := h; exact ⟨D, h1.mono hn, h2⟩
theorem LTb.learned {w wr : World} {q sb : Nat} {vg : Value} {g k : Nat} {gs : List Nat} {s : LT} {L : Int → UInt8 → Option Nat} (h : LTb w q sb vg g k gs s) (kp : Keep [g] w wr) (hL : LinkM wr g gs.length L) (hl : Lst s.rows gs L) :
    LTb (wr.setCell ⟨q, 3, none⟩ (.int .i64 gs.length)) q sb vg g gs.length gs s ∧ Keep [q, g] w (wr.setCell ⟨q, 3, none⟩ (.int .i64 gs.length)) := by
  have hqg := h.qg
  have hqs := h.qs
  have hsg := h.sg
  have K2 : Keep [q] wr (wr.setCell ⟨q, 3, none⟩ (.int .i64 gs.length)) := (Keep.refl _ _).setCell (.inl (by simp)) _
  have KA : Keep [q, g] w (wr.setCell ⟨q, 3, none⟩ (.int .i64 gs.length)) := (kp.mono (S' := [q, g]) (by simp)).trans K2 (fun x hx => .inl (by simp at hx; simp [hx]))
  refine ⟨⟨?_, h.slo.keep KA (by intro b hb; simp [Value.ownBlock] at hb; subst hb; simpa using ⟨hqs.symm, hsg⟩), h.giv.keep KA (fun b hb => by have := h.vb b hb; simpa using ⟨this.1, this.2.2⟩), ⟨L, hL.keep K2 (by simpa using hqg.symm), by rw [List.take_length]; exact hl⟩, h.per, Nat.le_refl _, h.ok, hqs, hqg, hsg, h.vb⟩, KA⟩
  exact (h.box.keep kp (by simpa using hqg)).set 3 (.int .i64 gs.length)
set_option maxRecDepth 100000 in
set_option maxHeartbeats 4000000 in
theorem llearn_c (w : World) (q sb : Nat) (vg : Value) (g k : Nat) (gs : List Nat) (s : LT) (h : LTb w q sb vg g k gs s) : Calls Try.prog 35 #[.pointer (some ⟨q, 0, none⟩)] w fun e w' => e = .returned (.tuple #[]) ∧
    LTb w' q sb vg g gs.length gs s ∧ Keep [q, g] w w' := by
  have HH := Lib.hid h
  have c1 : w.cell? ⟨q, 1, none⟩ = some vg := h.box.cell 1 _ rfl
  have c3 : w.cell? ⟨q, 3, none⟩ = some (.int .i64 k) := h.box.cell 3 _ rfl
  obtain ⟨v2, hfr, hg2, hown⟩ := h.giv.gs.from EIg k (k : Int) rfl h.kle
  have HOWN := Lib.hid hown
  obtain ⟨a2, cap2, hv2, _⟩ := hg2.sh
  subst hv2
  have HG2 := Lib.hid hg2
  obtain ⟨n2, hl2⟩ : ∃ n2, (gs.drop k).length = n2 := ⟨_, rfl⟩
  have hfr' : ∀ W, (Instr.slice 50 vg (some (.int .i64 (k : Int))) none none).run Try.prog W = .ok (.slice a2 (gs.drop k).length cap2) W := hfr
  rw [hl2] at hfr' HG2 HOWN
  have HL2 : Hid (k + n2 = gs.length) := by rw [← hl2, List.length_drop]; have := HH.out.kle; show _ = _; omega
  clear hl2 hg2 hown h hfr
  go_enter Try.func35, Try.ntmps35
  go_wp2_with fail
  go_quiet (fail)
  have K0 : Hid (Keep [g] w (w.drewN nq)) := (Keep.refl [g] w).drewN nq
  have HB0 := Lib.hid (HH.out.box.drewN nq)
  have HM0 := Lib.hid (HH.out.drewN nq).lea
  generalize w.drewN nq = w1 at *
  clear c1 c3 hfr'
  go_wp2_with fail
  have hgq : g ∉ [g] → False := by simp
  go_loopw [17] (fun iv wr => ∃ j : Nat, iv = .int .i64 j ∧ j ≤ n2 ∧ Hid (∃ L, LinkM wr g (k + j) L ∧ Lst s.rows (gs.take (k + j)) L) ∧ Hid (Keep [g] w wr)) (fun iv _ => n2 - (intOf iv).toNat)
  case atStart => exact ⟨0, rfl, Nat.zero_le _, HM0, K0⟩
  case round =>
    obtain ⟨j, rfl, hj, hm, hk⟩ := hrel
    clear HM0 K0 HB0
    have hgs : ∀ b, (Value.slice a2 n2 cap2).ownBlock = some b → b ∉ [g] := fun b hb => by
      have := (HH.out.vb b (HOWN.out b hb)).2.2
      simpa using this
    by_cases hlt : j < n2
    · have hlt2 : (j : Int) < n2 := by omega
      obtain ⟨L, hL, hlst⟩ := hm.out
      have hkl : k + j < gs.length := by have := HL2.out; omega
      have hGr := HG2.out.keep EIg hk.out hgs
      have hjd : j < (gs.drop k).length := by rw [List.length_drop]; omega
      obtain ⟨b, off, cap', hv, hcl⟩ := hGr.at EIg j hjd
      simp only [Value.slice.injEq] at hv
      obtain ⟨rfl, x1, rfl⟩ := hv
      clear x1
      have hc0 := hcl 0 (by decide)
      rw [List.getElem_drop] at hc0
      have hc0' : wr.cell? ⟨b, off + j, none⟩ = some (.int .i64 (gs[k + j] : Nat)) := by simpa [EI] using hc0
      have hmem : gs[k + j] ∈ gs := List.getElem_mem hkl
      have hsm := HH.out.per.small HH.out.ok hmem
      obtain ⟨rr, hrr⟩ := (HH.out.per.mem HH.out.ok.srt _).1 hmem
      have hrd := HH.out.rd.keep hk.out (by simpa using HH.out.qg) (by simpa using HH.out.sg)
      have d0 := hrd.c0
      obtain ⟨s0, s1, s2⟩ := hrd.sl gs[k + j] hsm.2
      have hps := hrd.sm gs[k + j]
      have htk : gs.take (k + (j + 1)) = gs.take (k + j) ++ [gs[k + j]] := by rw [← Nat.add_assoc, List.take_add_one, List.getElem?_eq_getElem hkl]; rfl
      have HLK := Lib.hid (llink_c wr (sloF s.rows gs[k + j]).par (sloF s.rows gs[k + j]).byt (sloF s.rows gs[k + j]).on hps)
      have HPUT := Lib.hid (hlst.put gs[k + j])
      have HSKIP := Lib.hid (hlst.skip gs[k + j])
      rw [← htk] at HPUT HSKIP
      have HL := Lib.hid hL
      have hcn := hsm.2
      have hjb : j < 8000 := by have h1 := HH.out.per.len; have h2 := HH.out.ok.len; omega
      have HGL : Hid (gs.length ≤ 7935) := by have := HH.out.per.len; have := HH.out.ok.len; show _ ≤ _; omega
      clear hcl hc0 hmem hsm hrr hrd htk hL hlst hm hjd hGr hgs
      generalize (sloF s.rows gs[k + j]).par = pp at *
      generalize (sloF s.rows gs[k + j]).byt = yy at *
      generalize (sloF s.rows gs[k + j]).on = oo at *
      generalize gs[k + j] = cc at *
      have hcz : (cc : Int) < 8192 := by omega
      go_wp2_with fail
      refine HLK.out.mono ?_; rintro e w2 ⟨rfl, k2⟩
      clear HLK
      obtain ⟨w3, hw3⟩ : ∃ w3, w2.alloc (.cells #[.int .i64 pp, .int .u8 yy.toNat] 44) = w3 := ⟨_, rfl⟩
      obtain ⟨l, hl⟩ : ∃ l, w2.heap.size = l := ⟨_, rfl⟩
      have hB3 := Blk.new w2 #[.int .i64 pp, .int .u8 yy.toNat] 44
      have K3 : Keep [] wr w3 := by rw [← hw3]; exact k2.alloc _
      rw [hw3, hl] at hB3
      have HLW : Hid (w.heap.size ≤ l) := by have h1 := hk.out.size; have h2 := k2.size; show _ ≤ _; omega
      have HL3 := Lib.hid (HL.out.keep K3 (by simp))
      have HB3 := Lib.hid (HH.out.box.keep (hk.out.trans K3 (S' := []) (by simp)) (by simpa using HH.out.qg))
      have HK3 := Lib.hid (hk.out.trans K3 (S' := []) (by simp))
      have c2 := HB3.out.cell 2 _ rfl
      have p0 := hB3.cell 0 _ rfl
      have p1 := hB3.cell 1 _ rfl
      have HBL := Lib.hid hB3
      clear K3 hk k2 HL hc0' d0 s0 s1 s2 hB3
      have hpw : (Lit.int .i64 (pp : Int)).wf = true := by simp [Lit.wf, IntKind.min, IntKind.max, IntKind.bits, IntKind.signed]; omega
      have HPW := Lib.hid hpw
      have hlk := fun n => (HL3.out.keep ((Keep.refl [] w3).drewN n) (by simp)).look (pp : Int) yy HPW.out
      clear hpw
      cases hLv : L pp yy with
      | none =>
        have HP2 := Lib.hid (HPUT.out (.inl hLv))
        rw [hLv] at hlk
        simp only at hlk
        clear HPUT HSKIP hLv
        go_wp2_with fail
        go_quiet (fail)
        have HK4 : Hid (Keep [g] w (w3.drewN nq)) := HK3.out.drewN nq
        have HB4 := Lib.hid (HB3.out.drewN nq)
        have HL4 : Hid (LinkM (w3.drewN nq) g (k + j) L) := HL3.out.keep ((Keep.refl [] w3).drewN nq) (by simp)
        have HBL4 := Lib.hid (HBL.out.drewN nq)
        generalize w3.drewN nq = w4 at *
        clear HK3 HB3 HL3 HBL c2 p0 p1 hlk
        have c2 := HB4.out.cell 2 _ rfl
        have p0 := HBL4.out.cell 0 _ rfl
        have p1 := HBL4.out.cell 1 _ rfl
        go_wp2_with fail
        go_still_tail 6, (by kernel_rfl)
        change wpList _ _ _ _ _ w4.drew
        have HL5 : Hid (LinkM w4.drew g (k + j) L) := HL4.out.keep ((Keep.refl [] w4).drew) (by simp)
        have HK5 : Hid (Keep [g] w w4.drew) := HK4.out.drew
        generalize w4.drew = w5 at HL5 HK5 ⊢
        clear c2 p0 p1 HB4 HL4 HBL4 HK4
        have hkm : k + j < maxLen := by have := HGL.out; unfold maxLen; omega
        refine wpList_linkPut rfl _ _ _ rfl g (k + j) L HL5.out hkm (pp : Int) yy HPW.out cc (by omega) rfl rfl rfl ?_
        intro w6 hl6 hk6
        have HL6 := Lib.hid hl6
        have HK6 := Lib.hid hk6
        clear hl6 hk6 hkm
        go_wp2_with fail
        go_roundw
        case rel => exact ⟨j + 1, by go_num, by omega, ⟨_, HL6.out, HP2.out⟩, HK5.out.trans HK6.out (fun x hx => .inl hx)⟩
        case measure => simp [intOf]; omega
      | some m =>
        rw [hLv] at hlk
        simp only at hlk
        by_cases hcm : cc < m
        · have HP2 := Lib.hid (HPUT.out (.inr ⟨m, hLv, hcm⟩))
          have hcm2 : (cc : Int) < m := by omega
          clear HPUT HSKIP hLv
          go_wp2_with fail
          go_quiet (fail)
          have HK4 : Hid (Keep [g] w (w3.drewN nq)) := HK3.out.drewN nq
          have HB4 := Lib.hid (HB3.out.drewN nq)
          have HL4 : Hid (LinkM (w3.drewN nq) g (k + j) L) := HL3.out.keep ((Keep.refl [] w3).drewN nq) (by simp)
          have HBL4 := Lib.hid (HBL.out.drewN nq)
          generalize w3.drewN nq = w4 at *
          clear HK3 HB3 HL3 HBL c2 p0 p1 hlk
          have c2 := HB4.out.cell 2 _ rfl
          have p0 := HBL4.out.cell 0 _ rfl
          have p1 := HBL4.out.cell 1 _ rfl
          go_wp2_with fail
          go_still_tail 6, (by kernel_rfl)
          change wpList _ _ _ _ _ w4.drew
          have HL5 : Hid (LinkM w4.drew g (k + j) L) := HL4.out.keep ((Keep.refl [] w4).drew) (by simp)
          have HK5 : Hid (Keep [g] w w4.drew) := HK4.out.drew
          generalize w4.drew = w5 at HL5 HK5 ⊢
          clear c2 p0 p1 HB4 HL4 HBL4 HK4
          have hkm : k + j < maxLen := by have := HGL.out; unfold maxLen; omega
          refine wpList_linkPut rfl _ _ _ rfl g (k + j) L HL5.out hkm (pp : Int) yy HPW.out cc (by omega) rfl rfl rfl ?_
          intro w6 hl6 hk6
          have HL6 := Lib.hid hl6
          have HK6 := Lib.hid hk6
          clear hl6 hk6 hkm
          go_wp2_with fail
          go_roundw
          case rel => exact ⟨j + 1, by go_num, by omega, ⟨_, HL6.out, HP2.out⟩, HK5.out.trans HK6.out (fun x hx => .inl hx)⟩
          case measure => simp [intOf]; omega
        · have HP2 := Lib.hid (HSKIP.out m hLv (by omega))
          have hcm2 : ¬ (cc : Int) < m := by omega
          clear HPUT HSKIP hLv
          go_wp2_with fail
          go_quiet (fail)
          have HK4 : Hid (Keep [g] w (w3.drewN nq)) := HK3.out.drewN nq
          have HB4 := Lib.hid (HB3.out.drewN nq)
          have HL4 : Hid (LinkM (w3.drewN nq) g (k + j) L) := HL3.out.keep ((Keep.refl [] w3).drewN nq) (by simp)
          have HBL4 := Lib.hid (HBL.out.drewN nq)
          generalize w3.drewN nq = w4 at *
          clear HK3 HB3 HL3 HBL c2 p0 p1 hlk
          go_wp2_with fail
          go_roundw
          case rel => exact ⟨j + 1, by go_num, by omega, ⟨L, HL4.out.mono (Nat.le_succ _), HP2.out⟩, HK4.out⟩
          case measure => simp [intOf]; omega
    · have hlt2 : ¬ (j : Int) < n2 := by omega
      have hje : j = n2 := by omega
      subst hje
      obtain ⟨L, hL, hlst⟩ := hm.out
      rw [HL2.out] at hL hlst
      rw [List.take_length] at hlst
      obtain ⟨r1, r2⟩ := HH.out.learned hk.out hL hlst
      have HR1 := Lib.hid r1
      have HR2 := Lib.hid r2
      have hbx := HH.out.box.keep hk.out (by simpa using HH.out.qg)
      have c1 := hbx.cell 1 _ rfl
      have c3 := hbx.cell 3 _ rfl
      have f3 := hbx.free 3
      obtain ⟨a, cap, hvg, _, _⟩ := HH.out.giv.gs.sh
      subst hvg
      clear hL hlst r1 r2 hbx hlt hm
      go_wp2_with fail
      go_end0
      exact ⟨rfl, HR1.out, HR2.out⟩
set_option maxRecDepth 100000 in
set_option maxHeartbeats 2000000 in
theorem lchild_c (w : World) (q sb : Nat) (vg : Value) (g k : Nat) (gs : List Nat) (s : LT) (p : Int) (c : UInt8) (hp : (Lit.int .i64 p).wf = true) (h : LTb w q sb vg g k gs s) : Calls Try.prog 24 #[.pointer (some ⟨q, 0, none⟩), .int .i64 p, .int .u8 c.toNat] w fun e w' => e = .returned (.int .i64 (s.child p c)) ∧
    LTb w' q sb vg g gs.length gs s ∧ Keep [q, g] w w' := by
  have HM := Lib.hid (lmade_c w q sb (h.box.cell 0 _ rfl))
  have HLE := Lib.hid (llearn_c w q sb vg g k gs s h)
  have HP := Lib.hid hp
  clear h hp
  go_enter Try.func24, Try.ntmps24
  go_wp2_with fail
  refine HM.out.mono ?_; rintro e w' ⟨rfl, rfl⟩
  clear HM
  go_wp2_with fail
  refine HLE.out.mono ?_; rintro e w2 ⟨rfl, h2, k2⟩
  clear HLE
  obtain ⟨L, hL, hlst⟩ := h2.lea
  rw [List.take_length] at hlst
  have HC := Lib.hid (hlst.child h2.ok h2.per p c)
  have hlk := hL.look p c HP.out
  have c2 := h2.box.cell 2 _ rfl
  have H2 := Lib.hid h2
  have K2 := Lib.hid k2
  clear hL hlst h2 k2
  cases hLv : L p c with
  | none =>
    rw [hLv] at hlk
    simp only at hlk
    have HR : Hid (s.child p c = -1) := by have := HC.out; rw [hLv] at this; exact this
    clear HC hLv
    go_wp2_with fail
    go_ret
    exact ⟨by rw [HR.out]; rfl, H2.out, K2.out⟩
  | some m =>
    rw [hLv] at hlk
    simp only at hlk
    have HR : Hid (s.child p c = m) := by have := HC.out; rw [hLv] at this; exact this
    clear HC hLv
    go_wp2_with fail
    go_ret
    exact ⟨by rw [HR.out]; rfl, H2.out, K2.out⟩
end Go.Proofs.Ytpjebbhjagllgaa
