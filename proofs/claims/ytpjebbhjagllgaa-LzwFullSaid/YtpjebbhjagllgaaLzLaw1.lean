/- Contracts of lives and asks of layer 10. -/
import Derived.Test.YtpjebbhjagllgaaLz
import Derived.Test.YtpjebbhjagllgaaCls
import Derived.Test.YtpjebbhjagllgaaText
import Derived.Laws.StructEq
namespace Go.Proofs.Ytpjebbhjagllgaa
set_option linter.unusedVariables false
set_option linter.unusedSimpArgs false
open Go.ChangeShapes Go.WideShapes Go.ChangeAt Go.RowKit

theorem Keep.andThen {a b c : World} (h : Keep [] a b) (k : Keep [] b c) : Keep [] a c := h.trans k (by simp)
theorem lives10_add : LT.new.add 97 98 = (257, ⟨[⟨257, 97, 98⟩], 257⟩) := by decide +kernel
theorem lives10_text : LT.text ⟨[⟨257, 97, 98⟩], 257⟩ 257 = some [97, 98] := by decide +kernel
theorem wf_of (z : Int) (h0 : -9223372036854775808 ≤ z) (h : z ≤ 9223372036854775807) : (Lit.int .i64 z).wf = true := by
  simp [Lit.wf, IntKind.min, IntKind.max, IntKind.bits, IntKind.signed]; omega
theorem lives10_c (w : World) : Calls Try.prog 15 #[] w fun e w' => e = .returned (.bool true) ∧ Keep [] w w' := by
  go_enter Try.func15, Try.ntmps15
  go_wp2_with fail
  refine (lz_new w).mono ?_; rintro e w1 ⟨q, bs, rfl, ht, k1, hb1⟩
  have HA := Lib.hid (lz_add w1 q bs LT.new 97 98 (by decide) ht)
  rw [lives10_add] at HA
  clear ht
  go_wp2_with fail
  refine HA.out.mono ?_; rintro e w2 ⟨rfl, bs2, ht2, k2, hb2⟩
  have K2 := Lib.hid (k1.trans k2 (fun x hx => .inr (hb1 x hx)))
  have HX := Lib.hid (lz_text w2 q bs2 _ 257 (by decide) ht2)
  rw [lives10_text] at HX
  clear HA k1 hb1 k2 hb2 ht2
  go_wp2_with fail
  refine HX.out.mono ?_; rintro e w3 ⟨v3, rfl, hv3, k3, _⟩
  have htx := hv3.text
  have hst : ((txt [97, 98]).toList == [97, 98]) = true := by rw [ByteArray.toList_eq]; decide
  have K3 := Lib.hid (K2.out.trans k3 (by simp))
  clear HX hv3 k3
  go_wp2_with fail
  go_ret
  exact ⟨rfl, K3.out⟩
/-- what both tables answer of a code -/
def Both (w : World) (q : Nat) (bs : List Nat) (q2 : Nat) (v2 : Value) (s : LT) : Prop := LTab w q bs s ∧ RT w q2 v2 s
theorem Both.keep {w w' : World} {q : Nat} {bs : List Nat} {q2 : Nat} {v2 : Value} {s : LT} (h : Both w q bs q2 v2 s) (k : Keep [] w w') : Both w' q bs q2 v2 s := ⟨h.1.keep k (by simp), h.2.keep k (by simp) (by simp)⟩
set_option maxRecDepth 100000 in
set_option maxHeartbeats 4000000 in
theorem asks_c (w : World) (q q2 : Nat) (bs : List Nat) (v2 : Value) (s : LT) (c : Int) (y : UInt8) (hc : (Lit.int .i64 c).wf = true) (h : Both w q bs q2 v2 s) (hq2 : q2 ∉ bs) (hv2b : ∀ b, v2.ownBlock = some b → b ∉ bs) : Calls Try.prog 12 #[.pointer (some ⟨q, 0, none⟩), .pointer (some ⟨q2, 0, none⟩), .int .i64 c, .int .u8 y.toNat] w fun e w' => e = .returned (.bool true) ∧ Both w' q bs q2 v2 s ∧ Keep bs w w' := by
  have HT := Lib.hid (lz_text w q bs s c hc h.1)
  have HBO := Lib.hid (fun w' (k : Keep [] w w') => h.keep k)
  obtain ⟨a2, cap2, hv2, hvc, _⟩ := h.2.2.1.sh
  subst hv2
  have HDJ : Hid (q2 ∉ bs ∧ ∀ b, (Value.slice a2 s.rows.length cap2).ownBlock = some b → b ∉ bs) := ⟨hq2, hv2b⟩
  clear hq2 hv2b
  have HWF := Lib.hid hc
  go_enter Try.func12, Try.ntmps12
  go_wp2_with fail
  refine HT.out.mono ?_; rintro e w1 ⟨va, rfl, hva, k1, _⟩
  have HT2 := Lib.hid (rtext_c w1 q2 _ s c (HBO.out w1 k1).2)
  clear HT
  generalize (s.text c).getD [] = tx at *
  generalize (s.text c).isSome = ts at *
  go_wp2_with fail
  refine HT2.out.mono ?_; rintro e w2 ⟨vb, rfl, hvb, k2, _⟩
  have K2 := k1.trans k2 (by simp)
  have hva2 := hva.keep k2 (by simp)
  have hvb2 := hvb.bs
  clear HT2 hva hvb k1 k2
  have HB2 := Lib.hid (HBO.out w2 K2)
  have HA2 := Lib.hid (rat_c w2 q2 _ s c HB2.out.2)
  have hls := HB2.out.2.2.2.2.1
  have HSS : Hid (∀ w', Keep [] w w' → Both w' q bs q2 (.slice a2 s.rows.length cap2) s) := HBO.out
  have hts : (ts != ts) = false := by simp
  have HLN := Lib.hid (fun (w0 w' : World) (bk : Both w' q bs q2 (.slice a2 s.rows.length cap2) s ∧ Keep bs w0 w') => (lz_next w' q bs s bk.1.1).mono fun _ w'' ⟨h1, h2⟩ => (⟨h1, bk.1.keep h2, bk.2.trans h2 (by simp)⟩ : _ ∧ Both w'' q bs q2 (.slice a2 s.rows.length cap2) s ∧ Keep bs w0 w''))
  have HLU := Lib.hid (fun (w0 w' : World) (bk : Both w' q bs q2 (.slice a2 s.rows.length cap2) s ∧ Keep bs w0 w') => (lz_used w' q bs s bk.1.1).mono fun _ w'' ⟨h1, h2⟩ => (⟨h1, bk.1.keep h2, bk.2.trans h2 (by simp)⟩ : _ ∧ Both w'' q bs q2 (.slice a2 s.rows.length cap2) s ∧ Keep bs w0 w''))
  have HLC := Lib.hid (fun (w0 w' : World) (bk : Both w' q bs q2 (.slice a2 s.rows.length cap2) s ∧ Keep bs w0 w') => (lz_child w' q bs s c y HWF.out bk.1.1).mono fun _ w'' ⟨h1, h2, h3⟩ => (⟨h1, ⟨h2, bk.1.2.keep h3 HDJ.out.1 (fun _ b hb => HDJ.out.2 b hb)⟩, bk.2.trans h3 (fun x hx => .inl hx)⟩ : _ ∧ Both w'' q bs q2 (.slice a2 s.rows.length cap2) s ∧ Keep bs w0 w''))
  have HRC := Lib.hid (fun (w0 w' : World) (bk : Both w' q bs q2 (.slice a2 s.rows.length cap2) s ∧ Keep bs w0 w') => (kept_drewN (rchild_c w' q2 _ s c y bk.1.2)).mono fun _ w'' ⟨h1, h2⟩ => (⟨h1, bk.1.keep h2, bk.2.trans h2 (by simp)⟩ : _ ∧ Both w'' q bs q2 (.slice a2 s.rows.length cap2) s ∧ Keep bs w0 w''))
  have HRN := Lib.hid (fun (w0 w' : World) (bk : Both w' q bs q2 (.slice a2 s.rows.length cap2) s ∧ Keep bs w0 w') => (kept_drewN (rnext_c w' q2 _ s bk.1.2)).mono fun _ w'' ⟨h1, h2⟩ => (⟨h1, bk.1.keep h2, bk.2.trans h2 (by simp)⟩ : _ ∧ Both w'' q bs q2 (.slice a2 s.rows.length cap2) s ∧ Keep bs w0 w''))
  have hcc : ((s.child c y : Int) == s.child c y) = true := by simp
  have hnn : ((s.next : Int) == s.next) = true := by simp
  have huu : (((s.rows.length : Nat) : Int) == (s.rows.length : Nat)) = true := by simp
  rcases atI_cases s.rows c with hat | ⟨i, hat, hil, hic⟩
  · have HLK := Lib.hid (fun w' (k : Keep [] w w') => lz_nolink w' q bs s c HWF.out (HBO.out w' k).1 (by omega))
    have HAA := Lib.hid (fun w' (k : Keep [] w w') => rat_c w' q2 _ s c (HBO.out w' k).2)
    rw [hat] at HAA
    clear HBO hat HA2
    generalize s.child c y = chi at *
    generalize s.next = nxt at *
    generalize s.rows.length = rl at *
    go_wp2_with fail
    refine (HLK.out w2 K2).mono ?_; rintro e w3 ⟨rfl, k3⟩
    have K3 := K2.trans k3 (by simp)
    have hX := Blk.new w3 #[.int .i64 0, .int .u8 0] 44
    have p0 := hX.cell 0 _ rfl
    have p1 := hX.cell 1 _ rfl
    have g0 := hX.free 0
    have g1 := hX.free 1
    have K4 := K3.alloc (.cells #[.int .i64 0, .int .u8 0] 44)
    have K34 := k3.alloc (.cells #[.int .i64 0, .int .u8 0] 44)
    have HA4 := Lib.hid (HAA.out _ K4)
    clear HAA
    go_wp2_with fail
    refine HA4.out.mono ?_; rintro e w5' ⟨rfl, m, rfl⟩
    have hL5 := hX.drewN m
    have K5 := K4.drewN m
    have K25 := K34.drewN m
    generalize (w3.alloc (.cells #[.int .i64 0, .int .u8 0] 44)).drewN m = w5 at *
    generalize w3.heap.size = l at *
    clear HA4 p0 p1 g0 g1 hX K4 K34 K3 k3
    have hva5 := hva2.keep K25 (by simp)
    have hvb5 := hvb2.keep K25 (by simp)
    clear K25
    have HK5 := Lib.hid K5
    have HSA5 := Lib.hid (fun n => same_c (w5.drewN n) va vb tx tx (hva5.keep ((Keep.refl [] w5).drewN n) (by simp)) (hvb5.keep ((Keep.refl [] w5).drewN n) (by simp)))
    rw [decide_eq_true rfl] at HSA5
    have g0 : w5.cell? ⟨l, 0, none⟩ = some (.int .i64 0) := hL5.cell 0 _ rfl
    have g1 : w5.cell? ⟨l, 1, none⟩ = some (.int .u8 0) := hL5.cell 1 _ rfl
    clear hL5 hva5 hvb5
    go_wp2_with fail
    go_quiet ((go_at_call 19; exact Calls.quiet_of (HSA5.out _)))
    have K6 : Keep [] w (w5.drewN nq) := HK5.out.drewN nq
    generalize w5.drewN nq = w6 at *
    clear g0 g1 HSA5 K5 HK5
    have HK6 := Lib.hid K6
    have hb6 : Both w6 q bs q2 (.slice a2 rl cap2) s := HSS.out w6 HK6.out
    haveI : Inhabited (Cls fun x => Both x q bs q2 (.slice a2 rl cap2) s ∧ Keep bs w6 x) := ⟨⟨w6, hb6, Keep.refl _ _⟩⟩
    have c0 : ∀ p : Cls (fun x => Both x q bs q2 (.slice a2 rl cap2) s ∧ Keep bs w6 x), p.x.cell? ⟨q2, 0, none⟩ = some (.slice a2 rl cap2) := fun p => p.h.1.2.1.cell 0 _ rfl
    have HCH : Hid (∀ p : Cls (fun x => Both x q bs q2 (.slice a2 rl cap2) s ∧ Keep bs w6 x), Both p.x q bs q2 (.slice a2 rl cap2) s ∧ Keep bs w6 p.x) := fun p => p.h
    have HD6 : Hid (Both w6.drew q bs q2 (.slice a2 rl cap2) s ∧ Keep bs w6 w6.drew) := ⟨hb6.keep ((Keep.refl [] w6).drew), (Keep.refl bs w6).drew⟩
    clear hb6
    go_wp2_with fail
    refine wp_region_cls (fun x => Both x q bs q2 (.slice a2 rl cap2) s ∧ Keep bs w6 x) HD6.out (by kernel_rfl) (by kernel_rfl) ?_
    repeat (quiet_step (first
      | (go_at_call 24; with_reducible exact cls_of (HLC.out w6 _ (HCH.out _)))
      | (go_at_call 30; with_reducible exact cls_of (HRC.out w6 _ (HCH.out _)))
      | (go_at_call 17; with_reducible exact cls_of (HLN.out w6 _ (HCH.out _)))
      | (go_at_call 27; with_reducible exact cls_of (HRN.out w6 _ (HCH.out _)))
      | (go_at_call 22; with_reducible exact cls_of (HLU.out w6 _ (HCH.out _)))))
    refine wpQuiet_nil ?_
    intro _ hw'
    obtain ⟨p, hw''⟩ := hw'
    subst hw''
    have KE := Lib.hid p.h
    have KK : Hid (Keep bs w p.x) := HK6.out.nil.trans p.h.2 (fun x hx => .inl hx)
    clear c0
    go_wp2_with fail
    go_ret
    have hrl : rl = s.rows.length := by
      obtain ⟨_, _, hv, _⟩ := KE.out.1.2.2.1
      simp only [Value.slice.injEq] at hv; exact hv.2.1
    have hB := KE.out.1
    subst hrl
    exact ⟨rfl, hB, KK.out⟩
  · have HLK := Lib.hid (fun w' (k : Keep [] w w') => lz_link w' q bs s c HWF.out (HBO.out w' k).1 i hat)
    have HAA := Lib.hid (fun w' (k : Keep [] w w') => rat_c w' q2 _ s c (HBO.out w' k).2)
    have HGG := Lib.hid (fun w' (k : Keep [] w w') => (HBO.out w' k).2.2.1.lk i hil)
    have hilz : (i : Int) < s.rows.length := by omega
    rw [hat] at HAA
    clear HBO hat HA2 hic hil
    generalize (rw' s.rows i).par = lp at *
    generalize (rw' s.rows i).byt.toNat = ly at *
    generalize (rw' s.rows i).code = lc at *
    generalize s.child c y = chi at *
    generalize s.next = nxt at *
    generalize s.rows.length = rl at *
    go_wp2_with fail
    refine (HLK.out w2 K2).mono ?_; rintro e w3 ⟨rfl, k3⟩
    have K3 := K2.trans k3 (by simp)
    have hX := Blk.new w3 #[.int .i64 0, .int .u8 0] 44
    have hX2 := Blk.new w3 #[.int .i64 lp, .int .u8 ly] 44
    have p0 := hX.cell 0 _ rfl
    have p1 := hX.cell 1 _ rfl
    have g0 := hX.free 0
    have g1 := hX.free 1
    have K4 := K3.alloc (.cells #[.int .i64 lp, .int .u8 ly] 44)
    have K34 := k3.alloc (.cells #[.int .i64 lp, .int .u8 ly] 44)
    have HA4 := Lib.hid (HAA.out _ K4)
    clear HAA
    go_wp2_with fail
    refine HA4.out.mono ?_; rintro e w5' ⟨rfl, m, rfl⟩
    have hL5 := hX2.drewN m
    have K5 := K4.drewN m
    have K25 := K34.drewN m
    generalize (w3.alloc (.cells #[.int .i64 lp, .int .u8 ly] 44)).drewN m = w5 at *
    generalize w3.heap.size = l at *
    clear HA4 p0 p1 g0 g1 hX hX2 K4 K34 K3 k3
    have hva5 := hva2.keep K25 (by simp)
    have hvb5 := hvb2.keep K25 (by simp)
    clear K25
    have HK5 := Lib.hid K5
    have HSA5 := Lib.hid (fun n => same_c (w5.drewN n) va vb tx tx (hva5.keep ((Keep.refl [] w5).drewN n) (by simp)) (hvb5.keep ((Keep.refl [] w5).drewN n) (by simp)))
    rw [decide_eq_true rfl] at HSA5
    have g0 : w5.cell? ⟨l, 0, none⟩ = some (.int .i64 lp) := hL5.cell 0 _ rfl
    have g1 : w5.cell? ⟨l, 1, none⟩ = some (.int .u8 ly) := hL5.cell 1 _ rfl
    have c0 : w5.cell? ⟨q2, 0, none⟩ = some (.slice a2 rl cap2) := (HSS.out w5 K5).2.1.cell 0 _ rfl
    obtain ⟨rb, off, cp, hv, _, r1, r2⟩ := HGG.out w5 K5
    simp only [Value.slice.injEq] at hv
    obtain ⟨rfl, x1, rfl⟩ := hv
    clear x1
    clear hL5 hva5 hvb5
    go_wp2_with fail
    go_quiet ((go_at_call 19; exact Calls.quiet_of (HSA5.out _)))
    have K6 : Keep [] w (w5.drewN nq) := HK5.out.drewN nq
    generalize w5.drewN nq = w6 at *
    clear g0 g1 HSA5 K5 HK5 c0 r1 r2
    have HK6 := Lib.hid K6
    have hb6 : Both w6 q bs q2 (.slice (some ⟨rb, off, none⟩) rl cap2) s := HSS.out w6 HK6.out
    haveI : Inhabited (Cls fun x => Both x q bs q2 (.slice (some ⟨rb, off, none⟩) rl cap2) s ∧ Keep bs w6 x) := ⟨⟨w6, hb6, Keep.refl _ _⟩⟩
    have c0 : ∀ p : Cls (fun x => Both x q bs q2 (.slice (some ⟨rb, off, none⟩) rl cap2) s ∧ Keep bs w6 x), p.x.cell? ⟨q2, 0, none⟩ = some (.slice (some ⟨rb, off, none⟩) rl cap2) := fun p => p.h.1.2.1.cell 0 _ rfl
    have HCH : Hid (∀ p : Cls (fun x => Both x q bs q2 (.slice (some ⟨rb, off, none⟩) rl cap2) s ∧ Keep bs w6 x), Both p.x q bs q2 (.slice (some ⟨rb, off, none⟩) rl cap2) s ∧ Keep bs w6 p.x) := fun p => p.h
    have HD6 : Hid (Both w6.drew q bs q2 (.slice (some ⟨rb, off, none⟩) rl cap2) s ∧ Keep bs w6 w6.drew) := ⟨hb6.keep ((Keep.refl [] w6).drew), (Keep.refl bs w6).drew⟩
    clear hb6
    go_wp2_with fail
    refine wp_region_cls (fun x => Both x q bs q2 (.slice (some ⟨rb, off, none⟩) rl cap2) s ∧ Keep bs w6 x) HD6.out (by kernel_rfl) (by kernel_rfl) ?_
    repeat (quiet_step (first
      | (go_at_call 24; with_reducible exact cls_of (HLC.out w6 _ (HCH.out _)))
      | (go_at_call 30; with_reducible exact cls_of (HRC.out w6 _ (HCH.out _)))
      | (go_at_call 17; with_reducible exact cls_of (HLN.out w6 _ (HCH.out _)))
      | (go_at_call 27; with_reducible exact cls_of (HRN.out w6 _ (HCH.out _)))
      | (go_at_call 22; with_reducible exact cls_of (HLU.out w6 _ (HCH.out _)))))
    refine wpQuiet_nil ?_
    intro _ hw'
    obtain ⟨p, hw''⟩ := hw'
    subst hw''
    have KE := Lib.hid p.h
    have KK : Hid (Keep bs w p.x) := HK6.out.nil.trans p.h.2 (fun x hx => .inl hx)
    clear c0
    go_wp2_with fail
    go_ret
    have hrl : rl = s.rows.length := by
      obtain ⟨_, _, hv, _⟩ := KE.out.1.2.2.1
      simp only [Value.slice.injEq] at hv; exact hv.2.1
    have hB := KE.out.1
    subst hrl
    exact ⟨rfl, hB, KK.out⟩
end Go.Proofs.Ytpjebbhjagllgaa
