/- Texts put together: Inf5 Inf6 Inf7 Inf -/
import Derived.Test.YtokfcgloogdeiaaGreatDoorPart15
import Derived.Test.YtokfcgloogdeiaaGreatDoorPart20
import Derived.Test.YtokfcgloogdeiaaGreatDoorPart21
import Derived.Test.YtokfcgloogdeiaaGreatDoorPart14
import Derived.Deep.LoopGhost
import Derived.Test.YtokfcgloogdeiaaGreatDoorPart3
import Derived.Test.YtokfcgloogdeiaaGreatDoorPart12
namespace Go.Proofs.YtokfcgloogdeiaaGreatDoor
set_option linter.unusedVariables false
set_option linter.unusedSimpArgs false
set_option maxRecDepth 100000
open Go.ChangeShapes Go.WideShapes Go.ChangeAt Go.RowKit

/-- codes made beside others -/
theorem newcodes18_c {W w : World} {Ps : List Ob} (h : St W w Ps) (v1 v2 : Value) (l1 l2 : List Int) (h1 : Is .i64 w v1 l1) (h2 : Is .i64 w v2 l2) (e1 : werr l1 = 0) (e2 : werr l2 = 0) : Calls Tryz.prog 78 #[v1, v2] w fun e w' => ∃ c a b, e = .returned (.tuple #[.pointer (some ⟨c, 0, none⟩), .int .i64 0]) ∧ St W w' (Ps ++ Cds18 c a b (Ln l1) (Ln l2)) ∧ Keep [] w w' := by
  have HN1 := Lib.hid (can_new w v1 l1 h1)
  have HN2 := Lib.hid (fun w' (k : Keep [] w w') => can_new w' v2 l2 (h2.keep k (by simp)))
  rw [e1] at HN1
  rw [e2] at HN2
  have HS := Lib.hid h
  clear h h1 h2
  go_enter Tryz.func78, Tryz.ntmps78
  go_wp2_with fail
  refine HN1.out.mono ?_; rintro e wa ⟨p, rfl, ka, -, hp⟩
  obtain ⟨a, bs, rfl, hD, hb⟩ := hp trivial
  have HSA : Hid (St W wa (Ps ++ [Ob.cdc a (Ln l1)])) := HS.out.push (Ob.cdc a (Ln l1)) bs hD ka hb
  have HKA := Lib.hid ka
  have HN3 := Lib.hid (HN2.out wa ka)
  clear HN1 HN2 hD hb ka HS hp
  go_wp2_with fail
  refine HN3.out.mono ?_; rintro e wb ⟨p, rfl, kb, -, hp⟩
  obtain ⟨b, cs, rfl, hD, hb⟩ := hp trivial
  have HSB : Hid (St W wb ((Ps ++ [Ob.cdc a (Ln l1)]) ++ [Ob.cdc b (Ln l2)])) := HSA.out.push (Ob.cdc b (Ln l2)) cs hD kb hb
  have HKB := Lib.hid (HKA.out.trans kb (by simp))
  clear HN3 hD hb kb HSA HKA hp
  have hq := HSB.out.pushBox #[.pointer (some ⟨a, 0, none⟩), .pointer (some ⟨b, 0, none⟩)] 135
  have HQ := Lib.hid hq
  have HKC := Lib.hid (HKB.out.trans ((Keep.refl [] wb).alloc (.cells #[.pointer (some ⟨a, 0, none⟩), .pointer (some ⟨b, 0, none⟩)] 135)) (by simp))
  clear hq
  go_wp2_with fail
  go_ret2
  exact ⟨_, a, b, rfl, by simpa [Cds18, List.append_assoc] using HQ.out, HKC.out⟩
/-- the pointer to the fixed codes, and what stands for them -/
def Kn (kp : Option Addr) (kl : List Ob) : Prop := (kp = none ∧ kl = []) ∨ ∃ c a b, kp = some ⟨c, 0, none⟩ ∧ kl = Cds18 c a b (Ln fixL) (Ln fixD)
theorem fixed_fit : (werr fixL = 0 ∧ ∀ x ∈ Ln fixL, x ≤ 16) ∧ (werr fixD = 0 ∧ ∀ x ∈ Ln fixD, x ≤ 16) := by
  have h := codes18_ok false 1 ⟨[], 0, true, 0⟩ rfl rfl (Nat.le_refl _)
  exact ⟨h.2.1, h.2.2⟩
set_option maxHeartbeats 4000000 in
theorem fixedi18_c {W w : World} (q qr qo : Nat) (large : Bool) (kp : Option Addr) (kl : List Ob) (hk : Kn kp kl) (s : SI) (h : St W w (DI q qr qo large kp s ++ kl)) : Calls Tryz.prog 65 #[.pointer (some ⟨q, 0, none⟩)] w fun e w' =>
    ∃ c a b, e = .returned (.tuple #[.pointer (some ⟨c, 0, none⟩), .int .i64 0]) ∧ St W w' (DI q qr qo large (some ⟨c, 0, none⟩) s ++ (Cds18 c a b (Ln fixL) (Ln fixD) ++ [])) := by
  obtain ⟨-, -, -, -, c4, -, g4⟩ := DI.cells h
  have HS := Lib.hid h
  rcases hk with ⟨rfl, rfl⟩ | ⟨c, a, b, rfl, rfl⟩
  · have HF := Lib.hid (inf_fixed w)
    clear h
    go_enter Tryz.func65, Tryz.ntmps65
    go_wp2_with fail
    refine HF.out.mono ?_; rintro e wa ⟨v1, v2, rfl, o1, o2, ka, -, -, -⟩
    have HN := Lib.hid (newcodes18_c (HS.out.read ka) v1 v2 fixL fixD o1.is o2.is fixed_fit.1.1 fixed_fit.2.1)
    clear o1 o2 HF c4 g4 ka
    go_wp2_with fail
    refine HN.out.mono ?_; rintro e wb ⟨c, a, b, rfl, hS, -⟩
    have hS' : St W wb (DI q qr qo large none s ++ ([] ++ Cds18 c a b (Ln fixL) (Ln fixD))) := by simpa using hS
    obtain ⟨-, -, -, -, c4, -, g4⟩ := DI.cells hS'
    have HS2 : Hid (St W (wb.setCell ⟨q, 4, none⟩ (.pointer (some ⟨c, 0, none⟩))) (DI q qr qo large (some ⟨c, 0, none⟩) s ++ (Cds18 c a b (Ln fixL) (Ln fixD) ++ []))) := by
      have h2 := hS'.setBox 0 rfl 4 (.pointer (some ⟨c, 0, none⟩))
      have h3 : St W _ (DI q qr qo large (some ⟨c, 0, none⟩) s ++ ([] ++ Cds18 c a b (Ln fixL) (Ln fixD))) := h2
      unfold Hid; simpa using h3
    clear hS hS' HN HS
    go_wp2_with fail
    go_ret2
    exact ⟨c, a, b, rfl, HS2.out⟩
  · clear h
    go_enter Tryz.func65, Tryz.ntmps65
    go_wp2_with fail
    go_ret2
    exact ⟨c, a, b, rfl, by simpa using HS.out⟩
theorem Kn.front {W w : World} {q qr qo : Nat} {large : Bool} {kp : Option Addr} {s : SI} {kl : List Ob} {c a b : Nat} {LL LD : List Nat} (hk : Kn kp kl) (h : St W w ((DI q qr qo large kp s ++ kl) ++ Cds18 c a b LL LD)) : St W w (DI q qr qo large kp s ++ (Cds18 c a b LL LD ++ kl)) := by
  rcases hk with ⟨rfl, rfl⟩ | ⟨c', a', b', rfl, rfl⟩
  · simpa using h
  · refine h.sub _ (fun j => [0, 1, 2, 6, 7, 8, 3, 4, 5].getD j 0) (fun j => [0, 1, 2, 6, 7, 8, 3, 4, 5].getD j 0) (fun j hj => ?_)
    rcases j with _ | _ | _ | _ | _ | _ | _ | _ | _ | j
    iterate 9 exact ⟨rfl, rfl⟩
    simp [DI, Cds18] at hj
    omega
theorem Kn.drop {W w : World} {q qr qo : Nat} {large : Bool} {kp : Option Addr} {s : SI} {kl : List Ob} {c a b : Nat} {LL LD : List Nat} (hk : Kn kp kl) (h : St W w (DI q qr qo large kp s ++ (Cds18 c a b LL LD ++ kl))) : St W w (DI q qr qo large kp s ++ kl) := by
  rcases hk with ⟨rfl, rfl⟩ | ⟨c', a', b', rfl, rfl⟩
  · refine h.sub _ (fun j => j) (fun j => j) (fun j hj => ?_)
    rcases j with _ | _ | _ | j
    iterate 3 exact ⟨rfl, rfl⟩
    simp [DI] at hj
    omega
  · refine h.sub _ (fun j => [0, 1, 2, 6, 7, 8].getD j 0) (fun j => [0, 1, 2, 0, 0, 0, 3, 4, 5].getD j 0) (fun j hj => ?_)
    rcases j with _ | _ | _ | _ | _ | _ | j
    iterate 6 exact ⟨rfl, rfl⟩
    simp [DI, Cds18] at hj
    omega
set_option maxHeartbeats 4000000 in
theorem owni18_c {W w : World} (hg : G17 W) (q qr qo : Nat) (large : Bool) (kp : Option Addr) (kl : List Ob) (hk : Kn kp kl) (s : SI) (hp : s.r.pos ≤ 8 * s.r.l.length) (h : St W w (DI q qr qo large kp s ++ kl)) : Calls Tryz.prog 67 #[.pointer (some ⟨q, 0, none⟩)] w fun e w' =>
    ∃ p, e = .returned (.tuple #[.pointer p, .int .i64 (rd17 s.r large).2.2.1]) ∧ Keep [] W w' ∧ ((rd17 s.r large).2.2.1 = 0 → ∃ c a b, p = some ⟨c, 0, none⟩ ∧ St W w' (DI q qr qo large kp { s with r := (rd17 s.r large).2.2.2 } ++ (Cds18 c a b (Ln (rd17 s.r large).1) (Ln (rd17 s.r large).2.1) ++ kl))) := by
  obtain ⟨c0, -, c2, -, -, -, -⟩ := DI.cells h
  have hrd := dyn_read (h.read ((Keep.refl [] w).drew)) hg 1 rfl large
  have hok := rd17_fwd s.r large
  obtain ⟨l1, l2, er, r', hR⟩ : ∃ l1 l2 er r', rd17 s.r large = (l1, l2, er, r') := ⟨_, _, _, _, rfl⟩
  rw [show ({ s with r := s.r } : SI).r = s.r from rfl] at *
  rw [hR] at hrd hok ⊢
  dsimp only at hrd hok ⊢
  have HRD := Lib.hid hrd
  have HOK := Lib.hid (fun h0 => right_werr (hok h0 hp).2)
  have HKN := Lib.hid hk
  clear hrd hok h hg hR hp hk
  go_enter Tryz.func67, Tryz.ntmps67
  go_upto_region 1 with fail
  go_cut [4, 5, 6] (fun v4 v5 v6 wx => v6 = .int .i64 er ∧ Is .i64 wx v4 l1 ∧ Is .i64 wx v5 l2 ∧ Keep [] W wx ∧ (er = 0 → St W wx (DI q qr qo large kp { s with r := r' } ++ kl)))
  case first =>
    go_region_with (first | (go_at_call 82; (refine HRD.out.mono ?_); (rintro e w3 ⟨v1, v2, rfl, i1, i2, -, -, hgo, hS⟩)))
    all_goals
      go_wp2_with fail
      go_meet
      exact ⟨rfl, i1, i2, hgo.kp, hS⟩
  case rest =>
  obtain ⟨rfl, i1, i2, kx, hS⟩ := hcut
  have HI1 := Lib.hid i1; have HI2 := Lib.hid i2; have HK := Lib.hid kx; have HS := Lib.hid hS
  clear i1 i2 kx hS HRD c0 c2
  by_cases g0 : er = 0
  · subst g0
    obtain ⟨⟨e1, -⟩, ⟨e2, -⟩, -⟩ := HOK.out rfl
    have HN := Lib.hid (newcodes18_c (HS.out rfl) _ _ l1 l2 HI1.out HI2.out e1 e2)
    clear HOK e1 e2
    go_wp2_with fail
    refine HN.out.mono ?_; rintro e wb ⟨c, a, b, rfl, hS, -⟩
    have HS2 := Lib.hid (HKN.out.front hS)
    clear hS HN HS
    go_wp2_with fail
    go_ret2
    refine ⟨_, rfl, HS2.out.kp, ?_⟩
    first
    | exact ⟨c, rfl, a, b, HS2.out⟩
    | exact fun _ => ⟨c, a, b, rfl, HS2.out⟩
  · have t1 : ((er : Int) != 0) = true := by simp; omega
    have HG := Lib.hid g0
    clear g0 HOK
    go_wp2_with fail
    go_ret2
    exact ⟨_, rfl, HK.out, fun h => absurd h HG.out⟩
end Go.Proofs.YtokfcgloogdeiaaGreatDoor
namespace Go.Proofs.YtokfcgloogdeiaaGreatDoor
set_option linter.unusedVariables false
set_option linter.unusedSimpArgs false
set_option maxRecDepth 100000
open Go.ChangeShapes Go.WideShapes Go.ChangeAt Go.RowKit

/-- what a block of a kind has -/
def blk18 (large : Bool) (F kind : Nat) (s : SI) : Nat × SI :=
  if kind = 0 then plain18 s else if kind = 3 then (4, s)
  else if (codes18 large kind s.r).1 ≠ 0 then ((codes18 large kind s.r).1, s)
  else words18 large (Ln (codes18 large kind s.r).2.1) (Ln (codes18 large kind s.r).2.2.1) F ⟨(codes18 large kind s.r).2.2.2, s.o, s.n⟩
theorem block18_blk (large : Bool) (F : Nat) (s : SI) (h : (head18 s.r).2.2.E = 0) :
    (block18 large F s).2.1 = (blk18 large F (head18 s.r).2.1 ⟨(head18 s.r).2.2, s.o, s.n + 1⟩).1 ∧ ((block18 large F s).2.1 = 0 → block18 large F s = ((head18 s.r).1, blk18 large F (head18 s.r).2.1 ⟨(head18 s.r).2.2, s.o, s.n + 1⟩)) := by
  unfold block18 blk18
  rw [if_neg (by simpa using h)]
  by_cases h0 : (head18 s.r).2.1 = 0
  · rw [if_pos h0, if_pos h0]; exact ⟨rfl, fun _ => rfl⟩
  · rw [if_neg h0, if_neg h0]
    by_cases h3 : (head18 s.r).2.1 = 3
    · rw [if_pos h3, if_pos h3]; exact ⟨rfl, fun h => by simp at h⟩
    · rw [if_neg h3, if_neg h3]
      dsimp only
      by_cases hc : (codes18 large (head18 s.r).2.1 (head18 s.r).2.2).1 ≠ 0
      · rw [if_pos hc, if_pos hc]; exact ⟨rfl, fun h => absurd h hc⟩
      · rw [if_neg hc, if_neg hc]; exact ⟨rfl, fun _ => rfl⟩
/-- what a block leaves -/
def After (W : World) (q qr qo : Nat) (large : Bool) (R : Nat × SI) (w' : World) : Prop := Keep [] W w' ∧ (R.1 = 0 → ∃ kp kl, Kn kp kl ∧ St W w' (DI q qr qo large kp R.2 ++ kl))
theorem Ln_le {l : List Int} {n : Nat} (h : l.length ≤ n) : (Ln l).length ≤ n := by rw [Ln_length]; exact h
theorem fix_lens : fixL.length ≤ 1000 ∧ fixD.length ≤ 1000 := by decide +kernel
set_option maxHeartbeats 4000000 in
theorem blki0_c {W w : World} (q qr qo : Nat) (large : Bool) (kp : Option Addr) (kl : List Ob) (hk : Kn kp kl) (s : SI) (h : St W w (DI q qr qo large kp s ++ kl)) (hb : s.o.b.length ≤ 1000000000000) (hn : s.n ≤ 1000000000000) : Calls Tryz.prog 47 #[.pointer (some ⟨q, 0, none⟩), .int .u32 0] w fun e w' => e = .returned (.int .i64 (plain18 s).1) ∧ After W q qr qo large (plain18 s) w' := by
  have HP := Lib.hid (plain18_c q qr qo large kp s kl h hb hn)
  have HK := Lib.hid hk
  clear h hk hb hn
  go_enter Tryz.func47, Tryz.ntmps47
  go_wp2_with fail
  refine HP.out.mono ?_; rintro e wa ⟨rfl, hk, hS⟩
  have HS := Lib.hid hS; have HKK := Lib.hid hk
  clear hS hk HP
  go_wp2_with fail
  go_ret
  exact ⟨rfl, HKK.out, fun h => ⟨_, _, HK.out, HS.out h⟩⟩
theorem blki3_c {W w : World} (q : Nat) : Calls Tryz.prog 47 #[.pointer (some ⟨q, 0, none⟩), .int .u32 3] w fun e w' => e = .returned (.int .i64 4) ∧ w = w' := by
  go_enter Tryz.func47, Tryz.ntmps47
  go_wp2_with fail
  go_ret
  exact ⟨rfl, rfl⟩
set_option maxHeartbeats 4000000 in
theorem blki1_c {W w : World} (q qr qo : Nat) (large : Bool) (kp : Option Addr) (kl : List Ob) (hk : Kn kp kl) (N F : Nat) (s : SI) (h : St W w (DI q qr qo large kp s ++ kl))
    (hs : s.ok) (hcap : s.cap) (hn : s.n ≤ s.r.pos) (hrl : s.r.l.length = N) (hl : N ≤ 1000000) (hF : 8 * N + 1 ≤ s.r.pos + F) : Calls Tryz.prog 47 #[.pointer (some ⟨q, 0, none⟩), .int .u32 1] w fun e w' => e = .returned (.int .i64 (words18 large (Ln fixL) (Ln fixD) F s).1) ∧ After W q qr qo large (words18 large (Ln fixL) (Ln fixD) F s) w' := by
  have HF := Lib.hid (fixedi18_c q qr qo large kp kl hk s h)
  have HW := Lib.hid (fun w' c a b h => wordsi18_c (W := W) (w := w') q qr qo large (some ⟨c, 0, none⟩) c a b (Ln fixL) (Ln fixD) [] fixed_fit.1.2 fixed_fit.2.2 (Ln_le fix_lens.1) (Ln_le fix_lens.2) N F s h hs hcap hn hrl hl hF)
  obtain ⟨R, hR⟩ : ∃ R, words18 large (Ln fixL) (Ln fixD) F s = R := ⟨_, rfl⟩
  rw [hR] at HW ⊢
  clear h hk hs hcap hn hrl hl hF hR
  go_enter Tryz.func47, Tryz.ntmps47
  go_wp2_with fail
  refine HF.out.mono ?_; rintro e wa ⟨c, a, b, rfl, hS⟩
  have HWW := Lib.hid (HW.out wa c a b hS)
  clear hS HF HW
  go_wp2_with fail
  refine HWW.out.mono ?_; rintro e wb ⟨rfl, hk, hS⟩
  have HS := Lib.hid hS; have HKK := Lib.hid hk
  clear hS hk HWW
  go_wp2_with fail
  go_ret
  exact ⟨rfl, HKK.out, fun h => ⟨_, _, .inr ⟨c, a, b, rfl, rfl⟩, by simpa using HS.out h⟩⟩
set_option maxHeartbeats 4000000 in
theorem blki2_c {W w : World} (hg : G17 W) (q qr qo : Nat) (large : Bool) (kp : Option Addr) (kl : List Ob) (hk : Kn kp kl) (N F : Nat) (s : SI) (h : St W w (DI q qr qo large kp s ++ kl))
    (hs : s.ok) (hcap : s.cap) (hn : s.n ≤ s.r.pos) (hrl : s.r.l.length = N) (hl : N ≤ 1000000) (hF : 8 * N + 1 ≤ s.r.pos + F) : Calls Tryz.prog 47 #[.pointer (some ⟨q, 0, none⟩), .int .u32 2] w fun e w' => e = .returned (.int .i64 (blk18 large F 2 s).1) ∧ After W q qr qo large (blk18 large F 2 s) w' := by
  have HO := owni18_c hg q qr qo large kp kl hk s hs.2.1 h
  have hfw := rd17_fwd s.r large
  have hb : blk18 large F 2 s = if (rd17 s.r large).2.2.1 ≠ 0 then ((rd17 s.r large).2.2.1, s) else words18 large (Ln (rd17 s.r large).1) (Ln (rd17 s.r large).2.1) F ⟨(rd17 s.r large).2.2.2, s.o, s.n⟩ := by
    unfold blk18 codes18; rw [if_neg (by decide), if_neg (by decide), if_pos rfl]
  obtain ⟨l1, l2, er, r', hR⟩ : ∃ l1 l2 er r', rd17 s.r large = (l1, l2, er, r') := ⟨_, _, _, _, rfl⟩
  rw [hR] at HO hfw hb
  dsimp only at HO hfw hb
  have HW : Hid (er = 0 → ∀ (w' : World) (c a b : Nat), St W w' (DI q qr qo large kp ⟨r', s.o, s.n⟩ ++ (Cds18 c a b (Ln l1) (Ln l2) ++ kl)) → Calls Tryz.prog 66 #[.pointer (some ⟨q, 0, none⟩), .pointer (some ⟨c, 0, none⟩)] w' fun e w' =>
    e = .returned (.int .i64 (words18 large (Ln l1) (Ln l2) F ⟨r', s.o, s.n⟩).1) ∧ Keep [] W w' ∧ ((words18 large (Ln l1) (Ln l2) F ⟨r', s.o, s.n⟩).1 = 0 → St W w' (DI q qr qo large kp (words18 large (Ln l1) (Ln l2) F ⟨r', s.o, s.n⟩).2 ++ (Cds18 c a b (Ln l1) (Ln l2) ++ kl)))) := by
    intro h0 w' c a b h'
    obtain ⟨f1, f2⟩ := hfw h0 hs.2.1
    obtain ⟨⟨-, g1⟩, ⟨-, g2⟩, -, g3, -, g4⟩ := right_werr f2
    have hp := f1.p
    exact wordsi18_c q qr qo large kp c a b (Ln l1) (Ln l2) kl g1 g2 (Ln_le (by omega)) (Ln_le (by omega)) N F ⟨r', s.o, s.n⟩ h' ⟨f1.E1, f1.hp, hs.2.2⟩ hcap (by dsimp only; omega) (by dsimp only; rw [f1.l]; exact hrl) hl (by dsimp only; omega)
  obtain ⟨R, hRR⟩ : ∃ R, blk18 large F 2 s = R := ⟨_, rfl⟩
  rw [hRR] at hb ⊢
  obtain ⟨V, hV⟩ : ∃ V, words18 large (Ln l1) (Ln l2) F ⟨r', s.o, s.n⟩ = V := ⟨_, rfl⟩
  rw [hV] at HW hb
  have HB := Lib.hid hb
  have HOO := Lib.hid HO
  have HK := Lib.hid hk
  clear h hk hs hcap hn hrl hl hF hR hRR hV hfw hb HO
  go_enter Tryz.func47, Tryz.ntmps47
  go_wp2_with fail
  refine HOO.out.mono ?_; rintro e wa ⟨p, rfl, hk, hS⟩
  have HS := Lib.hid hS; have HKK := Lib.hid hk
  clear hS hk HOO
  by_cases g0 : er = 0
  · subst g0
    obtain ⟨c, a, b, rfl, hS⟩ := HS.out rfl
    have HWW := Lib.hid (HW.out rfl wa c a b hS)
    have hrv : R = V := by have := HB.out; rw [if_neg (by simp)] at this; exact this
    subst hrv
    clear hS HW HS HKK HB
    go_wp2_with fail
    refine HWW.out.mono ?_; rintro e wb ⟨rfl, hk, hS⟩
    have HS := Lib.hid hS; have HKK := Lib.hid hk
    clear hS hk HWW
    go_wp2_with fail
    go_ret
    exact ⟨rfl, HKK.out, fun h => ⟨_, _, HK.out, HK.out.drop (HS.out h)⟩⟩
  · have t1 : ((er : Int) != 0) = true := by simp; omega
    have HRE : Hid (R = (er, s)) := by have := HB.out; rw [if_pos g0] at this; exact this
    have HG := Lib.hid g0
    clear g0 HB HS HW
    go_wp2_with fail
    go_ret
    rw [HRE.out]
    exact ⟨rfl, HKK.out, fun h => absurd h HG.out⟩
theorem blki18_c {W w : World} (hg : G17 W) (q qr qo : Nat) (large : Bool) (kp : Option Addr) (kl : List Ob) (hk : Kn kp kl) (N F kind : Nat) (hkd : kind < 4) (s : SI) (h : St W w (DI q qr qo large kp s ++ kl))
    (hs : s.ok) (hcap : s.cap) (hn : s.n ≤ s.r.pos) (hrl : s.r.l.length = N) (hl : N ≤ 1000000) (hF : 8 * N + 1 ≤ s.r.pos + F) : Calls Tryz.prog 47 #[.pointer (some ⟨q, 0, none⟩), .int .u32 kind] w fun e w' => e = .returned (.int .i64 (blk18 large F kind s).1) ∧ After W q qr qo large (blk18 large F kind s) w' := by
  have hp := hs.2.1
  have hc := hcap
  unfold SI.cap at hc
  have hc4 : kind = 0 ∨ kind = 1 ∨ kind = 2 ∨ kind = 3 := by omega
  rcases hc4 with rfl | rfl | rfl | rfl
  · exact blki0_c q qr qo large kp kl hk s h (by omega) (by omega)
  · have e : blk18 large F 1 s = words18 large (Ln fixL) (Ln fixD) F s := by
      have e1 : codes18 large 1 s.r = (0, fixL, fixD, s.r) := by unfold codes18; rw [if_neg (by decide)]
      unfold blk18; rw [if_neg (by decide), if_neg (by decide), e1, if_neg (by simp)]
    rw [e]
    exact blki1_c q qr qo large kp kl hk N F s h hs hcap hn hrl hl hF
  · exact blki2_c hg q qr qo large kp kl hk N F s h hs hcap hn hrl hl hF
  · refine (blki3_c (W := W) q).mono ?_
    rintro e w' ⟨rfl, rfl⟩
    exact ⟨rfl, h.kp, fun h => by simp [blk18] at h⟩
end Go.Proofs.YtokfcgloogdeiaaGreatDoor
namespace Go.Proofs.YtokfcgloogdeiaaGreatDoor
set_option linter.unusedVariables false
set_option linter.unusedSimpArgs false
set_option maxRecDepth 100000
open Go.ChangeShapes Go.WideShapes Go.ChangeAt Go.RowKit

set_option maxHeartbeats 4000000 in
theorem alli18_c {W w : World} (hg : G17 W) (q qr qo : Nat) (large : Bool) (N : Nat) (s : SI) (h : St W w (DI q qr qo large none s))
    (hs : s.ok) (hcap : s.cap) (hn : s.n ≤ s.r.pos) (hrl : s.r.l.length = N) (hl : N ≤ 1000000) : Calls Tryz.prog 23 #[.pointer (some ⟨q, 0, none⟩)] w fun e w' => e = .returned (.int .i64 (blocks18 large (8 * N + 1) (8 * N + 1) s).1) ∧ After W q qr qo large (blocks18 large (8 * N + 1) (8 * N + 1) s) w' ∧ ((blocks18 large (8 * N + 1) (8 * N + 1) s).1 = 0 → (blocks18 large (8 * N + 1) (8 * N + 1) s).2.ok ∧ (blocks18 large (8 * N + 1) (8 * N + 1) s).2.o.most = s.o.most ∧ (blocks18 large (8 * N + 1) (8 * N + 1) s).2.o.b.length ≤ 800000 * N) := by
  obtain ⟨R, hR⟩ : ∃ R, blocks18 large (8 * N + 1) (8 * N + 1) s = R := ⟨_, rfl⟩
  rw [hR]
  obtain ⟨M, hM⟩ : ∃ M, s.o.most = M := ⟨_, rfl⟩
  rw [hM]
  have HR := Lib.hid hR
  have HS : Hid (St W w (DI q qr qo large none s ++ [])) := by unfold Hid; simpa using h
  have HG := Lib.hid hg
  have HOK := Lib.hid hs; have HCAP := Lib.hid hcap; have HRL := Lib.hid hrl; have HN0 := Lib.hid hl; have HM := Lib.hid hM
  clear hR h hs hcap hrl hl hg hM
  go_enter Tryz.func23, Tryz.ntmps23
  go_wp2_with fail
  go_loopg [3] (8 * N + 1) (fun g lv wr => ∃ (bl : Bool) (sk : SI) (kp : Option Addr) (kl : List Ob), lv = .bool bl ∧ Hid (Kn kp kl) ∧ Hid (St W wr (DI q qr qo large kp sk ++ kl)) ∧ Hid sk.ok ∧ Hid (sk.o.most = M) ∧ Hid (sk.r.l.length = N ∧ sk.cap ∧ sk.n ≤ sk.r.pos) ∧ Hid (bl = false → 8 * N + 1 ≤ sk.r.pos + g ∧ blocks18 large (8 * N + 1) g sk = R) ∧ Hid (bl = true → R = (0, sk)))
  case atStart => exact ⟨false, s, none, [], rfl, .inl ⟨rfl, rfl⟩, HS, HOK, HM, ⟨HRL.out, HCAP.out, hn⟩, fun _ => ⟨by omega, HR.out⟩, fun h => by simp at h⟩
  case round =>
    clear HS HRL HOK HCAP HR hn HM
    obtain ⟨bl, sk, kp, kl, rfl, HK, HS, HOK, HM, HC, HA, HB⟩ := hrel
    cases bl with
    | true =>
      have HRE := Lib.hid (HB.out rfl)
      clear HA HB
      go_wp2_with fail
      go_ret
      rw [HRE.out]
      refine ⟨rfl, ⟨HS.out.kp, fun _ => ⟨_, _, HK.out, HS.out⟩⟩, fun _ => ⟨HOK.out, HM.out, ?_⟩⟩
      obtain ⟨q1, q2, q3⟩ := HC.out
      have q4 := HOK.out.2.1
      unfold SI.cap at q2
      dsimp only
      omega
    | false =>
      obtain ⟨hg, hr⟩ := HA.out rfl
      obtain ⟨hrl, hcap, hn⟩ := HC.out
      have hpl : sk.r.pos ≤ 8 * N := by have := HOK.out.2.1; rw [hrl] at this; exact this
      obtain ⟨f, rfl⟩ : ∃ f, gk = f + 1 := ⟨gk - 1, by omega⟩
      rw [blocks18] at hr
      obtain ⟨x1, r1, h1⟩ : ∃ x1 r1, sk.r.bits 1 = (x1, r1) := ⟨_, _, rfl⟩
      obtain ⟨x2, r2, h2⟩ : ∃ x2 r2, r1.bits 2 = (x2, r2) := ⟨_, _, rfl⟩
      have hx2 : x2 < 4 := by have := bits_lt15 r1 2 (by decide); rw [show ((2 : Nat) : Int) = 2 from rfl, h2] at this; exact this
      have hh : head18 sk.r = (decide (x1 = 1), x2, r2) := by unfold head18; rw [h1]; dsimp only; rw [h2]
      have hfw := head18_fwd sk.r
      have hbl := block18_blk large (8 * N + 1) sk
      have hadv := block18_adv large (8 * N + 1) sk
      have hbc := block18_cap large (8 * N + 1) sk
      have hber : r2.E ≠ 0 → (block18 large (8 * N + 1) sk).2.1 = r2.E := fun hE => by
        unfold block18; rw [hh]; dsimp only; rw [if_pos hE]
      rw [hh] at hfw hbl
      dsimp only at hfw hbl
      obtain ⟨bb, eb, sb, hbe⟩ : ∃ bb eb sb, block18 large (8 * N + 1) sk = (bb, eb, sb) := ⟨_, _, _, rfl⟩
      rw [hbe] at hr hbl hadv hbc hber
      dsimp only at hr hbl hadv hbc hber
      obtain ⟨bl1, hbl1⟩ : ∃ bl1, decide (x1 = 1) = bl1 := ⟨_, rfl⟩
      have tb : ((x1 : Int) == 1) = bl1 := by rw [← hbl1]; by_cases e : x1 = 1 <;> simp [e]; omega
      have tb' : (x1 == 1) = bl1 := by rw [← hbl1]; by_cases e : x1 = 1 <;> simp [e]
      rw [hbl1] at hbl
      have HB1 : Hid (Calls Tryz.prog 44 #[.pointer (some ⟨qr, 0, none⟩)] wr fun e w' => e = .returned (.int .u32 x1) ∧ St W w' (DI q qr qo large kp { sk with r := r1 } ++ kl)) := by
        have := st_bit18 HS.out 1 rfl
        rw [show ({ sk with r := sk.r } : SI).r = sk.r from rfl, h1] at this; exact this
      obtain ⟨c0, -, -, -, -, -, -⟩ := DI.cells HS.out
      have H2 := Lib.hid h2
      have HRR := Lib.hid hr; have HFW := Lib.hid hfw; have HBL := Lib.hid hbl; have HADV := Lib.hid hadv; have HBC := Lib.hid hbc; have HBER := Lib.hid hber
      have HNU : Hid (sk.n ≤ sk.r.pos ∧ 8 * N + 1 ≤ sk.r.pos + (f + 1) ∧ sk.r.pos ≤ 8 * N ∧ sk.r.l.length = N ∧ sk.cap ∧ x2 < 4) := ⟨hn, hg, hpl, hrl, hcap, hx2⟩
      clear HS HA HB HC h1 h2 hh hfw hbl hadv hbc hber hbe hbl1 hr hn hg hpl hrl hcap hx2
      go_wp2_with fail
      refine HB1.out.mono ?_; rintro e wa ⟨rfl, hSa⟩
      have HB := st_bits hSa 1 rfl 2
      rw [show ({ sk with r := r1 } : SI).r = r1 from rfl, H2.out] at HB
      have HB2 : Hid (Calls Tryz.prog 45 #[.pointer (some ⟨qr, 0, none⟩), .int .i64 2] wa fun e w' => e = .returned (.int .u32 x2) ∧ St W w' (DI q qr qo large kp { sk with r := r2 } ++ kl)) := HB
      clear c0
      obtain ⟨c0, -, -, -, -, -, -⟩ := DI.cells hSa
      clear HB1 hSa HB H2
      go_wp2_with fail
      refine HB2.out.mono ?_; rintro e wb ⟨rfl, hSb⟩
      clear c0
      obtain ⟨c0, -, -, c3, -, g3, -⟩ := DI.cells hSb
      have HER : Hid (Calls Tryz.prog 46 #[.pointer (some ⟨qr, 0, none⟩)] wb fun e w' => e = .returned (.int .i64 r2.E) ∧ wb = w') := st_err hSb 1 rfl
      have HSb := Lib.hid hSb
      clear HB2 hSb
      dsimp only at c3
      go_wp2_with fail
      refine HER.out.mono ?_; rintro e wd ⟨rfl, rfl⟩
      clear HER
      obtain ⟨E2, hE2⟩ : ∃ E2, r2.E = E2 := ⟨_, rfl⟩
      rw [hE2] at HFW HBL HBER ⊢
      clear hE2
      by_cases g0 : E2 = 0
      · subst g0
        obtain ⟨q1, q2, q3, q4, q5, q6⟩ := HNU.out
        have hfw := HFW.out rfl HOK.out.2.1
        have hN := HN0.out
        obtain ⟨n1, hn1⟩ : ∃ n1, sk.n + 1 = n1 := ⟨_, rfl⟩
        rw [hn1] at HBL
        have wn : IntKind.i64.wrap ((sk.n : Int) + 1) = (n1 : Int) := by rw [IntKind.wrap_i64]; omega
        have hS3 := DI.count HSb.out n1
        have hp := hfw.p
        have hcap2 : (⟨r2, sk.o, n1⟩ : SI).cap := by unfold SI.cap at q5 ⊢; dsimp only; omega
        have hlen : r2.l.length = N := by rw [hfw.l]; exact q4
        have hblk := blki18_c HG.out q qr qo large kp kl HK.out N (8 * N + 1) x2 q6 ⟨r2, sk.o, n1⟩ hS3 ⟨hfw.E1, hfw.hp, HOK.out.2.2⟩ hcap2 (by dsimp only; omega) hlen hN (by dsimp only; omega)
        obtain ⟨B, hB⟩ : ∃ B, blk18 large (8 * N + 1) x2 ⟨r2, sk.o, n1⟩ = B := ⟨_, rfl⟩
        rw [hB] at hblk HBL
        have HBK := Lib.hid hblk
        have HNN := Lib.hid hn1
        clear hblk hB hS3 hcap2 hfw q1 q2 q3 q4 q5 q6 HSb HBER hN hn1 hp hlen
        go_wp2_with fail
        refine HBK.out.mono ?_; rintro e wc ⟨rfl, hA⟩
        have HA := Lib.hid hA
        clear HBK hA c0 c3 g3
        obtain ⟨be, hbe⟩ : ∃ be, B.1 = be := ⟨_, rfl⟩
        have hbl := HBL.out (by first | rfl | trivial)
        rw [hbe] at hbl ⊢
        obtain ⟨hb1, hb2⟩ := hbl
        subst hb1
        by_cases g1 : eb = 0
        · have hre := HRR.out
          rw [if_neg (by simpa using g1)] at hre
          have hb2 := hb2 g1
          obtain ⟨rfl, -, rfl⟩ : bb = bl1 ∧ eb = B.1 ∧ sb = B.2 := by
            have := hb2; simp only [Prod.mk.injEq] at this
            exact ⟨this.1, by rw [hbe], (congrArg Prod.snd this.2)⟩
          obtain ⟨kp2, kl2, hk2, hS2⟩ := HA.out.2 (by rw [hbe]; exact g1)
          have HS2 := Lib.hid hS2; have HK2 := Lib.hid hk2
          have ha := HADV.out g1 HOK.out
          have hc := HBC.out g1
          have HAA := Lib.hid ha; have HCC := Lib.hid hc; have HRE := Lib.hid hre
          subst g1
          clear hre hb2 HBL HRR HADV HBC HA hk2 hS2 ha hc
          go_wp2_with fail
          go_roundg f
          case rel =>
            obtain ⟨q1, q2, q3, q4, q5, q6⟩ := HNU.out
            have h1 := HAA.out.fw.p
            have h2 := HAA.out.n
            have hre := HRE.out
            refine ⟨bb, B.2, kp2, kl2, rfl, HK2.out, HS2.out, HAA.out.ok, HAA.out.most.trans HM.out, ⟨by rw [HAA.out.fw.l]; exact q4, HCC.out q5, by omega⟩, fun hb => ?_, fun hb => ?_⟩
            · rw [if_neg (by simp [hb])] at hre
              exact ⟨by omega, hre⟩
            · rw [if_pos hb] at hre; exact hre.symm
          case measure => omega
        · have t1 : ((eb : Int) != 0) = true := by simp; omega
          have hre := HRR.out
          rw [if_pos g1] at hre
          have HRE : Hid (R = (eb, sk)) := hre.symm
          have HGG := Lib.hid g1
          have HKK := Lib.hid HA.out.1
          clear HRR g1 hre HBL HADV HBC HFW hb2 HA
          go_wp2_with fail
          go_ret
          rw [HRE.out]
          exact ⟨rfl, ⟨HKK.out, fun h => absurd h HGG.out⟩, fun h => absurd h HGG.out⟩
      · have t0 : ((E2 : Int) != 0) = true := by simp; omega
        have hre := HRR.out
        rw [HBER.out g0, if_pos g0] at hre
        have HRE : Hid (R = (E2, sk)) := hre.symm
        have HGG := Lib.hid g0
        clear HRR g0 hre HBL HBER HADV HBC HFW
        go_wp2_with fail
        go_ret
        rw [HRE.out]
        exact ⟨rfl, ⟨HSb.out.kp, fun h => absurd h HGG.out⟩, fun h => absurd h HGG.out⟩
end Go.Proofs.YtokfcgloogdeiaaGreatDoor
namespace Go.Proofs.YtokfcgloogdeiaaGreatDoor
set_option linter.unusedVariables false
set_option linter.unusedSimpArgs false
set_option maxRecDepth 100000
open Go.ChangeShapes Go.WideShapes Go.ChangeAt Go.RowKit

/-- the package variables that inflate reads through dyn -/
structure G18 (w : World) : Prop where
  d : G17 w
theorem G18.keep {w w' : World} (h : G18 w) (k : Keep [] w w') : G18 w' := ⟨h.d.keep k (by simp) (by simp)⟩
theorem windowof_c (w : World) (large : Bool) : Calls Tryz.prog 21 #[.bool large] w fun e w' => e = .returned (.int .i64 (win18 large)) ∧ w = w' := by
  cases large
  all_goals
    go_enter Tryz.func21, Tryz.ntmps21
    go_wp2_with fail
    go_ret
    exact ⟨rfl, rfl⟩
theorem bad18 (large : Bool) (size : Int) : hsBad (win18 large) size ↔ size < 0 := by
  unfold hsBad win18
  cases large <;> simp <;> omega
theorem inf_decode_neg (w : World) (v : Value) (large : Bool) (size : Int) (h : size < 0) (hs : -9223372036854775808 ≤ size) : Calls Tryz.prog 8 #[v, .bool large, .int .i64 size] w fun e w' => e = .returned (.tuple #[.slice none 0 0, .int .i64 0, .int .i64 2]) ∧ Keep [] w w' := by
  have HW := Lib.hid (fun w' => windowof_c w' large)
  have HN := Lib.hid (fun w' => hs_new w' (win18 large) size false (by omega) hs)
  have HB := Lib.hid ((bad18 large size).2 h)
  clear h hs
  go_enter Tryz.func8, Tryz.ntmps8
  go_wp2_with fail
  refine (HW.out w).mono ?_; rintro e wa ⟨rfl, rfl⟩
  go_wp2_with fail
  refine (HN.out w).mono ?_; rintro e wb ⟨p, er, rfl, hk, hb, -⟩
  obtain ⟨rfl, rfl⟩ := hb HB.out
  have HK := Lib.hid hk
  clear hk hb HN HW
  go_wp2_with fail
  go_ret3
  exact ⟨rfl, HK.out⟩
set_option maxHeartbeats 8000000 in
theorem inf_decode_ok (w : World) (v : Value) (b : List UInt8) (large : Bool) (size : Nat) (hg : G18 w) (hb : Bs w v b) (hl : b.length ≤ 1000000) (hs : (size : Int) ≤ 9223372036854775807) : Calls Tryz.prog 8 #[v, .bool large, .int .i64 size] w fun e w' => ∃ v', e = .returned (.tuple #[v', .int .i64 (dec18 b large size).2.1, .int .i64 (dec18 b large size).2.2]) ∧ Bs w' v' (dec18 b large size).1 ∧ Keep [] w w' := by
  obtain ⟨D, hD⟩ : ∃ D, run18 b large size = D := ⟨_, rfl⟩
  have hdec : dec18 b large size = if D.1 ≠ 0 then ([], 0, D.1) else if D.2.o.b.length ≠ size then ([], 0, 9) else if 8 ≤ D.2.r.left then ([], 0, 5) else (D.2.o.b, D.2.n, 0) := by
    unfold dec18; rw [if_neg (by omega), Int.toNat_natCast, hD]
  obtain ⟨R, hR⟩ : ∃ R, dec18 b large size = R := ⟨_, rfl⟩
  rw [hR] at hdec ⊢
  have HDEC := Lib.hid hdec
  unfold run18 at hD
  have HD := Lib.hid hD
  have HW := Lib.hid (fun w' => windowof_c w' large)
  have HN := Lib.hid (st_hs_new (St.nil w) (win18 large) size false (by omega) (by omega) (fun h => by have := (bad18 large size).1 h; omega))
  have HB := Lib.hid (fun w' (k : Keep [] w w') => hb.keep k (by simp))
  have HG := Lib.hid hg.d
  have HLL := Lib.hid hl
  have HSZ := Lib.hid hs
  clear hb hR hdec hD hg hs hl
  go_enter Tryz.func8, Tryz.ntmps8
  go_wp2_with fail
  refine (HW.out w).mono ?_; rintro e wa ⟨rfl, rfl⟩
  go_wp2_with fail
  refine HN.out.mono ?_; rintro e wb ⟨qo, rfl, hS, hk⟩
  have hS1 : St w wb [Ob.out qo ⟨win18 large, size, false, []⟩] := by simpa using hS
  have HO := Lib.hid (st_open hS1 v b (by have := HLL.out; omega) (HB.out wb hk))
  clear HN HW hS hk hS1
  go_wp2_with fail
  refine HO.out.mono ?_; rintro e wd ⟨qr, rfl, hS, -⟩
  have hS2 := (hS.pushBox (dCells qr qo large 0 none) 61).sub (DI wd.heap.size qr qo large none ⟨⟨b, 0, true, 0⟩, ⟨win18 large, size, false, []⟩, 0⟩) (fun j => [2, 1, 0].getD j 0) (fun j => [2, 1, 0].getD j 0) (fun j hj => by
    rcases j with _ | _ | _ | j
    iterate 3 exact ⟨rfl, rfl⟩
    simp [DI] at hj; omega)
  have HS2 := Lib.hid hS2
  clear hS hS2 HO
  go_wp2_with fail
  have ha := alli18_c HG.out wd.heap.size qr qo large b.length ⟨⟨b, 0, true, 0⟩, ⟨win18 large, size, false, []⟩, 0⟩ HS2.out ⟨rfl, Nat.zero_le _, Nat.zero_le _⟩ (Nat.zero_le _) (Nat.zero_le _) rfl HLL.out
  rw [HD.out] at ha
  have HA := Lib.hid ha
  clear ha HS2 HD HB HG
  refine HA.out.mono ?_; rintro e we ⟨rfl, ⟨hk, hS⟩, hok⟩
  have HK := Lib.hid hk; have HS := Lib.hid hS; have HOK := Lib.hid hok
  clear hk hS hok HA
  obtain ⟨q, hq⟩ : ∃ q, wd.heap.size = q := ⟨_, rfl⟩
  rw [hq] at HS ⊢
  clear hq
  obtain ⟨ed, s, rfl⟩ : ∃ ed s, D = (ed, s) := ⟨_, _, rfl⟩
  dsimp only at HS HOK HDEC ⊢
  by_cases g0 : ed = 0
  · subst g0
    obtain ⟨kp, kl, -, hS⟩ := HS.out rfl
    obtain ⟨ho, hm, hbl⟩ := HOK.out rfl
    have hll := HLL.out
    have hbl2 : s.o.b.length ≤ 140737488350000 := by omega
    have HBL := Lib.hid hbl2
    have hdec := HDEC.out
    rw [if_neg (by simp)] at hdec
    have HDE := Lib.hid hdec
    have HS2 := Lib.hid hS
    obtain ⟨-, -, -, c3, -, -, -⟩ := DI.cells hS
    have HF := Lib.hid (st_hs_full hS 2 rfl)
    have HLB := Lib.hid (fun (w' : World) (h : St w w' (DI q qr qo large kp s ++ kl)) (hl : s.o.b.length ≤ 140737488350000) => st_hs_bytes h 2 rfl hl)
    have HLF := Lib.hid (fun (w' : World) (h : St w w' (DI q qr qo large kp s ++ kl)) => st_left h 1 rfl)
    have HM := Lib.hid hm
    rw [hm] at HF
    clear hS hdec HDEC HS HOK ho hm hbl hll hbl2
    go_wp2_with fail
    refine HF.out.mono ?_; rintro e wf ⟨rfl, m, rfl⟩
    have HS3 := Lib.hid (HS2.out.read ((Keep.refl [] we).drewN m))
    have HK3 := Lib.hid (HK.out.drewN m)
    clear HF HS2 HK c3
    generalize we.drewN m = w3 at HS3 HK3 ⊢
    by_cases g1 : s.o.b.length = size
    · have t1 : decide (s.o.b.length = size) = true := by simpa using g1
      rw [if_neg (by simpa using g1)] at HDE
      obtain ⟨-, -, -, c3, -, -, -⟩ := DI.cells HS3.out
      have HLF2 := Lib.hid (HLF.out w3 HS3.out)
      obtain ⟨c0, -, -, -, -, -, -⟩ := DI.cells HS3.out
      clear g1 HLF
      obtain ⟨lf, hlf⟩ : ∃ lf, s.r.left = lf := ⟨_, rfl⟩
      rw [hlf] at HDE HLF2
      clear hlf
      go_wp2_with fail
      refine HLF2.out.mono ?_; rintro e wf ⟨rfl, m, rfl⟩
      have HS4 := Lib.hid (HS3.out.read ((Keep.refl [] w3).drewN m))
      have HK4 := Lib.hid (HK3.out.drewN m)
      clear HLF2 HS3 HK3 c3 c0
      generalize w3.drewN m = w4 at HS4 HK4 ⊢
      by_cases g2 : 8 ≤ lf
      · rw [if_pos g2] at HDE
        have t8 : decide ((8 : Int) ≤ (lf : Int)) = true := decide_eq_true (by omega)
        have t8' : decide (8 ≤ lf) = true := decide_eq_true g2
        clear g2
        go_wp2_with fail
        go_ret3
        rw [HDE.out]
        exact ⟨.slice none 0 0, rfl, Bs.nil _, HK4.out⟩
      · rw [if_neg g2] at HDE
        have t8 : decide ((8 : Int) ≤ (lf : Int)) = false := decide_eq_false (by omega)
        have t8' : decide (8 ≤ lf) = false := decide_eq_false g2
        obtain ⟨-, -, -, c3, -, -, -⟩ := DI.cells HS4.out
        have HBY := Lib.hid (HLB.out (w4.drew) (HS4.out.read ((Keep.refl [] w4).drew)) HBL.out)
        clear g2 HLB
        go_upto_region 12 with fail
        go_cut [6, 7, 8] (fun v6 v7 v8 wx => v7 = .int .i64 s.n ∧ v8 = .int .i64 0 ∧ Bs wx v6 s.o.b ∧ Keep [] w wx)
        case first =>
          go_region_with (first | (go_at_call 26; (refine HBY.out.mono ?_); (rintro e w5 ⟨v5, rfl, hO, hk5, -⟩); (obtain ⟨-, -, -, c5, -, -, -⟩ := DI.cells ((HS4.out.read ((Keep.refl [] w4).drew)).read hk5)); (have HO5 := Lib.hid hO.bs); (have HK5 := Lib.hid ((HK4.out.drew).trans hk5 (by simp))); (clear hO hk5)))
          all_goals
            go_wp2_with fail
            go_meet
            exact ⟨rfl, rfl, HO5.out, HK5.out⟩
        case rest =>
        obtain ⟨rfl, rfl, hO, hk⟩ := hcut
        have HO := Lib.hid hO; have HK5 := Lib.hid hk
        clear hO hk HBY c3
        go_wp2_with fail
        go_ret3
        rw [HDE.out]
        exact ⟨_, rfl, HO.out, HK5.out⟩
    · have t1 : decide (s.o.b.length = size) = false := by simpa using g1
      rw [if_pos (by simpa using g1)] at HDE
      clear g1
      go_wp2_with fail
      go_ret3
      rw [HDE.out]
      exact ⟨.slice none 0 0, rfl, Bs.nil _, HK3.out⟩
  · have t0 : ((ed : Int) != 0) = true := by simp; omega
    have HRE : Hid (R = ([], 0, ed)) := by have := HDEC.out; rw [if_pos g0] at this; exact this
    clear g0 HDEC HS HOK
    go_wp2_with fail
    go_ret3
    rw [HRE.out]
    exact ⟨.slice none 0 0, rfl, Bs.nil _, HK.out⟩
theorem inf_decode (w : World) (v : Value) (b : List UInt8) (large : Bool) (size : Int) (hg : G18 w) (hb : Bs w v b) (hl : b.length ≤ 1000000) (hs : (Lit.int .i64 size).wf = true) : Calls Tryz.prog 8 #[v, .bool large, .int .i64 size] w fun e w' => ∃ v', e = .returned (.tuple #[v', .int .i64 (dec18 b large size).2.1, .int .i64 (dec18 b large size).2.2]) ∧ Bs w' v' (dec18 b large size).1 ∧ Keep [] w w' := by
  have hs2 : -9223372036854775808 ≤ size ∧ size ≤ 9223372036854775807 := by simpa [Lit.wf, IntKind.min, IntKind.max, IntKind.bits, IntKind.signed] using hs
  by_cases h : size < 0
  · have hd : dec18 b large size = ([], 0, 2) := by unfold dec18; rw [if_pos h]
    rw [hd]
    refine (inf_decode_neg w v large size h hs2.1).mono ?_
    rintro e w' ⟨rfl, hk⟩
    exact ⟨_, rfl, Bs.nil _, hk⟩
  · obtain ⟨m, rfl⟩ : ∃ m : Nat, size = m := ⟨size.toNat, by omega⟩
    exact inf_decode_ok w v b large m hg hb hl hs2.2
end Go.Proofs.YtokfcgloogdeiaaGreatDoor
