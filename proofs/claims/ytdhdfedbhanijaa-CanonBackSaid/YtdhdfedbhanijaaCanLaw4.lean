/- The walk of the law CanonFull: it returns true at every input. -/
import Derived.Test.YtdhdfedbhanijaaCanLaw3
import Derived.Deep.LoopGhost
namespace Go.Proofs.Ytdhdfedbhanijaa
set_option linter.unusedVariables false
set_option linter.unusedSimpArgs false
open Go.ChangeShapes Go.WideShapes Go.ChangeAt Go.RowKit

theorem full_ok {zs : List Int} (h : chk zs = 1) : mayB zs = true ∧ wt (Ln zs) = 65536 ∧ werr zs = 0 := by
  have hw : werr zs = 0 := by unfold werr; rw [h]; rfl
  have h1 := werr_ok hw
  refine ⟨h1.1, ?_, hw⟩
  unfold chk at h
  rw [h1.1] at h
  rw [if_neg (by simp)] at h
  by_cases h0 : wt (Ln zs) = 0
  · rw [if_pos h0] at h; omega
  rw [if_neg h0] at h
  by_cases h2 : 65536 < wt (Ln zs)
  · rw [if_pos h2] at h; omega
  rw [if_neg h2] at h
  by_cases h3 : wt (Ln zs) < 65536
  · rw [if_pos h3] at h; omega
  · omega
/-- a full code reads a word wherever there are enough bits -/
theorem next_full (L : List Nat) (s : RS) (hL : ∀ x ∈ L, x ≤ 16) (hwt : wt L = 65536) (hE : s.E = 0) (hl : longest L ≤ s.left) : ∃ i, i < L.length ∧ 0 < len L i ∧ len L i ≤ s.left ∧ len L i ≤ 16 ∧ s.next L = ((i : Int), 0, { s with pos := s.pos + len L i }) := by
  obtain ⟨i, hi⟩ := hit_full L (tr 16 (num s.l s.pos 16) 0) hL hwt (tr16_lt _)
  have h1 := longest_ge L i
  refine ⟨i, hi.1, hi.2.1, by omega, hi.2.2.1, RS.next_hit L s hE i ((pick_some L _ _ i hL).2 ⟨hi, ?_⟩)⟩
  have := hi.2.2.1
  omega
theorem left_after (s : RS) (n : Nat) (hE : s.E = 0) (h : n ≤ s.left) : ({ s with pos := s.pos + n } : RS).left = s.left - n ∧ ({ s with pos := s.pos + n } : RS).E = 0 := by
  have e : ({ s with pos := s.pos + n } : RS).E = s.E := rfl
  have a : s.left = 8 * s.l.length - s.pos := by unfold RS.left; rw [if_pos hE]
  have b : ({ s with pos := s.pos + n } : RS).left = 8 * s.l.length - (s.pos + n) := by unfold RS.left; rw [e, if_pos hE]
  exact ⟨by rw [a, b]; omega, by rw [e]; exact hE⟩
set_option maxRecDepth 100000 in
set_option maxHeartbeats 4000000 in
theorem full_w (W : World) (v0 : Value) (zs0 : List Int) (h0 : Is .i64 W v0 zs0) (v1 : Value) (l0 : List UInt8) (h1 : Bs W v1 l0) : Calls Try.prog 7 #[v0, v1] W fun e w' => e = .returned (.bool true) ∧ Keep [] W w' := by
  go_enter Try.func7, Try.ntmps7
  go_wp2_with fail
  refine (refints_c W v0 zs0 60 (by omega) h0).mono ?_; rintro e w1 ⟨va, rfl, ha, _, rfl⟩
  generalize zs0.take 60 = zs at ha
  go_wp2_with fail
  refine (cut_c W v1 l0 60 (by decide) h1).mono ?_; rintro e w' ⟨vb, rfl, hb, _, rfl⟩
  have hl60 : (l0.take 60).length ≤ 60 := by rw [List.length_take]; omega
  generalize l0.take 60 = l at hb hl60
  clear h0 h1
  go_wp2_with fail
  refine (can_check W va zs ha).mono ?_; rintro e w2 ⟨rfl, k2⟩
  by_cases hf : chk zs = 1
  · obtain ⟨hm, hwt, hw⟩ := full_ok hf
    rw [hf]
    go_wp2_with fail
    refine (can_new w2 va zs (ha.keep k2 (by simp))).mono ?_; rintro e w3 ⟨p, rfl, k3, hp0, hp1⟩
    obtain ⟨d, bs, rfl, hd, hbs⟩ := hp1 hw
    rw [hw]
    have hL := may_Ln hm
    have hN := Ln_length zs
    have HG := Lib.hid (fun i hi => may_get hm i hi)
    have K3 := k2.trans k3 (by simp)
    have HA : Hid (∀ w' (k : Keep [] W w') i (hi : i < (Ln zs).length), ∃ b off cap, va = .slice (some ⟨b, off, none⟩) zs.length cap ∧ w'.cell? ⟨b, off + i, none⟩ = some (.int .i64 (len (Ln zs) i))) := by
      intro w' k i hi
      obtain ⟨g1, g2⟩ := HG.out i (by omega)
      rw [← g1]
      exact (ha.keep k (by simp)).at i (by omega)
    have HNX := Lib.hid (fun s => next_full (Ln zs) s hL hwt)
    have HLO := Lib.hid (fun w' (k : Keep [] w3 w') => can_longest w' d bs _ (hd.keep k (by simp)))
    have hb3 := hb.keep K3 (by simp)
    have hdlt := hd.lt
    generalize Ln zs = L at *
    obtain ⟨a0, cap0, rfl, _⟩ := ha.sh
    clear hp0 hp1 hw hf hm hwt ha HG hL hb k2 k3
    go_wp2_with fail
    refine (open_c w3 vb l (by omega) hb3).mono ?_; rintro e w4 ⟨r, v, rfl, hr, k4, hr2, hv2⟩
    have hrb : r ∉ bs := fun h => by have := hdlt r h; omega
    have hs3 := K3.size
    have K4 := K3.trans k4 (by simp)
    have hd4 := hd.keep k4 (by simp)
    have Hrb := Lib.hid hrb
    have hWr : W.heap.size ≤ r := by omega
    clear hbs hv2 hrb hdlt hr2 hb3 K3 hd HLO
    go_wp2_with fail
    go_loopg [] (8 * l.length) (fun g wr => ∃ s : RS, s.left = g ∧ s.E = 0 ∧ Rd wr r v s ∧ Dec wr d bs L ∧ Keep [] W wr)
    case atStart => exact ⟨⟨l, 0, true, 0⟩, by simp [RS.left, RS.E], rfl, hr, hd4, K4⟩
    case round =>
      clear hr hd4 K4 k4
      obtain ⟨s, hg, hE, hr5, hd5, K5⟩ := hrel
      go_wp2_with fail
      refine (left_c _ _ _ _ hr5).mono ?_; rintro e w5 ⟨rfl, n5, rfl⟩
      have hr6 := hr5.drewN n5
      have hd6 := hd5.keep ((Keep.refl [] _).drewN n5) (by simp)
      have K6 := K5.drewN n5
      generalize wr.drewN n5 = w6 at hr6 hd6 K6 ⊢
      clear hr5 hd5 K5
      go_wp2_with fail
      refine (can_longest _ _ _ _ hd6).mono ?_; rintro e w7 ⟨rfl, n7, rfl⟩
      have hr7 := hr6.drewN n7
      have hd7 := hd6.keep ((Keep.refl [] _).drewN n7) (by simp)
      have K7 := K6.drewN n7
      generalize w6.drewN n7 = w7 at hr7 hd7 K7 ⊢
      clear hr6 hd6 K6
      by_cases hlo : longest L ≤ s.left
      · obtain ⟨i, hi, hp, hle, h16, hnx⟩ := HNX.out s hE hlo
        have hsl : s.left ≤ 8 * s.l.length := by have := RS.left_le s hr7.2.2.1; omega
        have hsl2 := hr7.2.2.1.2.1
        go_wp2_with fail
        refine (left_c _ _ _ _ hr7).mono ?_; rintro e w8 ⟨rfl, n8, rfl⟩
        have hr8 := hr7.drewN n8
        have hd8 := hd7.keep ((Keep.refl [] _).drewN n8) (by simp)
        have K8 := K7.drewN n8
        generalize w7.drewN n8 = w8 at hr8 hd8 K8 ⊢
        clear hr7 hd7 K7
        go_wp2_with fail
        refine (left_c _ _ _ _ hr8).mono ?_; rintro e w9 ⟨rfl, n9, rfl⟩
        have hr9 := hr8.drewN n9
        have hd9 := hd8.keep ((Keep.refl [] _).drewN n9) (by simp)
        have K9 := K8.drewN n9
        generalize w8.drewN n9 = w9 at hr9 hd9 K9 ⊢
        clear hr8 hd8 K8
        go_wp2_with fail
        have hnext := can_next _ d r v s bs L hd9 hr9 Hrb.out
        rw [hnx] at hnext
        refine hnext.mono ?_; rintro e w10 ⟨rfl, hr10, k10⟩
        have hd10 := hd9.keep k10 (fun b hb => by simp; intro e; subst e; exact Hrb.out hb)
        have K10 := K9.trans k10 (by simpa using hWr)
        clear hr9 hd9 K9 k10 hnext hnx
        obtain ⟨b, off, cap, hv, e0⟩ := HA.out _ K10 i hi
        simp only [Value.slice.injEq] at hv
        obtain ⟨rfl, _, rfl⟩ := hv
        obtain ⟨hla, hEa⟩ := left_after s (len L i) hE hle
        obtain ⟨m, hmm⟩ : ∃ m, s.left = m + len L i := ⟨s.left - len L i, by omega⟩
        rw [hmm, Nat.add_sub_cancel] at hla
        generalize ({ s with pos := s.pos + len L i } : RS) = s2 at hr10 hla hEa ⊢
        rw [hmm] at hg hle hsl hlo
        clear hmm hE
        have HLA := Lib.hid hla
        have hlq := fun n => left_c _ _ _ _ (hr10.drewN n)
        rw [hla] at hlq
        have HLQ := Lib.hid hlq
        clear hlq hla
        generalize len L i = z at *
        subst hg
        have hb1 : (m : Int) + z ≤ 1125899906842624 := by omega
        have hw1 : IntKind.i64.wrap ((m : Int) + z - m) = z := by rw [IntKind.wrap_i64]; omega
        have hi2 : i < zs.length := by omega
        clear hlo hle hsl hsl2
        have hge : decide ((zs.length : Int) ≤ i) = false := by simp; omega
        go_wp2_with fail
        go_quiet ((go_at_call 32; exact Calls.quiet_of (HLQ.out _)))
        have hr11 := hr10.drewN nq
        have hd11 := hd10.keep ((Keep.refl [] _).drewN nq) (by simp)
        have K11 := K10.drewN nq
        generalize w10.drewN nq = w11 at hr11 hd11 K11 ⊢
        clear hr10 hd10 K10 HLQ e0
        go_wp2_with fail
        go_roundg m
        case rel => exact ⟨s2, HLA.out, hEa, hr11, hd11, K11⟩
        case measure => omega
      · go_wp2_with fail
        refine (lives_c _).mono ?_; rintro e w12 ⟨rfl, k12⟩
        go_wp2_with fail
        go_ret
        exact ⟨rfl, K7.trans k12 (by simp)⟩
  · have hb2 : (((chk zs : Nat) : Int) == 1) = false := by simp; omega
    have hb3 : (((chk zs : Nat) : Int) != 1) = true := by simp; omega
    generalize chk zs = ck at hb2 hb3 ⊢
    clear hf
    go_wp2_with fail
    refine (lives_c _).mono ?_; rintro e w12 ⟨rfl, k12⟩
    go_wp2_with fail
    go_ret
    exact ⟨rfl, k2.trans k12 (by simp)⟩
end Go.Proofs.Ytdhdfedbhanijaa
