/- Texts put together: Hst StHst -/
import Derived.Test.YtokfcgloogdeiaaGreatDoorPart9
import Derived.Lib.MinMax
import Derived.Test.YtokfcgloogdeiaaGreatDoorPart3
namespace Go.Proofs.YtokfcgloogdeiaaGreatDoor
set_option linter.unusedVariables false
set_option linter.unusedSimpArgs false
open Go.ChangeShapes Go.WideShapes Go.ChangeAt Go.RowKit

theorem check_none (w : World) (d n : Int) : Calls Tryz.prog 74 #[.pointer none, .int .i64 d, .int .i64 n] w fun e w' => e = .returned (.int .i64 1) ∧ w = w' := by
  go_enter Tryz.func74, Tryz.ntmps74
  go_wp2_with (refine (made_none _).mono ?_; rintro e w' ⟨rfl, rfl⟩)
  go_ret
  exact ⟨rfl, rfl⟩
theorem check_plain (w : World) (q : Nat) (h : HoPlain w q) (d n : Int) : Calls Tryz.prog 74 #[.pointer (some ⟨q, 0, none⟩), .int .i64 d, .int .i64 n] w fun e w' => e = .returned (.int .i64 1) ∧ w = w' := by
  go_enter Tryz.func74, Tryz.ntmps74
  go_wp2_with (refine (made_plain _ _ h).mono ?_; rintro e w' ⟨rfl, rfl⟩)
  go_ret
  exact ⟨rfl, rfl⟩
theorem check_c (w : World) (q : Nat) (v : Value) (s : HS) (h : Hv w q v s) (d n : Int) (hd : (Lit.int .i64 d).wf = true) (hn : (Lit.int .i64 n).wf = true) :
    Calls Tryz.prog 74 #[.pointer (some ⟨q, 0, none⟩), .int .i64 d, .int .i64 n] w fun e w' => e = .returned (.int .i64 (s.copy d n).1) ∧ ∃ k, w' = w.drewN k := by
  have HM := Lib.hid (made_c w q _ s h)
  have hm := h.2.2.2.2.1
  have hlen := h.2.2.2.1
  have c0 := h.1.cell 0 _ rfl
  have c1 := h.1.cell 1 _ rfl
  have c2 := h.1.cell 2 _ rfl
  have c3 := h.1.cell 3 _ rfl
  obtain ⟨a, cap, rfl, _⟩ := h.2.1.bs
  unfold HS.copy
  by_cases h1 : d < 1 ∨ n < 0
  · rw [if_pos h1]
    by_cases h2 : d < 1
    · have t1 : decide (d < 1) = true := by simpa using h2
      clear h1 h2
      go_enter Tryz.func74, Tryz.ntmps74
      go_wp2_with (refine HM.out.mono ?_; rintro e w' ⟨rfl, rfl⟩)
      go_ret
      exact ⟨rfl, 0, rfl⟩
    · have t1 : decide (d < 1) = false := by simpa using h2
      have t2 : decide (n < 0) = true := by simp; omega
      clear h1 h2
      go_enter Tryz.func74, Tryz.ntmps74
      go_wp2_with (refine HM.out.mono ?_; rintro e w' ⟨rfl, rfl⟩)
      go_ret
      exact ⟨rfl, 0, rfl⟩
  rw [if_neg h1]
  have t1 : decide (d < 1) = false := by simp; omega
  have t2 : decide (n < 0) = false := by simp; omega
  have hd1 : 1 ≤ d := by omega
  have hn1 : 0 ≤ n := by omega
  clear h1
  by_cases h1 : (s.win : Int) < d ∨ ((s.b.length : Int) < d ∧ s.nou = false)
  · rw [if_pos h1]
    by_cases h2 : (s.win : Int) < d
    · have t3 : decide ((s.win : Int) < d) = true := by simpa using h2
      clear h1 h2
      go_enter Tryz.func74, Tryz.ntmps74
      go_wp2_with (refine HM.out.mono ?_; rintro e w' ⟨rfl, rfl⟩)
      go_ret
      exact ⟨rfl, 0, rfl⟩
    · have t3 : decide ((s.win : Int) < d) = false := by simpa using h2
      have t4 : decide ((s.b.length : Int) < d) = true := by simp; omega
      have t5 : s.nou = false := by rcases h1 with h | h; exact absurd h h2; exact h.2
      clear h1 h2
      go_enter Tryz.func74, Tryz.ntmps74
      go_wp2_with (refine HM.out.mono ?_; rintro e w' ⟨rfl, rfl⟩)
      go_ret
      exact ⟨rfl, 0, rfl⟩
  rw [if_neg h1]
  have t3 : decide ((s.win : Int) < d) = false := by simp; omega
  have hs : IntKind.i64.wrap ((s.most : Int) - (s.b.length : Int)) = (s.most : Int) - s.b.length := by rw [IntKind.wrap_i64]; omega
  obtain ⟨b, hb⟩ : ∃ b : Bool, decide ((s.most : Int) - (s.b.length : Int) < n) = b := ⟨_, rfl⟩
  have hres : ((if (s.most : Int) - (s.b.length : Int) < n then ((9, s) : Nat × HS) else (0, { s with b := cpy s.b d.toNat n.toNat })).1 : Nat) = if b then 9 else 0 := by
    rw [← hb]; by_cases e : (s.most : Int) - (s.b.length : Int) < n <;> simp [e]
  rw [hres]
  clear hres
  have hx : decide ((s.b.length : Int) < d) = false ∨ (decide ((s.b.length : Int) < d) = true ∧ s.nou = true) := by
    by_cases e : (s.b.length : Int) < d
    · right; refine ⟨by simpa using e, ?_⟩; cases hn : s.nou; exact absurd (.inr ⟨e, hn⟩) h1; rfl
    · left; simpa using e
  clear h1
  rcases hx with t4 | ⟨t4, t5⟩
  all_goals
    go_enter Tryz.func74, Tryz.ntmps74
    go_wp2_with fail
    refine HM.out.mono ?_; rintro e w' ⟨rfl, rfl⟩
    go_wp2_with fail
    go_quiet (fail)
    cases b
    all_goals
      go_wp2
      go_ret
      exact ⟨rfl, _, rfl⟩
set_option maxHeartbeats 2000000 in
/-- a copy's bytes, in pieces that double: b0's bytes and as many as m more were told, N are to be told -/
theorem again_c (w : World) (q : Nat) (v : Value) (s : HS) (d N : Nat) (h : Hv w q v s) (h1 : 1 ≤ d) (h2 : d ≤ s.b.length) (hN : s.b.length + N ≤ s.most) (hl : s.b.length + N ≤ 140737488350000) :
    Calls Tryz.prog 75 #[.pointer (some ⟨q, 0, none⟩), .int .i64 ((s.b.length - d : Nat) : Int), .int .i64 (N : Int)] w fun e w' => e = .returned (.tuple #[]) ∧
      ∃ v', Hv w' q v' { s with b := cpy s.b d N } ∧ Keep (q :: v.ownBlock.toList) w w' ∧ (∀ b, v'.ownBlock = some b → v.ownBlock = some b ∨ w.heap.size ≤ b) := by
  obtain ⟨f, hf⟩ : ∃ f, f = s.b.length - d := ⟨_, rfl⟩
  have hf2 : f + d = s.b.length := by omega
  rw [← hf]
  have HF := Lib.hid hf; clear hf
  go_enter Tryz.func75, Tryz.ntmps75
  go_wp2_with fail
  go_loopw [2] (fun i wr => ∃ (v' : Value) (m : Nat), m ≤ N ∧ i = .int .i64 ((N - m : Nat) : Int) ∧ (m = N ∨ m % d = 0) ∧ Hv wr q v' { s with b := cpy s.b d m } ∧ Keep (q :: v.ownBlock.toList) w wr ∧ (∀ b, v'.ownBlock = some b → v.ownBlock = some b ∨ w.heap.size ≤ b)) (fun i _ => (intOf i).toNat)
  case atStart => exact ⟨v, 0, by omega, rfl, .inr (Nat.zero_mod _), h, Keep.refl _ _, fun b hb => .inl hb⟩
  case round =>
    obtain ⟨v', m, hm, rfl, hmd, HV, KK, hv⟩ := hrel
    obtain ⟨r, hr⟩ : ∃ r, N - m = r := ⟨_, rfl⟩
    rw [hr]
    have hmd' := Lib.hid hmd; clear hmd
    have hr' := Lib.hid hr; clear hr
    by_cases h0 : r = 0
    · have t : decide ((0 : Int) < (r : Int)) = false := by simp; omega
      have hmN : m = N := by have := hr'.out; omega
      clear hr'
      subst h0 hmN
      go_wp2
      go_end0
      exact ⟨rfl, v', HV, KK, hv⟩
    · have t : decide ((0 : Int) < (r : Int)) = true := by simp; omega
      have hmod : m % d = 0 := by rcases hmd'.out with h' | h'; (have := hr'.out; omega); exact h'
      have hlen : (cpy s.b d m).length = s.b.length + m := cpy_len _ _ _
      have c0 := HV.1.cell 0 _ rfl
      obtain ⟨p, hp, hpb, hpo⟩ := HV.2.1.bs.from f f rfl (by rw [hlen]; omega)
      obtain ⟨g, hg⟩ : ∃ g, ((cpy s.b d m).drop f).length = g := ⟨_, rfl⟩
      have hg2 : g = m + d := by rw [← hg, List.length_drop, hlen]; omega
      obtain ⟨ap, cp, rfl, hp1, hp2⟩ := hpb.shape
      rw [hg] at hp hpb hpo hp1
      obtain ⟨j, hj⟩ : ∃ j : Nat, min r g = j := ⟨_, rfl⟩
      have hj2 : min (r : Int) (g : Int) = (j : Int) := by omega
      have hj3 : j ≤ g := by omega
      have hj4 : j ≤ r := by omega
      have hj5 : 1 ≤ j := by omega
      obtain ⟨p2, hq2, hpre, hqo⟩ := Bs.upto (l := (cpy s.b d m).drop f) hpb j j rfl (by rw [hg]; exact hj3)
      obtain ⟨ap2, cp2, rfl, hp3, hp4⟩ := hpre.shape
      have hl9 : (((cpy s.b d m).drop f).take j).length = j := by rw [List.length_take, hg]; omega
      rw [hl9] at hq2 hpre hqo hp3
      have hnext : cpy s.b d m ++ ((cpy s.b d m).drop f).take j = cpy s.b d (m + j) := by
        rw [cpy_piece s.b d m j h1 h2 hmod (by omega), show s.b.length - d = f by omega]
      have hsum : IntKind.i64.wrap ((r : Int) - (j : Int)) = ((r - j : Nat) : Int) := by rw [IntKind.wrap_i64]; have := hr'.out; omega
      have hll : (cpy s.b d m).length + (((cpy s.b d m).drop f).take j).length ≤ 140737488355328 := by
        rw [hlen, List.length_take, hg]; have := hr'.out; omega
      have hO := HV.2.1
      have hB := HV.1
      have hr0 := HV.2.2.1
      have HNX := Lib.hid hnext; have HL := Lib.hid hlen; have HJ := Lib.hid hj; have HG2 := Lib.hid hg2; have HMOD := Lib.hid hmod; have HP := Lib.hid hpre; have HLL := Lib.hid hll
      clear hnext hlen hj hg2 hmod hpre hll hg hpb hpo hp1 hp2 h0 hl9 hp3 hp4 hqo
      obtain ⟨a1, n1, cp1, rfl⟩ := hO.shape
      have hjn : (j : Int).toNat = j := by omega
      go_wp2_with (at_builtin; (refine wpList_appendB (.tmp 25) (.tmp 26) rfl rfl (.slice a1 n1 cp1) (cpy s.b d m) rfl hO (.slice ap2 j cp2) (((cpy s.b d m).drop f).take j) rfl HP.out HLL.out ?_); (intro v3 w3 ho3 hk3 hb3 hz3); (obtain ⟨a3, n3, cp3, rfl⟩ := ho3.shape); (have HR3 := hB.keep hk3 (fun hm => hr0 q (by simpa using hm) rfl)); (have d0 := HR3.cell 0 _ rfl); (have g0 := HR3.free 0))
      go_roundw
      case rel =>
        obtain ⟨t1, t2, t3⟩ := HV.tell (s := { s with b := cpy s.b d m }) (l1 := cpy s.b d (m + j)) hk3 (by rw [← HNX.out]; exact ho3) (by
          intro b hb; rcases hb3 b hb with h' | h'
          · exact .inl h'
          · right; omega) (by rw [cpy_len]; have := hr'.out; show _ ≤ s.most; omega)
        refine ⟨.slice a3 n3 cp3, m + j, ?_, ?_, ?_, t1, ?_, ?_⟩
        · have := hr'.out; omega
        · have := hr'.out; rw [show N - (m + j) = r - j by omega]; first | rfl | (congr 1; omega) | skip
        · by_cases e : r ≤ g
          · left; have := HJ.out; have := hr'.out; omega
          · right
            have e2 : j = m + d := by have := HJ.out; have := HG2.out; omega
            rw [e2, Nat.add_mod, Nat.add_mod_right, HMOD.out]; rfl
        · exact KK.trans t2 (fun x hx => by
            rcases List.mem_cons.1 hx with rfl | hx
            · exact .inl (by simp)
            · rcases hv x (by simpa using hx) with h' | h'
              · exact .inl (by simp [h'])
              · exact .inr h')
        · intro b hb
          rcases t3 b hb with h' | h'
          · exact hv b h'
          · exact .inr (Nat.le_trans KK.size h')
      case measure => simp [intOf]; omega
theorem hs_copy_none (w : World) (d n : Int) (hd : (Lit.int .i64 d).wf = true) (hn : (Lit.int .i64 n).wf = true) : Calls Tryz.prog 60 #[.pointer none, .int .i64 d, .int .i64 n] w fun e w' => e = .returned (.int .i64 1) ∧ w = w' := by
  go_enter Tryz.func60, Tryz.ntmps60
  go_wp2_with (refine (check_none _ _ _).mono ?_; rintro e w' ⟨rfl, rfl⟩)
  go_ret
  exact ⟨rfl, rfl⟩
theorem hs_copy_plain (w : World) (q : Nat) (d n : Int) (h : HoPlain w q) (hd : (Lit.int .i64 d).wf = true) (hn : (Lit.int .i64 n).wf = true) : Calls Tryz.prog 60 #[.pointer (some ⟨q, 0, none⟩), .int .i64 d, .int .i64 n] w fun e w' => e = .returned (.int .i64 1) ∧ ∃ n, w' = w.drewN n := by
  go_enter Tryz.func60, Tryz.ntmps60
  go_wp2_with (refine (check_plain _ _ h _ _).mono ?_; rintro e w' ⟨rfl, rfl⟩)
  go_ret
  exact ⟨rfl, 0, rfl⟩
theorem copy0_c (w : World) (q : Nat) (v : Value) (s : HS) (d n : Int) (h : Hv w q v s) (hd : (Lit.int .i64 d).wf = true) (hn : (Lit.int .i64 n).wf = true) (h0 : ¬ (s.copy d n).1 = 0) (h1 : (s.copy d n).2 = s) :
    Calls Tryz.prog 60 #[.pointer (some ⟨q, 0, none⟩), .int .i64 d, .int .i64 n] w fun e w' => e = .returned (.int .i64 (s.copy d n).1) ∧ ∃ v', Hv w' q v' (s.copy d n).2 ∧ Keep (q :: v.ownBlock.toList) w w' ∧ (∀ b, v'.ownBlock = some b → v.ownBlock = some b ∨ w.heap.size ≤ b) := by
  have HC := Lib.hid (check_c w q v s h d n hd hn)
  obtain ⟨e, he⟩ : ∃ e, (s.copy d n).1 = e := ⟨_, rfl⟩
  rw [he] at h0 HC ⊢
  rw [h1]
  have he2 : ((e : Int) != 0) = true := by simp; omega
  clear h0 h1 he
  go_enter Tryz.func60, Tryz.ntmps60
  go_wp2_with (refine HC.out.mono ?_; rintro e w' ⟨rfl, k, rfl⟩)
  go_ret
  exact ⟨rfl, v, h.drewN _, (Keep.refl _ _).drewN _, fun b hb => .inl hb⟩
theorem copy1_c (w : World) (q : Nat) (v : Value) (s : HS) (d n : Nat) (h : Hv w q v s) (h1 : 1 ≤ d) (hd : (Lit.int .i64 (d : Int)).wf = true) (hn : (Lit.int .i64 (n : Int)).wf = true) (hd2 : d ≤ 65536) (hc : (s.copy d n).1 = 0) (hm : s.b.length + n ≤ s.most) (hl : s.b.length + n ≤ 140737488350000) :
    Calls Tryz.prog 60 #[.pointer (some ⟨q, 0, none⟩), .int .i64 d, .int .i64 n] w fun e w' => e = .returned (.int .i64 0) ∧ ∃ v', Hv w' q v' { s with b := cpy s.b d n } ∧ Keep (q :: v.ownBlock.toList) w w' ∧ (∀ b, v'.ownBlock = some b → v.ownBlock = some b ∨ w.heap.size ≤ b) := by
  have HC := Lib.hid (check_c w q v s h d n hd hn)
  rw [hc] at HC
  clear hc
  obtain ⟨y, hy⟩ : ∃ y : Nat, d - s.b.length = y := ⟨_, rfl⟩
  obtain ⟨x, hx⟩ : ∃ x : Nat, min n y = x := ⟨_, rfl⟩
  have hx1 : max (0 : Int) ((d : Int) - (s.b.length : Int)) = (y : Int) := by omega
  have hx2 : min (n : Int) (y : Int) = (x : Int) := by omega
  have hx3 : x ≤ n := by omega
  have hwr : IntKind.i64.wrap ((d : Int) - (s.b.length : Int)) = (d : Int) - s.b.length := by rw [IntKind.wrap_i64]; omega
  obtain ⟨B, hB⟩ : ∃ B, s.b ++ List.replicate x 0 = B := ⟨_, rfl⟩
  have hBc : cpy s.b d x = B := by
    by_cases e : x = 0
    · subst e; rw [← hB]; simp [cpy]
    · rw [cpy_zeros _ _ _ (by omega), hB]
  have hg : B.length = s.b.length + x := by rw [← hB]; simp
  have hBn : cpy s.b d n = cpy B d (n - x) := by rw [← hBc, ← cpy_add, Nat.add_sub_cancel' hx3]
  rw [hBn]
  obtain ⟨g, hgg⟩ : ∃ g, s.b.length + x = g := ⟨_, rfl⟩
  rw [hgg] at hg
  have hg2 : g ≤ s.most := by omega
  have hA : x < n → ∀ w v, Hv w q v { s with b := B } → Calls Tryz.prog 75 #[.pointer (some ⟨q, 0, none⟩), .int .i64 ((g - d : Nat) : Int), .int .i64 ((n - x : Nat) : Int)] w fun e w' => e = .returned (.tuple #[]) ∧
      ∃ v', Hv w' q v' { s with b := cpy B d (n - x) } ∧ Keep (q :: v.ownBlock.toList) w w' ∧ (∀ b, v'.ownBlock = some b → v.ownBlock = some b ∨ w.heap.size ≤ b) := by
    intro hlt w v hv
    rw [← hg]
    exact again_c w q v { s with b := B } d (n - x) hv h1 (by show d ≤ B.length; omega) (by show B.length + (n - x) ≤ s.most; omega) (by show B.length + (n - x) ≤ _; omega)
  have hs1 : x < n → IntKind.i64.wrap ((g : Int) - (d : Int)) = ((g - d : Nat) : Int) := by intro; rw [IntKind.wrap_i64]; omega
  have hs2 : x < n → IntKind.i64.wrap ((n : Int) - (x : Int)) = ((n - x : Nat) : Int) := by intro; rw [IntKind.wrap_i64]; omega
  have HHB := Lib.hid hB; have HHg := Lib.hid hg; have HA := Lib.hid hA; have HS1 := Lib.hid hs1; have HS2 := Lib.hid hs2; have HLL := Lib.hid (show s.b.length + x ≤ 140737488355328 by omega); have HG2 := Lib.hid hg2
  clear hB hBc hg hBn hA hs1 hs2 hg2 hgg hy
  have c0 := h.1.cell 0 _ rfl
  have hO := h.2.1
  have hBk := h.1
  have hr0 := h.2.2.1
  obtain ⟨a1, cp1, rfl, _⟩ := h.2.1.bs.shape
  have hcase : x < n ∨ x = n := by omega
  have HK : ∀ (wn w3 : World) (v3 : Value), Hv wn q (.slice a1 s.b.length cp1) s → Keep [] w wn → Keep (Value.slice a1 s.b.length cp1).ownBlock.toList wn w3 → OwnB w3 v3 B → (∀ b, v3.ownBlock = some b → (Value.slice a1 s.b.length cp1).ownBlock = some b ∨ b = wn.heap.size) →
      Hv (w3.setCell ⟨q, 0, none⟩ v3) q v3 { s with b := B } ∧ Keep (q :: (Value.slice a1 s.b.length cp1).ownBlock.toList) w (w3.setCell ⟨q, 0, none⟩ v3) ∧ (∀ b, v3.ownBlock = some b → (Value.slice a1 s.b.length cp1).ownBlock = some b ∨ w.heap.size ≤ b) := by
    intro wn w3 v3 h2 KN hk3 ho3 hb3
    obtain ⟨t1, t2, t3⟩ := h2.tell hk3 ho3 (by
      intro b hb; rcases hb3 b hb with h' | h'
      · exact .inl h'
      · right; omega) (by rw [HHg.out]; exact HG2.out)
    exact ⟨t1, (KN.nil).trans t2 (fun x hx => .inl hx), fun b hb => (t3 b hb).imp id fun h' => Nat.le_trans KN.size h'⟩
  have HHK := Lib.hid HK; clear HK
  rcases hcase with hlt | rfl
  · have t : decide (x < n) = true := by simpa using hlt
    have hs1 := HS1.out hlt
    have hs2 := HS2.out hlt
    have HA2 := Lib.hid (HA.out hlt)
    clear hlt hx
    go_enter Tryz.func60, Tryz.ntmps60
    go_wp2_with fail
    refine HC.out.mono ?_; rintro e w' ⟨rfl, k, rfl⟩
    have h2 := h.drewN k
    have c0 := h2.1.cell 0 _ rfl
    have KN : Keep [] w (w.drewN k) := (Keep.refl _ _).drewN _
    generalize w.drewN k = wn at h2 c0 KN ⊢
    have hO := h2.2.1
    have hBk := h2.1
    go_wp2_with (at_builtin; (refine wpList_appendZ (.tmp 30) (.tmp 31) rfl rfl (.slice a1 s.b.length cp1) s.b rfl hO x rfl HLL.out ?_); (intro v3 w3 ho3 hk3 hb3); (rw [HHB.out] at ho3); (have hK3 := HHK.out _ _ _ h2 KN hk3 ho3 hb3); (obtain ⟨a3, c3, e3, q1, q2⟩ := ho3.bs.shape); (rw [HHg.out] at e3 q1); (subst e3); (have HR3 := hBk.keep hk3 (fun hm => hr0 q (by simpa using hm) rfl)); (have d0 := HR3.cell 0 _ rfl); (have g0 := HR3.free 0); (have d9 := (HR3.set 0 (.slice a3 g c3)).cell 0 _ rfl))
    obtain ⟨t1, t2, t3⟩ := hK3
    refine (HA2.out _ _ t1).mono ?_
    rintro e w4 ⟨rfl, v4, h4, k4, b4⟩
    go_wp2_with fail
    go_ret
    refine ⟨rfl, v4, h4, t2.trans k4 ?_, fun b hb => ?_⟩
    · intro z hz
      rcases List.mem_cons.1 hz with rfl | hz
      · exact .inl (by simp)
      · rcases t3 z (by simpa using hz) with h' | h'
        · exact .inl (by simp [h'])
        · exact .inr h'
    · rcases b4 b hb with h' | h'
      · exact t3 b h'
      · exact .inr (Nat.le_trans t2.size h')
  · have t : decide (x < x) = false := by simp
    clear hx hx3 HA HS1 HS2
    rw [Nat.sub_self]
    go_enter Tryz.func60, Tryz.ntmps60
    go_wp2_with fail
    refine HC.out.mono ?_; rintro e w' ⟨rfl, k, rfl⟩
    have h2 := h.drewN k
    have c0 := h2.1.cell 0 _ rfl
    have KN : Keep [] w (w.drewN k) := (Keep.refl _ _).drewN _
    generalize w.drewN k = wn at h2 c0 KN ⊢
    have hO := h2.2.1
    have hBk := h2.1
    go_wp2_with (at_builtin; (refine wpList_appendZ (.tmp 30) (.tmp 31) rfl rfl (.slice a1 s.b.length cp1) s.b rfl hO x rfl HLL.out ?_); (intro v3 w3 ho3 hk3 hb3); (rw [HHB.out] at ho3); (have hK3 := HHK.out _ _ _ h2 KN hk3 ho3 hb3); (obtain ⟨a3, c3, e3, q1, q2⟩ := ho3.bs.shape); (rw [HHg.out] at e3 q1); (subst e3); (have HR3 := hBk.keep hk3 (fun hm => hr0 q (by simpa using hm) rfl)); (have d0 := HR3.cell 0 _ rfl); (have g0 := HR3.free 0))
    go_ret
    obtain ⟨t1, t2, t3⟩ := hK3
    exact ⟨rfl, .slice a3 g c3, by simpa [cpy] using t1, t2, t3⟩
/-- block q is an output in state s; bs: all its blocks, q among them -/
def Ho (w : World) (q : Nat) (bs : List Nat) (s : HS) : Prop := ∃ v : Value, bs = q :: v.ownBlock.toList ∧ Hv w q v s
theorem Ho.keep {w w' : World} {q : Nat} {bs S : List Nat} {s : HS} (h : Ho w q bs s) (k : Keep S w w') (hs : ∀ b ∈ bs, b ∉ S) : Ho w' q bs s := by
  obtain ⟨v, rfl, h⟩ := h
  exact ⟨v, rfl, h.keep k (hs q (by simp)) (fun b hb => hs b (by simp [hb]))⟩
theorem Ho.lt {w : World} {q : Nat} {bs : List Nat} {s : HS} (h : Ho w q bs s) : ∀ b ∈ bs, b < w.heap.size := by
  obtain ⟨v, rfl, h⟩ := h
  intro b hb
  rcases List.mem_cons.1 hb with rfl | hb
  · exact h.1.lt
  · exact h.2.1.lt b (by simpa using hb)
theorem Ho.ok {w : World} {q : Nat} {bs : List Nat} {s : HS} (h : Ho w q bs s) : s.b.length ≤ s.most ∧ s.most ≤ 9223372036854775807 ∧ s.win ≤ 65536 ∧ 1 ≤ s.win := by
  obtain ⟨v, rfl, h⟩ := h
  exact h.2.2.2
/-- what a call that tells bytes leaves behind -/
def HoStep (w w' : World) (q : Nat) (bs : List Nat) (s' : HS) : Prop := ∃ bs', Ho w' q bs' s' ∧ Keep bs w w' ∧ ∀ b ∈ bs', b ∈ bs ∨ w.heap.size ≤ b
theorem HoStep.of {w w' : World} {q : Nat} {v v' : Value} {s' : HS} (h : Hv w' q v' s') (k : Keep (q :: v.ownBlock.toList) w w') (hb : ∀ b, v'.ownBlock = some b → v.ownBlock = some b ∨ w.heap.size ≤ b) : HoStep w w' q (q :: v.ownBlock.toList) s' := by
  refine ⟨_, ⟨v', rfl, h⟩, k, ?_⟩
  intro b hb'
  rcases List.mem_cons.1 hb' with rfl | hb'
  · exact .inl (by simp)
  · rcases hb b (by simpa using hb') with h' | h'
    · exact .inl (by simp [h'])
    · exact .inr h'
theorem hs_new (w : World) (win most : Int) (nou : Bool) (hm : most ≤ 9223372036854775807) (hm2 : -9223372036854775808 ≤ most) : Calls Tryz.prog 20 #[.int .i64 win, .int .i64 most, .bool nou] w fun e w' => ∃ p er, e = .returned (.tuple #[.pointer p, .int .i64 (er : Nat)]) ∧ Keep [] w w' ∧ (hsBad win most → p = none ∧ er = 2) ∧ (¬ hsBad win most → er = 0 ∧ ∃ q bs, p = some ⟨q, 0, none⟩ ∧ Ho w' q bs ⟨win.toNat, most.toNat, nou, []⟩ ∧ ∀ b ∈ bs, w.heap.size ≤ b) := by
  by_cases hb : hsBad win most
  · have hb' := hb
    unfold hsBad at hb'
    have HB := Lib.hid hb; clear hb
    by_cases h1 : win < 1
    · have t1 : decide (win < 1) = true := by simpa using h1
      clear hb' h1
      go_enter Tryz.func20, Tryz.ntmps20
      go_wp2
      go_ret2
      exact ⟨none, 2, rfl, Keep.refl _ _, fun _ => ⟨rfl, rfl⟩, fun h => absurd HB.out h⟩
    · have t1 : decide (win < 1) = false := by simpa using h1
      by_cases h2 : 65536 < win
      · have t2 : decide (65536 < win) = true := by simpa using h2
        clear hb' h1 h2
        go_enter Tryz.func20, Tryz.ntmps20
        go_wp2
        go_ret2
        exact ⟨none, 2, rfl, Keep.refl _ _, fun _ => ⟨rfl, rfl⟩, fun h => absurd HB.out h⟩
      · have t2 : decide (65536 < win) = false := by simpa using h2
        have t3 : decide (most < 0) = true := by simp; omega
        clear hb' h1 h2
        go_enter Tryz.func20, Tryz.ntmps20
        go_wp2
        go_ret2
        exact ⟨none, 2, rfl, Keep.refl _ _, fun _ => ⟨rfl, rfl⟩, fun h => absurd HB.out h⟩
  · have hb' := hb
    unfold hsBad at hb'
    have HB := Lib.hid hb; clear hb
    have t1 : decide (win < 1) = false := by simp; omega
    have t2 : decide (65536 < win) = false := by simp; omega
    have t3 : decide (most < 0) = false := by simp; omega
    have e1 : (win.toNat : Int) = win := by omega
    have e2 : (most.toNat : Int) = most := by omega
    have e3 : most.toNat ≤ 9223372036854775807 ∧ win.toNat ≤ 65536 ∧ 1 ≤ win.toNat := by omega
    have HE := Lib.hid e1; have HE2 := Lib.hid e2; have HE3 := Lib.hid e3
    clear hb' e1 e2 e3
    go_enter Tryz.func20, Tryz.ntmps20
    go_wp2
    go_ret2
    refine ⟨_, 0, rfl, (Keep.refl _ _).alloc _, fun h => absurd h HB.out, fun _ => ⟨rfl, w.heap.size, [w.heap.size], rfl, ?_, by simp⟩⟩
    refine ⟨.slice none 0 0, rfl, ?_, OwnB.nil _, by simp [Value.ownBlock], Nat.zero_le _, HE3.out⟩
    have := Blk.new w #[.slice none 0 0, .int .i64 win, .int .i64 most, .bool nou] 95
    show Blk _ _ #[_, .int .i64 ((win.toNat : Nat) : Int), .int .i64 ((most.toNat : Nat) : Int), .bool nou] _
    rw [HE.out, HE2.out]
    exact this
theorem hs_lit (w : World) (q : Nat) (bs : List Nat) (s : HS) (c : UInt8) (h : Ho w q bs s) (hl : s.b.length + 1 ≤ 140737488350000) : Calls Tryz.prog 59 #[.pointer (some ⟨q, 0, none⟩), .int .u8 c.toNat] w fun e w' => e = .returned (.int .i64 (s.lit c).1) ∧ HoStep w w' q bs (s.lit c).2 := by
  obtain ⟨v, rfl, h⟩ := h
  refine (litw_c w q v s c h hl).mono ?_
  rintro e w' ⟨he, v', h1, h2, h3⟩
  exact ⟨he, HoStep.of h1 h2 h3⟩
theorem hs_copy (w : World) (q : Nat) (bs : List Nat) (s : HS) (d n : Int) (h : Ho w q bs s) (hd : (Lit.int .i64 d).wf = true) (hn : (Lit.int .i64 n).wf = true) (hl : (s.b.length : Int) + (if (s.most : Int) - s.b.length < n then 0 else max 0 n) ≤ 140737488350000) : Calls Tryz.prog 60 #[.pointer (some ⟨q, 0, none⟩), .int .i64 d, .int .i64 n] w fun e w' => e = .returned (.int .i64 (s.copy d n).1) ∧ HoStep w w' q bs (s.copy d n).2 := by
  obtain ⟨v, rfl, h⟩ := h
  by_cases h0 : (s.copy d n).1 = 0
  · have h0' := h0
    have e2 : 1 ≤ d ∧ 0 ≤ n ∧ ¬ (s.win : Int) < d ∧ ¬ (s.most : Int) - s.b.length < n ∧ (s.copy d n).2 = { s with b := cpy s.b d.toNat n.toNat } := by
      unfold HS.copy at h0 ⊢
      split at h0
      · cases h0
      rename_i a1
      split at h0
      · cases h0
      rename_i a2
      split at h0
      · cases h0
      rename_i a3
      rw [if_neg a1, if_neg a2, if_neg a3]
      exact ⟨by omega, by omega, by omega, a3, rfl⟩
    obtain ⟨q1, q2, q3, q4, q5⟩ := e2
    rw [h0, q5]
    rw [if_neg q4] at hl
    have hw := h.2.2.2.2.2.1
    have hm := h.2.2.2.1
    obtain ⟨d', rfl⟩ : ∃ d' : Nat, d = d' := ⟨d.toNat, by omega⟩
    obtain ⟨n', rfl⟩ : ∃ n' : Nat, n = n' := ⟨n.toNat, by omega⟩
    refine (copy1_c w q v s d' n' h (by omega) hd hn (by omega) h0' (by omega) (by omega)).mono ?_
    rintro e w' ⟨he, v', h1, h2, h3⟩
    exact ⟨he, HoStep.of h1 h2 h3⟩
  · have h1 : (s.copy d n).2 = s := by
      unfold HS.copy at h0 ⊢
      split
      · rfl
      split
      · rfl
      split
      · rfl
      · rename_i a1 a2 a3
        rw [if_neg a1, if_neg a2, if_neg a3] at h0
        exact absurd rfl h0
    refine (copy0_c w q v s d n h hd hn h0 h1).mono ?_
    rintro e w' ⟨he, v', h1, h2, h3⟩
    exact ⟨he, HoStep.of h1 h2 h3⟩
theorem hs_bytes (w : World) (q : Nat) (bs : List Nat) (s : HS) (h : Ho w q bs s) (hl : s.b.length ≤ 140737488350000) : Calls Tryz.prog 26 #[.pointer (some ⟨q, 0, none⟩)] w fun e w' => ∃ v, e = .returned v ∧ OwnB w' v s.b ∧ Keep [] w w' ∧ ∀ b, v.ownBlock = some b → w.heap.size ≤ b := by
  obtain ⟨v, rfl, h⟩ := h
  exact bytes_c w q v s h (by omega)
theorem hs_full (w : World) (q : Nat) (bs : List Nat) (s : HS) (h : Ho w q bs s) : Calls Tryz.prog 24 #[.pointer (some ⟨q, 0, none⟩)] w fun e w' => e = .returned (.bool (decide (s.b.length = s.most))) ∧ ∃ n, w' = w.drewN n := by
  obtain ⟨v, rfl, h⟩ := h
  exact full_c w q v s h
end Go.Proofs.YtokfcgloogdeiaaGreatDoor
namespace Go.Proofs.YtokfcgloogdeiaaGreatDoor
set_option linter.unusedVariables false
set_option linter.unusedSimpArgs false
open Go.ChangeShapes Go.WideShapes Go.ChangeAt Go.RowKit

def Ob.out (q : Nat) (s : HS) : Ob where
  P w bs := Ho w q bs s
  keep := fun h k hb => h.keep k hb
  lt := fun h => h.lt
theorem St.out {W w : World} {Ps : List Ob} (h : St W w Ps) (i : Nat) {q : Nat} {s : HS} (hi : Ps[i]? = some (Ob.out q s)) : ∃ bs, Ho w q bs s := by
  obtain ⟨bs, h1, _⟩ := h.get i hi; exact ⟨bs, h1⟩
theorem st_hs_new {W w : World} {Ps : List Ob} (h : St W w Ps) (win most : Int) (nou : Bool) (hm : most ≤ 9223372036854775807) (hm2 : -9223372036854775808 ≤ most) (hg : ¬ hsBad win most) : Calls Tryz.prog 20 #[.int .i64 win, .int .i64 most, .bool nou] w fun e w' =>
    ∃ q, e = .returned (.tuple #[.pointer (some ⟨q, 0, none⟩), .int .i64 0]) ∧ St W w' (Ps ++ [Ob.out q ⟨win.toNat, most.toNat, nou, []⟩]) ∧ Keep [] w w' := by
  refine (hs_new w win most nou hm hm2).mono ?_
  rintro e w' ⟨p, er, he, hk, _, h2⟩
  obtain ⟨rfl, q, bs, rfl, ho, hb⟩ := h2 hg
  exact ⟨q, he, h.push _ bs ho hk hb, hk⟩
theorem st_hs_lit {W w : World} {Ps : List Ob} (h : St W w Ps) (i : Nat) {q : Nat} {s : HS} (hi : Ps[i]? = some (Ob.out q s)) (c : UInt8) (hl : s.b.length + 1 ≤ 140737488350000) :
    Calls Tryz.prog 59 #[.pointer (some ⟨q, 0, none⟩), .int .u8 c.toNat] w fun e w' => e = .returned (.int .i64 (s.lit c).1) ∧ St W w' (Ps.set i (Ob.out q (s.lit c).2)) := by
  obtain ⟨bs, h1, h2, h3⟩ := h.focus i hi
  refine (hs_lit w q bs s c h1 hl).mono ?_
  rintro e w' ⟨he, bs', ht, hk, hb⟩
  exact ⟨he, h3 w' (Ob.out q _) bs' ht hk hb⟩
theorem st_hs_copy {W w : World} {Ps : List Ob} (h : St W w Ps) (i : Nat) {q : Nat} {s : HS} (hi : Ps[i]? = some (Ob.out q s)) (d n : Int) (hd : (Lit.int .i64 d).wf = true) (hn : (Lit.int .i64 n).wf = true) (hl : (s.b.length : Int) + (if (s.most : Int) - s.b.length < n then 0 else max 0 n) ≤ 140737488350000) :
    Calls Tryz.prog 60 #[.pointer (some ⟨q, 0, none⟩), .int .i64 d, .int .i64 n] w fun e w' => e = .returned (.int .i64 (s.copy d n).1) ∧ St W w' (Ps.set i (Ob.out q (s.copy d n).2)) := by
  obtain ⟨bs, h1, h2, h3⟩ := h.focus i hi
  refine (hs_copy w q bs s d n h1 hd hn hl).mono ?_
  rintro e w' ⟨he, bs', ht, hk, hb⟩
  exact ⟨he, h3 w' (Ob.out q _) bs' ht hk hb⟩
theorem st_hs_full {W w : World} {Ps : List Ob} (h : St W w Ps) (i : Nat) {q : Nat} {s : HS} (hi : Ps[i]? = some (Ob.out q s)) : Calls Tryz.prog 24 #[.pointer (some ⟨q, 0, none⟩)] w fun e w' => e = .returned (.bool (decide (s.b.length = s.most))) ∧ ∃ n, w' = w.drewN n := by
  obtain ⟨bs, h1⟩ := h.out i hi
  exact hs_full w q bs s h1
theorem st_hs_bytes {W w : World} {Ps : List Ob} (h : St W w Ps) (i : Nat) {q : Nat} {s : HS} (hi : Ps[i]? = some (Ob.out q s)) (hl : s.b.length ≤ 140737488350000) : Calls Tryz.prog 26 #[.pointer (some ⟨q, 0, none⟩)] w fun e w' => ∃ v, e = .returned v ∧ OwnB w' v s.b ∧ Keep [] w w' ∧ ∀ b, v.ownBlock = some b → w.heap.size ≤ b := by
  obtain ⟨bs, h1⟩ := h.out i hi
  exact hs_bytes w q bs s h1 hl
end Go.Proofs.YtokfcgloogdeiaaGreatDoor
