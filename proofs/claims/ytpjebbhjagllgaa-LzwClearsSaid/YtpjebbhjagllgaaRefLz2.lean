/- The document's own table of layer 10: New, Add, Clear. -/
import Derived.Test.YtpjebbhjagllgaaRefLz
namespace Go.Proofs.Ytpjebbhjagllgaa
set_option linter.unusedVariables false
set_option linter.unusedSimpArgs false
open Go.ChangeShapes Go.WideShapes Go.ChangeAt Go.RowKit

theorem srt_len (rows : List Lk) (hs : srt rows) (h : ∀ r ∈ rows, 257 ≤ r.code) : ∀ i, i < rows.length → 257 + i ≤ (rw' rows i).code := by
  intro i
  induction i with
  | zero => intro hi; have := h _ (mem_rw' rows 0 hi); omega
  | succ i ih => intro hi; have h1 := ih (by omega); have h2 := hs i (i + 1) (by omega) hi; omega
theorem LT.ok.len {s : LT} (h : s.ok) : s.rows.length ≤ 7935 := by
  rcases Nat.eq_zero_or_pos s.rows.length with h0 | h0
  · omega
  · have h1 := srt_len _ h.srt (fun r hr => (h.all r hr).1) (s.rows.length - 1) (by omega)
    have h2 := (h.all _ (mem_rw' s.rows (s.rows.length - 1) (by omega))).2.1
    omega
theorem rnew_c (w : World) : Calls Try.prog 9 #[] w fun e w' => e = .returned (.pointer (some ⟨w.heap.size, 0, none⟩)) ∧ RT w' w.heap.size (.slice none 0 0) LT.new ∧ Keep [] w w' := by
  have h := Blk.new w #[.slice none 0 0, .int .i64 256] 57
  go_enter Try.func9, Try.ntmps9
  go_wp2_with fail
  go_ret
  exact ⟨rfl, ⟨h, Gs.nil ER _, LT.new_ok, by decide, by simp [Value.ownBlock]⟩, (Keep.refl [] w).alloc _⟩
theorem radd_no (w : World) (q : Nat) (v : Value) (s : LT) (p : Int) (c : UInt8) (h : RT w q v s) (hn : s.next < 0 ∨ ¬ parOk p) : Calls Try.prog 11 #[.pointer (some ⟨q, 0, none⟩), .int .i64 p, .int .u8 c.toNat] w fun e w' => e = .returned (.int .i64 (-1)) ∧ ∃ n, w' = w.drewN n := by
  have HN := Lib.hid (rnext_c w q v s h)
  clear h
  generalize s.next = nx at *
  by_cases h1 : nx < 0
  · have d1 : decide (nx < 0) = true := by simpa using h1
    clear hn
    go_enter Try.func11, Try.ntmps11
    go_wp2_with fail
    refine HN.out.mono ?_; rintro e w2 ⟨rfl, m, rfl⟩
    go_wp2_with fail
    go_ret
    exact ⟨rfl, _, rfl⟩
  · have hp : ¬ parOk p := by rcases hn with h | h; exact absurd h h1; exact h
    have d1 : decide (nx < 0) = false := by simpa using h1
    clear hn
    by_cases h2 : p < 0
    · have d2 : decide (p < 0) = true := by simpa using h2
      clear hp
      go_enter Try.func11, Try.ntmps11
      go_wp2_with fail
      refine HN.out.mono ?_; rintro e w2 ⟨rfl, m, rfl⟩
      go_wp2_with fail
      go_ret
      exact ⟨rfl, _, rfl⟩
    · have d2 : decide (p < 0) = false := by simpa using h2
      by_cases h3 : 8191 < p
      · have d3 : decide (p > 8191) = true := by simpa using h3
        clear hp
        go_enter Try.func11, Try.ntmps11
        go_wp2_with fail
        refine HN.out.mono ?_; rintro e w2 ⟨rfl, m, rfl⟩
        go_wp2_with fail
        go_ret
        exact ⟨rfl, _, rfl⟩
      · have d3 : decide (p > 8191) = false := by simpa using h3
        have h4 : p = 256 := by unfold parOk at hp; omega
        subst h4
        clear hp
        go_enter Try.func11, Try.ntmps11
        go_wp2_with fail
        refine HN.out.mono ?_; rintro e w2 ⟨rfl, m, rfl⟩
        go_wp2_with fail
        go_ret
        exact ⟨rfl, _, rfl⟩
set_option maxRecDepth 100000 in
set_option maxHeartbeats 4000000 in
theorem radd_yes (w : World) (q : Nat) (v : Value) (s : LT) (p : Nat) (c : UInt8) (n : Nat) (h : RT w q v s) (hn : s.next = (n : Int)) (hn2 : n < 8192) (hp : parOk p) : Calls Try.prog 11 #[.pointer (some ⟨q, 0, none⟩), .int .i64 (p : Int), .int .u8 c.toNat] w fun e w' => e = .returned (.int .i64 n) ∧
    ∃ v', Blk w' q #[v', .int .i64 n] 57 ∧ Gs ER w' v' (ins s.rows ⟨n, p, c⟩) ∧ Keep [q] w w' ∧ ∀ b, v'.ownBlock = some b → w.heap.size ≤ b ∧ b < w'.heap.size := by
  have HN := Lib.hid (rnext_c w q v s h)
  rw [hn] at HN
  obtain ⟨hB, hG, hok, hlen, hbq⟩ := h
  unfold parOk at hp
  have d1 : decide ((n : Int) < 0) = false := by simp
  have d2 : decide ((p : Int) < 0) = false := by simp
  have d3 : decide ((p : Int) > 8191) = false := by simp; omega
  have d4 : ((p : Int) == 256) = false := by rw [beq_eq_false_iff_ne]; omega
  have hlw := lwb_le s.rows (n : Int)
  have HLT := Lib.hid (lwb_lt s.rows (n : Int))
  have HGE := Lib.hid (lwb_ge s.rows (n : Int))
  have HINS : Hid (ins s.rows ⟨n, p, c⟩ = s.rows.take (lwb s.rows n) ++ ⟨n, p, c⟩ :: s.rows.drop (lwb s.rows n)) := rfl
  clear hn hok hp
  generalize s.last = la at *
  generalize ins s.rows ⟨n, p, c⟩ = res at *
  generalize lwb s.rows (n : Int) = at' at *
  generalize s.rows = rows at *
  have HAT := Lib.hid (fun i hi => hG.lk i hi)
  have hqw := hB.lt
  have HG := Lib.hid hG
  have HB := Lib.hid hB
  have c0 : w.cell? ⟨q, 0, none⟩ = some v := hB.cell 0 _ rfl
  obtain ⟨a, cap, rfl, hcap, hcap2⟩ := hG.sh
  clear hG hB hbq
  go_enter Try.func11, Try.ntmps11
  go_wp2_with fail
  refine HN.out.mono ?_; rintro e w2 ⟨rfl, m0, rfl⟩
  clear HN
  go_wp2_with fail
  go_loopw [9] (fun kv wr => ∃ k : Nat, k ≤ at' ∧ kv = .int .i64 k ∧ ∃ m, wr = w.drewN m) (fun kv _ => at' - (intOf kv).toNat)
  case atStart => exact ⟨0, by omega, rfl, m0, rfl⟩
  case round =>
    obtain ⟨k, hk, rfl, m, rfl⟩ := hrel
    have hstop : (k : Int) < rows.length → ∃ b off z, a = some ⟨b, off, none⟩ ∧ w.cell? ⟨b, off + k * 3, none⟩ = some (.int .i64 z) ∧ (k < at' → z < (n : Int)) ∧ (k = at' → ¬ z < (n : Int)) := fun hin => by
      obtain ⟨b, off, cap', hv, e0, _, _⟩ := HAT.out k (by omega)
      simp only [Value.slice.injEq] at hv
      exact ⟨b, off, _, hv.1, e0, fun h => HLT.out k h, fun h => by subst h; have := HGE.out (by omega); omega⟩
    go_upto_region 6 with fail
    go_cut [44] (fun cv wx => wx = w.drewN m ∧ cv = .bool (decide (k < at')))
    case first =>
      by_cases hin : (k : Int) < rows.length
      · obtain ⟨b, off, z, rfl, e0, hc1, hc2⟩ := hstop hin
        clear hstop
        by_cases hlt : k < at'
        · have hz := hc1 hlt
          have dz : decide (z < (n : Int)) = true := by simpa using hz
          have dk : decide (k < at') = true := by simpa using hlt
          clear hc1 hc2
          go_wp2_with fail
          go_meet
          exact ⟨rfl, by rw [dk]⟩
        · have hz := hc2 (by omega)
          have dz : decide (z < (n : Int)) = false := by simpa using hz
          have dk : decide (k < at') = false := by simpa using hlt
          clear hc1 hc2
          go_wp2_with fail
          go_meet
          exact ⟨rfl, by rw [dk]⟩
      · have dk : decide (k < at') = false := by simp; omega
        clear hstop
        go_wp2_with fail
        go_meet
        exact ⟨rfl, by rw [dk]⟩
    case rest =>
      clear hstop
      obtain ⟨rfl, rfl⟩ := hcut
      by_cases hlt : k < at'
      · go_wp2_with fail
        go_roundw
        case rel => exact ⟨k + 1, by omega, by go_num, _, rfl⟩
        case measure => simp [intOf]; omega
      · obtain rfl : k = at' := by omega
        have hG2 := HG.out.drewN ERg m
        have hs1 := hG2.pre ERg k (by omega)
        have hO1 := OwnG.nil ER (w.drewN m)
        have K2 : Hid (Keep [q] w (w.drewN m)) := (Keep.refl [q] w).drewN m
        have hB2 := HB.out.drewN m
        have hz2 : w.heap.size = (w.drewN m).heap.size := rfl
        have hkc : (k : Int) ≤ cap := by omega
        have hkl : (k : Int) ≤ rows.length := by omega
        generalize w.drewN m = w2 at *
        have hr : res = (rows.take k ++ [⟨n, p, c⟩]) ++ (rows.drop k).take (rows.length - k) := by
          rw [HINS.out, List.take_of_length_le (l := rows.drop k) (by simp)]; simp
        have HRES := Lib.hid hr
        have hresl : res.length = rows.length + 1 := by rw [hr]; simp; omega
        have hqw2 := hB2.lt
        have c0 : w2.cell? ⟨q, 0, none⟩ = some (.slice a rows.length cap) := hB2.cell 0 _ rfl
        clear hr HB HG HAT HLT HGE HINS
        go_upto_region 9 with (at_builtin; (refine wpList_appendG ERg (.tmp 47) (.tmp 53) rfl rfl (.slice none 0 0) [] rfl hO1 (.slice a k cap) (rows.take k) rfl hs1 (by simp; omega) ?_); (intro v3 w3 ho3 hk3 hb3))
        have hB3 := hB2.keep hk3 (by simp [Value.ownBlock])
        have hG3 := hG2.keep' ERg hk3 (by simp [Value.ownBlock])
        have K3 : Hid (Keep [q] w w3) := K2.out.trans (hk3.mono (by simp [Value.ownBlock])) (fun x hx => .inl hx)
        have hz3 : w2.heap.size ≤ w3.heap.size := hk3.size
        have kA : Keep [] w3 (w3.alloc (.cells #[.int .i64 n, .int .i64 p, .int .u8 c.toNat] 64)) := (Keep.refl [] w3).alloc _
        have ho3A := ho3.keep kA (by simp)
        have hlit : Gs ER (w3.alloc (.cells #[.int .i64 n, .int .i64 p, .int .u8 c.toNat] 64)) (.slice (some ⟨w3.heap.size, 0, none⟩) 1 1) [⟨n, p, c⟩] := Gs.lit ERg [⟨n, p, c⟩] 1 (Blk.new w3 _ _) rfl rfl (by decide)
        have hB3A := hB3.keep kA (by simp)
        have hG3A := hG3.keep ERg kA (by simp)
        have hn3 : ∀ x, v3.ownBlock = some x → x = w2.heap.size := fun x hm => by
          rcases hb3 x hm with h | h
          · simp [Value.ownBlock] at h
          · exact h
        go_upto_region 10 with (at_builtin; (refine wpList_appendG ERg (.tmp 55) (.tmp 61) rfl rfl v3 _ rfl ho3A (.slice (some ⟨w3.heap.size, 0, none⟩) 1 1) [⟨n, p, c⟩] rfl hlit (by simp; omega) ?_); (intro v4 w4 ho4 hk4 hb4))
        have hB4 := hB3A.keep hk4 (fun hm => by have := hn3 q (by simpa using hm); omega)
        have hG4 := hG3A.keep' ERg hk4 (fun hne b hb hm => by have h1 := hG2.lt ERg hne b hb; have := hn3 b (by simpa using hm); omega)
        have K4 : Hid (Keep [q] w w4) := (K3.out.trans (kA.mono (by simp)) (fun x hx => .inl hx)).trans hk4 (fun x hx => by right; have := hn3 x (by simpa using hx); omega)
        have hn4 : ∀ x, v4.ownBlock = some x → w2.heap.size ≤ x ∧ x < w4.heap.size := fun x hm => ⟨by
          rcases hb4 x hm with h | h
          · have := hn3 x h; omega
          · rw [h]; exact Nat.le_trans hz3 kA.size, ho4.lt x hm⟩
        have c0 : w4.cell? ⟨q, 0, none⟩ = some (.slice a rows.length cap) := hB4.cell 0 _ rfl
        have hs4 := (hG4.cutOf ERg k rows.length cap (by omega) (by omega) (by omega) (Nat.le_refl _)).1
        clear hO1 hs1 hG2 hk3 hb3 hG3 hB3 ho3 ho3A hlit hB3A hG3A hk4 hb4 kA hB2
        go_upto_region 11 with (at_builtin; (refine wpList_appendG ERg (.tmp 63) (.tmp 69) rfl rfl v4 _ rfl ho4 _ _ rfl hs4 (by simp; omega) ?_); (intro v5 w5 ho5 hk5 hb5))
        have hB5 := hB4.keep hk5 (fun hm => by have := hn4 q (by simpa using hm); omega)
        have K5 : Hid (Keep [q] w w5) := K4.out.trans hk5 (fun x hx => by right; have := hn4 x (by simpa using hx); omega)
        have hn5 : ∀ x, v5.ownBlock = some x → w2.heap.size ≤ x := fun x hm => by
          rcases hb5 x hm with h | h
          · exact (hn4 x h).1
          · have := K4.out.size; omega
        have ho6 : OwnG ER w5 v5 res := by rw [HRES.out]; exact ho5
        have hcap6 := hcap2
        clear hb5 hn4 hs4 hG4 ho4 hk5 hB4 K4 ho5 HRES
        rcases ho6.shape with ⟨_, h6⟩ | ⟨g5, c5, rfl, _⟩
        · exfalso
          have : res.length = 0 := by rw [h6]; rfl
          rw [hresl] at this; omega
        clear hresl
        have c0 : w5.cell? ⟨q, 0, none⟩ = some (.slice a rows.length cap) := hB5.cell 0 _ rfl
        have c1 : w5.cell? ⟨q, 1, none⟩ = some (.int .i64 la) := hB5.cell 1 _ rfl
        have f0 := hB5.free 0
        have f1 := hB5.free 1
        have hgq : q ≠ g5 := by have := hn5 g5 rfl; omega
        have HB7 : Hid (Blk ((w5.setCell ⟨q, 0, none⟩ (.slice (some ⟨g5, 0, none⟩) res.length c5)).setCell ⟨q, 1, none⟩ (.int .i64 n)) q #[.slice (some ⟨g5, 0, none⟩) res.length c5, .int .i64 n] 57) := (hB5.set 0 _).set 1 _
        have K7 : Hid (Keep [q] w5 ((w5.setCell ⟨q, 0, none⟩ (.slice (some ⟨g5, 0, none⟩) res.length c5)).setCell ⟨q, 1, none⟩ (.int .i64 n))) := ((Keep.refl [q] w5).setCell (.inl (by simp)) _).setCell (.inl (by simp)) _
        have HG7 : Hid (Gs ER ((w5.setCell ⟨q, 0, none⟩ (.slice (some ⟨g5, 0, none⟩) res.length c5)).setCell ⟨q, 1, none⟩ (.int .i64 n)) (.slice (some ⟨g5, 0, none⟩) res.length c5) res) := ho6.gs.keep ERg K7.out (fun b hb => by
          obtain rfl : g5 = b := by simpa [Value.ownBlock] using hb
          simp; omega)
        have HLT5 : Hid (g5 < w5.heap.size) := ho6.lt g5 rfl
        clear hB5 ho6
        go_wp2_with fail
        all_goals
          go_ret
          exact ⟨rfl, _, HB7.out, HG7.out, K5.out.trans K7.out (fun x hx => .inl hx), fun b hb => ⟨hn5 b hb, by
            obtain rfl : g5 = b := by simpa [Value.ownBlock] using hb
            have := HLT5.out; simpa using this⟩⟩
theorem radd_c (w : World) (q : Nat) (v : Value) (s : LT) (p : Int) (c : UInt8) (h : RT w q v s) : Calls Try.prog 11 #[.pointer (some ⟨q, 0, none⟩), .int .i64 p, .int .u8 c.toNat] w fun e w' => e = .returned (.int .i64 (s.add p c).1) ∧ ∃ v', RT w' q v' (s.add p c).2 ∧ Keep [q] w w' ∧ ∀ b, v'.ownBlock = some b → v.ownBlock = some b ∨ w.heap.size ≤ b := by
  by_cases hn : s.next < 0 ∨ ¬ parOk p
  · refine (radd_no w q v s p c h hn).mono ?_
    rintro e w' ⟨rfl, n, rfl⟩
    have e1 : s.add p c = (-1, s) := by unfold LT.add; rw [if_pos hn]
    rw [e1]
    exact ⟨rfl, v, h.drewN n, (Keep.refl _ _).drewN n, fun b hb => .inl hb⟩
  · have e1 : s.add p c = (s.next, ⟨ins s.rows ⟨s.next.toNat, p.toNat, c⟩, s.next.toNat⟩) := by unfold LT.add; rw [if_neg hn]
    have hp : parOk p := by
      by_cases hp : parOk p
      · exact hp
      · exact absurd (.inr hp) hn
    obtain ⟨pn, rfl⟩ : ∃ pn : Nat, p = pn := ⟨p.toNat, by unfold parOk at hp; omega⟩
    have hadd := LT.add_ok h.2.2.1 pn c
    rw [e1] at hadd ⊢
    rcases s.next_cases h.2.2.1 with h1 | ⟨n, h1, h2, h3, _⟩
    · exact absurd (.inl (by omega)) hn
    · rw [h1, Int.toNat_natCast, Int.toNat_natCast] at hadd ⊢
      refine (radd_yes w q v s pn c n h h1 h3 hp).mono ?_
      rintro e w' ⟨rfl, v', b1, b2, b3, b4⟩
      exact ⟨rfl, v', ⟨b1, b2, hadd, by have := hadd.len; omega, fun b hb => by have := b4 b hb; have := h.1.lt; omega⟩, b3, fun b hb => .inr (b4 b hb).1⟩
end Go.Proofs.Ytpjebbhjagllgaa
