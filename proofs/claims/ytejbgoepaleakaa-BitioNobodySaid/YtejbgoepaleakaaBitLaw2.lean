/- The walk of the law BitioNobody: it returns true at every input. -/
import Derived.Test.YtejbgoepaleakaaBitWr2
import Derived.Test.YtejbgoepaleakaaBitAll
import Derived.Test.YtejbgoepaleakaaOpen
namespace Go.Proofs.Ytejbgoepaleakaa
set_option linter.unusedVariables false
set_option linter.unusedSimpArgs false
open Go.ChangeShapes Go.WideShapes Go.ChangeAt Go.RowKit

theorem RS.zero_bits (n : Int) : ((⟨[], 0, false, 0⟩ : RS).bits n).1 = 0 ∧ ((⟨[], 0, false, 0⟩ : RS).bits n).2 = ⟨[], 0, false, 0⟩ := by
  have hE : (⟨[], 0, false, 0⟩ : RS).E ≠ 0 := by decide
  unfold RS.bits
  rw [RS.fail_fail _ _ hE, RS.fail_fail _ _ hE]
  repeat' split
  all_goals (first | exact ⟨rfl, rfl⟩ | omega)
theorem RS.zero_bytes (n : Int) : (⟨[], 0, false, 0⟩ : RS).bytes n = ([], ⟨[], 0, false, 0⟩) := by
  unfold RS.bytes; rw [if_pos (by decide)]
theorem RS.zero_look (n : Int) : (⟨[], 0, false, 0⟩ : RS).look n = (0, 0) := by
  unfold RS.look; rw [if_pos (.inl (by decide))]
set_option maxRecDepth 100000 in
set_option maxHeartbeats 4000000 in
theorem nobody_w (W : World) (a0 : Int) (w0 : (Lit.int .u32 a0).wf = true) (a1 : Int) (w1 : (Lit.int .i64 a1).wf = true) (v : Value) (l0 : List UInt8) (h0 : Bs W v l0) : Calls Try.prog 8 #[.int .u32 a0, .int .i64 a1, v] W fun e w' => e = .returned (.bool true) ∧ Keep [] W w' := by
  go_enter Try.func8, Try.ntmps8
  go_wp2_with fail
  refine (cut_c W v l0 40 (by decide) h0).mono ?_; rintro e w' ⟨vb, rfl, hb, hvb, rfl⟩
  have hl100 : (l0.take 40).length ≤ 40 := by rw [List.length_take]; omega
  generalize l0.take 40 = l at hb hl100
  have hz : Rd (W.alloc (.cells #[.slice none 0 0, .int .i64 0, .bool false, .int .i64 0] 65)) W.heap.size (.slice none 0 0) ⟨[], 0, false, 0⟩ :=
    ⟨Blk.new _ _ _, OwnB.nil _, ⟨by simp, by simp, by simp⟩, by simp [Value.ownBlock]⟩
  have K1 : Keep [] W (W.alloc (.cells #[.slice none 0 0, .int .i64 0, .bool false, .int .i64 0] 65)) := (Keep.refl [] W).alloc _
  go_wp2_with fail
  have hb1 := hb.keep K1 (by simp)
  have hrW : W.heap.size ≤ W.heap.size := Nat.le_refl _
  generalize W.alloc (.cells #[.slice none 0 0, .int .i64 0, .bool false, .int .i64 0] 65) = u at hz K1 hb1 ⊢
  generalize hgr : W.heap.size = r at hz ⊢
  have Hgr := Lib.hid hgr; clear hgr hrW
  refine (put_nil _ _ _).mono ?_; rintro e w' ⟨rfl, rfl⟩
  go_wp2_with fail
  refine (putbytes_nil _ _).mono ?_; rintro e w' ⟨rfl, rfl⟩
  go_wp2_with fail
  refine (walign_nil _).mono ?_; rintro e w' ⟨rfl, rfl⟩
  go_wp2_with fail
  refine (align_nil _).mono ?_; rintro e w' ⟨rfl, rfl⟩
  go_wp2_with fail
  refine (align_c _ _ _ _ hz).mono ?_; rintro e u2 ⟨rfl, hz2, hk2⟩
  have K2 : Keep [] W u2 := K1.trans hk2 (by simp [Hgr.out])
  have hb2 := hb.keep K2 (by simp)
  have hz2 : Rd u2 r (.slice none 0 0) ⟨[], 0, false, 0⟩ := hz2
  clear hz K1 hb1 hk2
  go_wp2_with fail
  refine (look_nil _ _).mono ?_; rintro e w' ⟨rfl, rfl⟩
  go_wp2_with fail
  refine (look_c _ _ _ _ a1 hz2).mono ?_
  rw [RS.zero_look]
  rintro e w' ⟨rfl, m, rfl⟩
  have hz3 := hz2.drewN m
  have K3 := K2.drewN m
  have hb3 := hb.keep K3 (by simp)
  generalize u2.drewN m = u3 at hz3 K3 hb3 ⊢
  clear hz2 K2 hb2
  go_wp2_with fail
  refine (bits_nil _ _).mono ?_; rintro e w' ⟨rfl, rfl⟩
  go_wp2_with fail
  refine (bits_c _ _ _ _ a1 hz3).mono ?_
  rw [(RS.zero_bits a1).1, (RS.zero_bits a1).2]
  rintro e u4 ⟨rfl, hz4, hk4⟩
  have K4 : Keep [] W u4 := K3.trans hk4 (by simp [Hgr.out])
  have hb4 := hb.keep K4 (by simp)
  clear hz3 K3 hb3 hk4
  go_wp2_with fail
  refine (bytes_nil _ _).mono ?_; rintro e w' ⟨rfl, rfl⟩
  go_wp2_with fail
  refine (bytes_c _ _ _ _ a1 hz4).mono ?_
  rw [RS.zero_bytes]
  rintro e u5 ⟨vg, rfl, hog, hfg, hz5, hk5⟩
  have K5 : Keep [] W u5 := K4.trans hk5 (by simp [Hgr.out])
  have hb5 := hb.keep K5 (by simp)
  clear hz4 K4 hb4 hk5
  obtain ⟨ag, capg, rfl, _⟩ := hog.bs.shape
  clear hog hfg
  go_wp2_with fail
  have KA : Keep [] u5 (u5.alloc (.cells #[.slice none 0 0, .int .u64 0, .int .i64 0] 67)) := (Keep.refl [] _).alloc _
  have hw6 : Wr (u5.alloc (.cells #[.slice none 0 0, .int .u64 0, .int .i64 0] 67)) u5.heap.size (.slice none 0 0) [] :=
    ⟨[], 0, 0, ⟨Blk.new _ _ _, OwnB.nil _, by decide, by simp [Value.ownBlock]⟩, by decide, rfl⟩
  have K6 : Keep [] W (u5.alloc (.cells #[.slice none 0 0, .int .u64 0, .int .i64 0] 67)) := K5.trans KA (by simp)
  have hb6 := hb.keep K6 (by simp)
  have hz6 := hz5.keep KA (by simp) (by simp)
  have hzr : u5.heap.size ≠ r := by have := hz5.1.lt; omega
  have hzW : W.heap.size ≤ u5.heap.size := K5.size
  generalize u5.alloc (.cells #[.slice none 0 0, .int .u64 0, .int .i64 0] 67) = u6 at hw6 K6 hb6 hz6 ⊢
  generalize u5.heap.size = z at hw6 hzr hzW ⊢
  clear hz5 K5 hb5 KA
  have hdis : l ≠ [] → ∀ b, vb.ownBlock = some b → b ≠ z := by
    intro hl b hb'
    rcases hb.cases with ⟨h, _⟩ | ⟨_, b2, off, cap, h, _, _, hlt, _⟩
    · exact absurd h hl
    · rw [h] at hb'
      simp only [Value.ownBlock, Option.some.injEq] at hb'
      omega
  refine (putbytes_c' u6 z (.slice none 0 0) [] vb l hw6 hb6 hdis (by simp [Value.ownBlock]) (by simp; omega)).mono ?_
  rintro e u7 ⟨vz, rfl, hw7, hk7, hv7⟩
  have K7 : Keep [] W u7 := K6.trans hk7 (by simpa [Value.ownBlock] using hzW)
  have hb7 := hb.keep K7 (by simp)
  have hz7 := hz6.keep hk7 (by simpa [Value.ownBlock] using Ne.symm hzr) (by simp [Value.ownBlock])
  have hw7 : Wr u7 z vz (toBits l) := by simpa [pad8] using hw7
  clear hw6 K6 hb6 hz6 hk7 hdis
  have Hv7 := Lib.hid hv7; clear hv7
  have e0 := hz7.1.cell 1 _ rfl
  go_wp2_with fail
  refine (err_nil _).mono ?_; rintro e w' ⟨rfl, rfl⟩
  go_wp2_with fail
  refine (err_c _ _ _ _ hz7).mono ?_; rintro e w' ⟨rfl, rfl⟩
  rw [show ((⟨[], 0, false, 0⟩ : RS).E : Int) = 1 from rfl]
  go_wp2_with fail
  refine (left_nil _).mono ?_; rintro e w' ⟨rfl, rfl⟩
  go_wp2_with fail
  refine (left_c _ _ _ _ hz7).mono ?_; rintro e w' ⟨rfl, m, rfl⟩
  rw [show ((⟨[], 0, false, 0⟩ : RS).left : Int) = 0 from rfl]
  go_wp2_with fail
  refine (read_nil _).mono ?_; rintro e w' ⟨rfl, rfl⟩
  go_wp2_with fail
  refine (read_c _ _ _ _ (hz7.drewN m)).mono ?_; rintro e w' ⟨rfl, rfl⟩
  go_wp2_with fail
  refine (wbytes_nil _).mono ?_; rintro e w' ⟨rfl, rfl⟩
  go_wp2_with fail
  refine (wlen_nil _).mono ?_; rintro e w' ⟨rfl, rfl⟩
  have K8 := K7.drewN m
  have hb8 := hb.keep K8 (by simp)
  have hw8 := hw7.keep ((Keep.refl [] u7).drewN m) (by simp) (by simp)
  generalize u7.drewN m = u8 at K8 hb8 hw8 ⊢
  clear K7 hb7 hw7 hz7 e0
  go_wp2_with fail
  refine (wbytes_c _ _ _ _ hw8 (by rw [toBits_length]; omega)).mono ?_
  rintro e u9 ⟨v9, l9, rfl, ho9, hl9, hk9, hv9⟩
  obtain rfl : l9 = l := toBits_inj _ _ (by rw [hl9, pad8_whole])
  have K9 : Keep [] W u9 := K8.trans hk9 (by simp)
  have hb9 := hb.keep K9 (by simp)
  clear K8 hb8 hw8 hk9
  go_wp2_with fail
  refine (same_c _ _ _ _ _ ho9.bs hb9).mono ?_; rintro e w' ⟨rfl, m, rfl⟩
  go_wp2_with (refine (lives_c _).mono ?_; rintro e w' ⟨rfl, hk⟩)
  go_ret
  exact ⟨rfl, (K9.drewN m).trans hk (by simp)⟩
end Go.Proofs.Ytejbgoepaleakaa
