/- Texts put together: Fol7 -/
import Derived.Test.YteahcpkaagjkkaaPart21
import Derived.Test.YteahcpkaagjkkaaPart24
namespace Go.Proofs.Yteahcpkaagjkkaa
open Sg
set_option linter.unusedVariables false
set_option linter.unusedSimpArgs false
set_option maxRecDepth 100000
open Go.ChangeShapes Go.WideShapes Go.ChangeAt Go.RowKit Go.Shelf
attribute [local go_sem] Oper.semAt_some

theorem keepRow {W W' : World} {row : Option Nat} (hg : W.grownBy W' row) : Keep row.toList W W' := (Keep.refl _ W).grown hg (fun k e => .inl (by simp [e]))
/-- block x of W holds cells -/
def isC (W : World) (x : Nat) : Prop := ∃ cur e q, W.heap[x]? = some (.cells cur e q)
theorem isC.keep {W W' : World} {x : Nat} {S : List Nat} (h : isC W x) (k : Keep S W W') (hx : x ∉ S) : isC W' x := by
  obtain ⟨a, b, c, h⟩ := h
  exact ⟨a, b, c, (k.block x (lt_of_block h) hx).trans h⟩
theorem Wr.cells {W : World} {r : Nat} {v : Value} {bs : List Bool} (h : Wr W r v bs) : isC W r ∧ ∀ b, v.ownBlock = some b → isC W b := by
  obtain ⟨l, x, k, ⟨h1, h2, _⟩, _⟩ := h
  refine ⟨⟨_, _, _, h1⟩, fun b hb => ?_⟩
  rcases h2.2 with ⟨rfl, _⟩ | ⟨g, cap, cur, rfl, _, hh, _⟩
  · simp [Value.ownBlock] at hb
  · simp only [Value.ownBlock, Option.some.injEq] at hb
    subst hb
    exact ⟨_, _, _, hh⟩
theorem KeepsFrom.of_keep {W W' : World} {S : List Nat} (n : Nat) (k : Keep S W W') (h : ∀ x ∈ S, isC W x) : KeepsFrom n W W' := by
  refine ⟨k.size, fun i o _ hi ho => ?_⟩
  by_cases hs : i ∈ S
  · obtain ⟨a, b, c, h2⟩ := h i hs
    rw [h2] at hi
    have := Option.some.inj hi
    subst this
    simp [Obj.isCells] at ho
  · exact (k.block i (lt_of_block hi) hs).trans hi
theorem Bs.kb {A B : World} {S : List Nat} {n₀ : Nat} {v : Value} {l : List UInt8} (h : Bs A v l) (k : KB S n₀ A B) (hb : l ≠ [] → ∀ b, v.ownBlock = some b → b < n₀ ∧ b ∉ S) : Bs B v l := by
  by_cases h0 : l = []
  · subst h0
    obtain ⟨a, cap, rfl, h1, h2, h3, h4⟩ := h
    exact ⟨a, cap, rfl, h1, h2, h3, fun x _ j hj => by simp at hj⟩
  · obtain ⟨a, cap, rfl, h1, h2, h3, h4⟩ := h
    refine ⟨a, cap, rfl, h1, h2, h3, fun x hx i hi => ?_⟩
    subst hx
    obtain ⟨hb1, hb2⟩ := hb h0 x.block rfl
    exact k.cell (h4 x rfl i hi) (by rw [addr_block]; exact hb1) (by rw [addr_block]; exact hb2)
/-- a writer r since the world w1, at which its row lay in v -/
structure PI (w1 W : World) (r : Nat) (v : Value) (bs : List Bool) : Prop where
  kb : KB (r :: v.ownBlock.toList) w1.heap.size w1 W
  wr : ∃ v', Wr W r v' bs ∧ ∀ b, v'.ownBlock = some b → v.ownBlock = some b ∨ w1.heap.size ≤ b
theorem PI.grown {w1 W W' : World} {r : Nat} {v : Value} {bs : List Bool} {row : Option Nat} (h : PI w1 W r v bs) (hr : r < w1.heap.size) (hv : ∀ b, v.ownBlock = some b → b < w1.heap.size) (hg : W.grownBy W' row) (hrow : ∀ x, row = some x → w1.heap.size ≤ x ∧ ∃ o : Obj, W.heap[x]? = some o ∧ o.isCells = false) : PI w1 W' r v bs := by
  obtain ⟨v', h1, h2⟩ := h.wr
  have hn : ∀ x, isC W x → x ∉ row.toList := fun x hc hm => by
    obtain ⟨_, o, ho, hf⟩ := hrow x (by simpa [eq_comm] using hm)
    obtain ⟨a, b, c, h3⟩ := hc
    rw [h3] at ho
    have := Option.some.inj ho
    subst this
    simp [Obj.isCells] at hf
  exact ⟨h.kb.grown h.kb.size hg (fun x e => .inr (hrow x e).1), v', h1.keep (keepRow hg) (hn r h1.cells.1) (fun b hb => hn b (h1.cells.2 b hb)), h2⟩
theorem PI.put {w1 W : World} {r : Nat} {v : Value} {bs : List Bool} (h : PI w1 W r v bs) (y n : Nat) (hy : y < 4294967296) (hn : n ≤ 32) (hl : bs.length ≤ 1125899906842000) :
    Calls Try.prog 64 #[.pointer (some ⟨r, 0, none⟩), .int .u32 y, .int .i64 n] W fun e W' => e = .returned (.tuple #[]) ∧ PI w1 W' r v (bs ++ bitsOf y n) ∧ KB (r :: v.ownBlock.toList) w1.heap.size W W' ∧ KeepsFrom w1.heap.size W W' := by
  obtain ⟨v', h1, h2⟩ := h.wr
  refine (wput_c W r v' bs y n hy h1 hl).mono ?_
  rintro e W' ⟨v2, he, h3, k3, b3⟩
  rw [cln_small n hn] at h3
  have hkb : KB (r :: v.ownBlock.toList) w1.heap.size W W' := KB.of_keep k3 h.kb.size (fun x hx => by
    rcases List.mem_cons.1 hx with e | e
    · exact .inl (by simp [e])
    · rcases h2 x (by simpa using e) with e2 | e2
      · exact .inl (by simp [e2])
      · exact .inr e2)
  refine ⟨he, ⟨h.kb.trans hkb, v2, h3, fun b hb => ?_⟩, hkb, KeepsFrom.of_keep _ k3 (fun x hx => ?_)⟩
  · rcases b3 b hb with e | e
    · exact h2 b e
    · exact .inr (Nat.le_trans h.kb.size e)
  · rcases List.mem_cons.1 hx with e | e
    · rw [e]; exact h1.cells.1
    · exact h1.cells.2 x (by simpa using e)
set_option maxHeartbeats 4000000 in
theorem fol_putsets (w : World) (r : Nat) (v : Value) (bs : List Bool) (V : Value) (s : Nat → List UInt8) (H : Wr w r v bs) (hV : SVo w V s (r :: v.ownBlock.toList)) (hl : bs.length ≤ 1125899906700000) :
    Calls Try.prog 31 #[.pointer (some ⟨r, 0, none⟩), V] w fun e w' => ∃ v', e = .returned (.tuple #[]) ∧ Wr w' r v' (bs ++ fss s 256) ∧
      Keep (r :: v.ownBlock.toList) w w' ∧ (∀ b, v'.ownBlock = some b → v.ownBlock = some b ∨ w.heap.size ≤ b) := by
  obtain ⟨cs, rfl, hcs, h2⟩ := hV
  obtain ⟨F, hF⟩ : ∃ F, fss s 256 = F := ⟨_, rfl⟩
  have HF := Lib.hid hF
  have hFl : F.length ≤ 262 * 256 := by rw [← hF]; exact fss_le s 256
  rw [hF]
  clear hF
  obtain ⟨Vf, hVf⟩ : ∃ Vf : Nat → Value, ∀ c, c < 256 → cs[c]? = some (Vf c) := ⟨fun c => cs.getD c undef, fun c hc => by
    rw [Array.getElem?_eq_getElem (by omega)]; simp [Array.getD, hcs, hc]⟩
  have HB := Lib.hid (fun c (hc : c < 256) => by
    obtain ⟨u, h3, h4, h5⟩ := h2 c hc
    rw [hVf c hc] at h3
    have := Option.some.inj h3
    subst this
    exact And.intro h4 h5)
  have HH := Lib.hid H
  clear h2 H
  refine (callsIn_wide (n := 5)).1 ?_
  refine callsIn_of_wp_marks Try.func31 rfl trivial ?_ rfl
  simp only [Try.ntmps31, List.size_toArray, List.length_cons, List.length_nil, Nat.reduceAdd, Nat.reduceSub, Array.replicate_succ, Array.replicate_zero, List.push_toArray, List.append_toArray, List.nil_append, List.cons_append]
  gi_wp2_with fail
  refine ⟨trivial, (callsIn_wide.2 (backB_c _ _ _ _)).mono ?_⟩
  rintro e w' ⟨rfl, rfl⟩
  have KA : Keep [] w (((w.alloc (.cells #[.pointer (some ⟨r, 0, none⟩)] 68)).alloc (.cells cs 66)).alloc (.cells #[.slice (some ⟨w.heap.size + 1, 0, none⟩) 256 256] 121)) := (((Keep.refl [] w).alloc _).alloc _).alloc _
  have b0 := ((Blk.new w #[.pointer (some ⟨r, 0, none⟩)] 68).alloc (.cells cs 66)).alloc (.cells #[.slice (some ⟨w.heap.size + 1, 0, none⟩) 256 256] 121)
  have b1 := (Blk.new (w.alloc (.cells #[.pointer (some ⟨r, 0, none⟩)] 68)) cs 66).alloc (.cells #[.slice (some ⟨w.heap.size + 1, 0, none⟩) 256 256] 121)
  have b2 := Blk.new ((w.alloc (.cells #[.pointer (some ⟨r, 0, none⟩)] 68)).alloc (.cells cs 66)) #[.slice (some ⟨w.heap.size + 1, 0, none⟩) 256 256] 121
  simp only [World.size_alloc] at b1 b2 ⊢
  have hsz : (((w.alloc (.cells #[.pointer (some ⟨r, 0, none⟩)] 68)).alloc (.cells cs 66)).alloc (.cells #[.slice (some ⟨w.heap.size + 1, 0, none⟩) 256 256] 121)).heap.size = w.heap.size + 3 := by simp
  generalize ((w.alloc (.cells #[.pointer (some ⟨r, 0, none⟩)] 68)).alloc (.cells cs 66)).alloc (.cells #[.slice (some ⟨w.heap.size + 1, 0, none⟩) 256 256] 121) = w1 at KA b0 b1 b2 hsz ⊢
  gi_wp2_with fail
  obtain ⟨bq, hbq⟩ : ∃ x, w.heap.size + 1 + 1 = x := ⟨_, rfl⟩
  rw [hbq] at b2 ⊢
  obtain ⟨bc, hbc⟩ : ∃ x, w.heap.size + 1 = x := ⟨_, rfl⟩
  rw [hbc] at b1 b2 ⊢
  obtain ⟨bw, hbw⟩ : ∃ x, w.heap.size = x := ⟨_, rfl⟩
  rw [hbw] at b0 ⊢
  have HZ : Hid (w.heap.size = bw ∧ bc = bw + 1 ∧ bq = bw + 2 ∧ w1.heap.size = bw + 3) := by unfold Hid; omega
  have hrlt : r < w.heap.size := by obtain ⟨l, x, k, h1, _⟩ := HH.out; exact h1.1.lt
  have hvlt : ∀ b, v.ownBlock = some b → b < w.heap.size := by obtain ⟨l, x, k, h1, _⟩ := HH.out; exact h1.2.1.lt
  have HRV : Hid (r < bw ∧ ∀ b, v.ownBlock = some b → b < bw) := by
    have hz := HZ.out
    exact ⟨by omega, fun b hb => by have := hvlt b hb; omega⟩
  have HSB : Hid (∀ x ∈ r :: v.ownBlock.toList, x < bw) := fun x hx => by
    rcases List.mem_cons.1 hx with e | e
    · rw [e]; exact HRV.out.1
    · exact HRV.out.2 x (by simpa using e)
  clear hbq hbc hbw hsz hrlt hvlt
  have HKA := Lib.hid KA
  have HB0 := Lib.hid b0
  have HB1 := Lib.hid b1
  have HB2 := Lib.hid b2
  have HW1 : Hid (Wr w1 r v bs) := HH.out.keep KA (by simp) (by simp)
  have HV1 : Hid (∀ c, c < 256 → Bs w1 (Vf c) (s c) ∧ (s c ≠ [] → ∀ x, (Vf c).ownBlock = some x → x < bw ∧ x ∉ r :: v.ownBlock.toList)) := fun c hc => by
    obtain ⟨h1, h2⟩ := HB.out c hc
    refine ⟨h1.keep KA (by simp), fun hne x hx => ⟨?_, h2 hne x hx⟩⟩
    have := h1.lt hne x hx
    have := HZ.out
    omega
  clear KA b0 b1 b2 HH HB
  have HNS : Hid (bw ∉ r :: v.ownBlock.toList ∧ bc ∉ r :: v.ownBlock.toList ∧ bq ∉ r :: v.ownBlock.toList) := by
    have hz := HZ.out
    refine ⟨fun h => ?_, fun h => ?_, fun h => ?_⟩ <;> (have := HSB.out _ h; omega)
  refine range_steps (gf := 91) (lb := #[.pointer (some ⟨bq, 0, none⟩)]) rfl (enters_of Try.func91 (by kernel_rfl) rfl)
    (backB_steps (r :: v.ownBlock.toList) w1.heap.size bq bc 256 (by omega) Vf w1 (Nat.le_refl _) (by have := HZ.out; omega) (by have := HZ.out; omega) HNS.out.2.2 HNS.out.2.1 (HB2.out.cell 0 _ rfl) (fun j hj => HB1.out.cell j _ (hVf j hj)))
    (fun h k => h.trans k) (KB.put (Nat.le_refl _)) (fun _ => rfl)
    (fun k W => ∃ b', PI w1 W r v b' ∧ b' ++ fss s (256 - k) = bs ++ F)
    (fun k W W' row h hg hr => by
      obtain ⟨b', h1, h2⟩ := h
      have hz := HZ.out
      exact ⟨b', h1.grown (by have := HRV.out.1; omega) (fun b hb => by have := HRV.out.2 b hb; omega) hg hr, h2⟩)
    ⟨bs, ⟨KB.refl _ _ _, v, HW1.out, fun b hb => .inl hb⟩, by rw [← HF.out]⟩
    (fun j => { tmps := #[.pointer (some ⟨r, 0, none⟩), .agg cs, .pointer (some ⟨bw, 0, none⟩), .pointer (some ⟨bc, 0, none⟩), undef, Vf j, undef, undef, .slice (some ⟨bc, 0, none⟩) 256 256, .func (.func 91) #[] #[.pointer (some ⟨bq, 0, none⟩)], .int .i64 j, Vf j, undef, undef, undef, undef, undef, undef, undef, undef, undef, undef, undef, undef, undef, undef, undef, undef, undef, undef], defers := [] }) ?assign ?body ?done
  case assign =>
    intro l x W KK hK
    gi_wp2
    exact hK
  case body =>
    intro l k j W hx hT
    obtain ⟨hk, hj⟩ := down_get 256 k j hx
    have hj256 : j < 256 := by omega
    obtain ⟨b', hPI, hbe⟩ := hT
    have e1 : 256 - k = j + 1 := by omega
    rw [e1] at hbe
    have hbe2 : b' ++ (bitsOf ((s j).take 32).length 6 ++ ((s j).take 32).flatMap (fun x => bitsOf x.toNat 8)) ++ fss s j = bs ++ F := by
      rw [← hbe, List.append_assoc]; rfl
    have e2 : 256 - (k + 1) = j := by omega
    obtain ⟨hV1, hV2⟩ := HV1.out j hj256
    have hz := HZ.out
    have hBW : Bs W (Vf j) (s j) := hV1.kb hPI.kb (fun hne b hb => by have := hV2 hne b hb; exact ⟨by omega, this.2⟩)
    have HC := Lib.hid (counted_c W (Vf j) (s j) hBW)
    have hlen : b'.length ≤ bs.length + F.length := by have := congrArg List.length hbe2; simp only [List.length_append] at this; omega
    have HC0 : Hid (∀ W', KB (r :: v.ownBlock.toList) w1.heap.size w1 W' → W'.cell? ⟨bw, 0, none⟩ = some (.pointer (some ⟨r, 0, none⟩))) := fun W' k => k.cell (HB0.out.cell 0 _ rfl) (by show bw < _; omega) (by show bw ∉ _; exact HNS.out.1)
    obtain ⟨L, hL⟩ : ∃ L, (s j).take 32 = L := ⟨_, rfl⟩
    have hL32 : L.length ≤ 32 := by rw [← hL, List.length_take]; omega
    have hLne : L ≠ [] → s j ≠ [] := fun h e => h (by rw [← hL, e]; rfl)
    rw [hL] at HC hbe2
    have HBE := Lib.hid hbe2
    have HV2 : Hid (L ≠ [] → ∀ x, (Vf j).ownBlock = some x → x < w1.heap.size ∧ x ∉ r :: v.ownBlock.toList) := fun hne x hx => by have := hV2 (hLne hne) x hx; exact ⟨by omega, this.2⟩
    have HP := Lib.hid hPI
    have HE2 := Lib.hid e2
    clear hbe hbe2 hV1 hV2 hBW hPI hL hLne hx e1 hj e2 hz hk
    gi_wp2_with fail
    refine ⟨trivial, CallsIn.inRound l ((callsIn_wide.2 HC.out).mono ?_)⟩
    rintro e W1 ⟨v2, rfl, rfl, hb2, ho2⟩
    obtain ⟨a2, c2, rfl, _⟩ := hb2.shape
    have HBS := Lib.hid hb2
    have HO2 : Hid (L ≠ [] → ∀ x, (Value.slice a2 L.length c2).ownBlock = some x → x < w1.heap.size ∧ x ∉ r :: v.ownBlock.toList) := fun hne x hx => HV2.out hne x (ho2 x hx)
    have c0 := HC0.out W1 HP.out.kb
    have HPC := Lib.hid (HP.out.put L.length 6 (by omega) (by omega) (by omega))
    have hlu : IntKind.u32.wrap (L.length : Int) = L.length := by simp [IntKind.wrap, IntKind.bits, IntKind.signed]; omega
    clear hb2 ho2 HC HV2 HP
    gi_wp2_with fail
    refine ⟨trivial, CallsIn.inRound l ((callsIn_wide.2 HPC.out).mono ?_)⟩
    rintro e W2 ⟨rfl, hP2, hk2, hf2⟩
    have HP2 := Lib.hid hP2
    have HK2 := Lib.hid hk2
    have HF2 := Lib.hid hf2
    have HB2' : Hid (∀ W', KB (r :: v.ownBlock.toList) w1.heap.size W1 W' → Bs W' (.slice a2 L.length c2) L) := fun W' k => HBS.out.kb k HO2.out
    clear hP2 hk2 hf2 HPC c0 hlu HBS HO2
    gi_wp2_with fail
    gi_loopw [21] (fun i wr => ∃ (m : Nat), m ≤ L.length ∧ i = .int .i64 m ∧ Hid (PI w1 wr r v (b' ++ (bitsOf L.length 6 ++ (L.take m).flatMap (fun x => bitsOf x.toNat 8)))) ∧ Hid (KB (r :: v.ownBlock.toList) w1.heap.size W1 wr) ∧ Hid (KeepsFrom w1.heap.size W1 wr)) (fun i _ => L.length - (intOf i).toNat)
    case atStart => exact ⟨0, Nat.zero_le _, rfl, (by have := HP2.out; simpa [Hid] using this), HK2.out, HF2.out⟩
    case round =>
      clear HP2 HK2 HF2
      obtain ⟨m, hm, rfl, HP2, HK2, HF2⟩ := hrel
      by_cases hlt : m < L.length
      · have hmz : (m : Int) < (L.length : Int) := by omega
        obtain ⟨b0, o0, cp0, e0, cell0⟩ := (HB2'.out wr HK2.out).spot m hlt
        simp only [Value.slice.injEq] at e0
        obtain ⟨rfl, h2, rfl⟩ := e0
        clear h2
        have c0 := HC0.out wr HP2.out.kb
        have hfl : L.take (m + 1) = L.take m ++ [L[m]] := List.take_succ_eq_append_getElem hlt
        generalize L[m] = y at cell0 hfl
        have hyu : IntKind.u32.wrap (y.toNat : Int) = y.toNat := by have := y.toNat_lt; simp [IntKind.wrap, IntKind.bits, IntKind.signed]; omega
        have HPC := Lib.hid (HP2.out.put y.toNat 8 (by have := y.toNat_lt; omega) (by omega) (by
          rw [List.length_append, List.length_append, bitsOf_length, flat8_len, List.length_take]; omega))
        have HBB : Hid ((b' ++ (bitsOf L.length 6 ++ (L.take m).flatMap (fun x => bitsOf x.toNat 8))) ++ bitsOf y.toNat 8 = b' ++ (bitsOf L.length 6 ++ (L.take (m + 1)).flatMap (fun x => bitsOf x.toNat 8))) := by
          unfold Hid; rw [hfl, List.flatMap_append]; simp [List.append_assoc]
        rw [HBB.out] at HPC
        clear hfl HBB HP2
        gi_wp2_with fail
        refine ⟨trivial, CallsIn.inRound l ((callsIn_wide.2 HPC.out).mono ?_)⟩
        rintro e W3 ⟨rfl, hP3, hk3, hf3⟩
        have HP3 := Lib.hid hP3
        have HK3 := Lib.hid (HK2.out.trans hk3)
        have HF3 := Lib.hid (HF2.out.trans hf3)
        clear hP3 hk3 hf3 HPC c0 hyu HK2 HF2 cell0
        gi_wp2_with fail
        go_roundw
        case rel => exact ⟨m + 1, by omega, by go_num, HP3, HK3, HF3⟩
        case measure => simp [intOf]; omega
      · obtain rfl : m = L.length := by omega
        have HP3 : Hid (∃ b'', PI w1 wr r v b'' ∧ b'' ++ fss s (256 - (k + 1)) = bs ++ F) := by
          refine ⟨_, HP2.out, ?_⟩
          rw [List.take_length, HE2.out]; exact HBE.out
        clear HP2
        gi_wp2_with fail
        exact ⟨HF2.out, HK2.out, HP3.out⟩
  case done =>
    intro D W hD hT hK
    gi_wp2
    obtain ⟨b', h1, h2⟩ := hT
    rw [down_len] at h2
    have hz := HZ.out
    have hg := grownBy_putObj' W D (.deferred none)
    have h3 := h1.grown (by have := HRV.out.1; omega) (fun b hb => by have := HRV.out.2 b hb; omega) hg (fun x e => by cases e; exact ⟨hD, _, hK, rfl⟩)
    have h4 : b' = bs ++ F := by simpa [fss] using h2
    subst h4
    obtain ⟨v', h5, h6⟩ := h3.wr
    refine ⟨by simp, .inl ⟨_, _, rfl, run_takeDeferred hK, ?_⟩⟩
    refine ⟨_, results_none rfl _ _ _, v', rfl, h5, ?_, fun b hb => ?_⟩
    · exact (HKA.out.mono (by simp)).trans h3.kb.keep (fun x hx => .inl hx)
    · rcases h6 b hb with e | e
      · exact .inl e
      · exact .inr (by omega)
end Go.Proofs.Yteahcpkaagjkkaa
