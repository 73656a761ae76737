/- The document's Falling. -/
import Derived.Test.YtibhelfiibincaaRefLim2
namespace Go.Proofs.Ytibhelfiibincaa
set_option linter.unusedVariables false
set_option linter.unusedSimpArgs false
open Go.ChangeShapes Go.WideShapes Go.ChangeAt Go.RowKit

theorem Is.lit1 (w : World) (x : Int) (hx : (Lit.int .i64 x).wf = true) : Is .i64 (w.alloc (.cells #[.int .i64 x] 3)) (.slice (some ⟨w.heap.size, 0, none⟩) 1 1) [x] := by
  refine ⟨some ⟨w.heap.size, 0, none⟩, 1, rfl, by simp, by simp [maxLen], (fun h => nomatch h), fun y hy i hi => ?_, by simpa using hx⟩
  obtain rfl : (⟨w.heap.size, 0, none⟩ : Addr) = y := by simpa using hy
  obtain rfl : i = 0 := by simpa using hi
  exact (Blk.new w #[.int .i64 x] 3).cell 0 _ rfl
theorem ap_step {w0 w w7 : World} {nv nv7 ov : Value} {fl : List Int} (o : Obj) (O : Is .i64 w ov fl) (hd : ∀ b, nv.ownBlock = some b → w0.heap.size ≤ b ∧ ov.ownBlock ≠ some b) (holt : ∀ b, ov.ownBlock = some b → b < w.heap.size) (K : Keep [] w0 w)
    (k7 : Keep nv.ownBlock.toList (w.alloc o) w7) (hp7 : ∀ b, nv7.ownBlock = some b → nv.ownBlock = some b ∨ b = (w.alloc o).heap.size) :
    Is .i64 w7 ov fl ∧ Keep [] w0 w7 ∧ (∀ b, nv7.ownBlock = some b → w0.heap.size ≤ b ∧ ov.ownBlock ≠ some b) ∧ ∀ b, ov.ownBlock = some b → b < w7.heap.size := by
  have hk : Keep nv.ownBlock.toList w w7 := (((Keep.refl [] w).alloc o).nil (S := nv.ownBlock.toList)).trans k7 (fun b hb => .inl hb)
  refine ⟨O.keep hk (fun b hb h => (hd b (by simpa using h)).2 hb), K.trans hk (fun b hb => .inr (hd b (by simpa using hb)).1), fun b hb => ?_, fun b hb => Nat.lt_of_lt_of_le (holt b hb) hk.size⟩
  rcases hp7 b hb with h | h
  · exact hd b h
  · subst h
    refine ⟨?_, fun h' => ?_⟩
    · have := K.size; simp; omega
    · have := holt _ h'; simp at this; omega
theorem insD_mid (x y : Int) (nx l rest : List Int) (h : nx ++ insD x (y :: rest) = l) : (y < x → (nx ++ [x] ++ [y]) ++ rest = l) ∧ (¬ y < x → (nx ++ [y]) ++ insD x rest = l) := by
  rw [insD] at h
  constructor
  · intro hx; rw [if_pos hx] at h; rw [← h]; simp
  · intro hx; rw [if_neg hx] at h; rw [← h]; simp
set_option maxRecDepth 100000 in
set_option maxHeartbeats 2000000 in
theorem reffall_c (w : World) (v : Value) (zs : List Int) (hlz : zs.length ≤ 1000) (h : Is .i64 w v zs) : Calls Try.prog 18 #[v] w fun e w' => ∃ v', e = .returned v' ∧ Is .i64 w' v' (fall zs zs.length) ∧ Keep [] w w' := by
  have HI : Hid (∀ w' (k : Keep [] w w') i (hi : i < zs.length), ∃ b off cap, v = .slice (some ⟨b, off, none⟩) zs.length cap ∧ w'.cell? ⟨b, off + i, none⟩ = some (.int .i64 (zn zs i)) ∧ (Lit.int .i64 (zn zs i)).wf = true) := by
    intro w' k i hi
    rw [zn_get zs i hi]
    obtain ⟨b, off, cap, h1, h2⟩ := (h.keep k (by simp)).at i hi
    obtain ⟨_, _, _, _, _, _, _, h6⟩ := h
    exact ⟨b, off, cap, h1, h2, h6 _ (List.getElem_mem hi)⟩
  have HFL := Lib.hid (fall_length zs)
  obtain ⟨a, cap, rfl, hl⟩ := h.sh
  clear h
  go_enter Try.func18, Try.ntmps18
  go_wp2_with fail
  go_loopw [3, 4] (fun x i wr => ∃ (k : Nat) (a' : Option Addr) (c' : Nat), k ≤ zs.length ∧ i = .int .i64 k ∧ x = .slice a' (fall zs k).length c' ∧ OwnI wr (.slice a' (fall zs k).length c') (fall zs k) ∧ Keep [] w wr ∧ Hid (∀ b, (Value.slice a' (fall zs k).length c').ownBlock = some b → w.heap.size ≤ b)) (fun _ i _ => zs.length - (intOf i).toNat)
  case atStart => exact ⟨0, none, 0, by omega, rfl, rfl, OwnI.nil _, Keep.refl _ _, fun b hb => by simp [Value.ownBlock] at hb⟩
  case round =>
    obtain ⟨k, a', c', hk, rfl, rfl, hO, hK, hB⟩ := hrel
    by_cases hlt : k < zs.length
    · obtain ⟨b, off, cap1, hv, e1, hwf⟩ := HI.out _ hK k hlt
      simp only [Value.slice.injEq] at hv
      obtain ⟨rfl, h2, rfl⟩ := hv
      clear h2
      have hfl := HFL.out k
      by_cases hz : zn zs k = 0
      · have hf : fall zs (k + 1) = fall zs k := by rw [fall, if_pos hz]
        have HFE := Lib.hid hf
        rw [hz] at e1
        clear hz hf hwf
        go_wp2_with fail
        go_roundw
        case rel => exact ⟨k + 1, a', c', by omega, by go_num, by rw [HFE.out], by rw [HFE.out]; exact hO, hK, by rw [HFE.out]; exact hB⟩
        case measure => simp [intOf]; omega
      · have hf : fall zs (k + 1) = insD (zn zs k) (fall zs k) := by rw [fall, if_neg hz]
        have HFE := Lib.hid hf
        clear hf
        have HX := Lib.hid (fun w' (K : Keep [] w w') => HI.out w' K k hlt)
        generalize zn zs k = x at *
        generalize fall zs k = out at *
        have hOI := hO.is
        have hOlt := hO.lt
        have hb0 : (x == 0) = false := by simpa using hz
        clear hO hwf
        go_wp2_with fail
        go_loopw [5, 6, 7] (fun y d j w3 => ∃ (m : Nat) (nx : List Int) (an : Option Addr) (cn : Nat) (done : Bool), m ≤ out.length ∧ j = .int .i64 m ∧ y = .slice an nx.length cn ∧ d = .bool done ∧ OwnI w3 (.slice an nx.length cn) nx ∧ Is .i64 w3 (.slice a' out.length c') out ∧
          Keep [] w w3 ∧ (∀ b, (Value.slice an nx.length cn).ownBlock = some b → w.heap.size ≤ b ∧ (Value.slice a' out.length c').ownBlock ≠ some b) ∧ (∀ b, (Value.slice a' out.length c').ownBlock = some b → b < w3.heap.size) ∧ nx.length ≤ m + done.toNat ∧
          Hid (nx ++ (if done then out.drop m else insD x (out.drop m)) = insD x out)) (fun _ _ j _ => out.length - (intOf j).toNat)
        case atStart => exact ⟨0, [], none, 0, false, by omega, rfl, rfl, rfl, OwnI.nil _, hOI, hK, fun b hb => by simp [Value.ownBlock] at hb, hOlt, by simp, by simp [Hid]⟩
        case round =>
          clear hOI hK hOlt e1
          obtain ⟨m, nx, an, cn, done, hm, rfl, rfl, rfl, hN, hOI, hK, hd, hOlt, hnl, hinv⟩ := hrel
          obtain ⟨b, off, cap1, hv, e1, hwf⟩ := HX.out _ hK
          simp only [Value.slice.injEq] at hv
          obtain ⟨h1, h2, rfl⟩ := hv
          clear h2
          injection h1 with h1
          injection h1 with h1 h2 _
          subst h1 h2
          by_cases hltm : m < out.length
          · obtain ⟨b2, off2, cap2, hv2, e2⟩ := hOI.at m hltm
            have hyw : (Lit.int .i64 out[m]).wf = true := by
              obtain ⟨_, _, _, _, _, _, _, h6⟩ := hOI
              exact h6 _ (List.getElem_mem hltm)
            simp only [Value.slice.injEq] at hv2
            obtain ⟨h1, h2, rfl⟩ := hv2
            clear h2
            subst h1
            have hdrop : out.drop m = out[m] :: out.drop (m + 1) := List.drop_eq_getElem_cons hltm
            rw [hdrop] at hinv
            have HYM : Hid (∀ w', Is .i64 w' (.slice (some ⟨b2, off2, none⟩) out.length c') out → w'.cell? ⟨b2, off2 + m, none⟩ = some (.int .i64 out[m])) := by
              intro w' O
              obtain ⟨b3, off3, cap3, hv3, e3⟩ := O.at m hltm
              simp only [Value.slice.injEq] at hv3
              obtain ⟨h1, h2, h3⟩ := hv3
              injection h1 with h1
              injection h1 with h1 h2 _
              subst h1 h2
              exact e3
            generalize out[m] = y at e2 hyw hinv HYM
            clear hdrop
            cases done with
            | true =>
              have hnl1 : nx.length ≤ m + 1 := by simp at hnl; omega
              have hi2 : Hid ((nx ++ [y]) ++ out.drop (m + 1) = insD x out) := by have := hinv.out; unfold Hid; rw [← this]; simp
              clear hinv
              go_wp2_with fail
              go_quiet (fail)
              have kq : Keep [] wr (wr.drewN nq) := (Keep.refl [] wr).drewN nq
              have gN := hN.keep kq (by simp)
              have gOI := hOI.keep kq (by simp)
              have gK := hK.drewN nq
              have ge1 := kq.cellW e1
              have ge2 := kq.cellW e2
              have gOlt : ∀ b, (Value.slice (some ⟨b2, off2, none⟩) out.length c').ownBlock = some b → b < (wr.drewN nq).heap.size := hOlt
              have gd := hd
              generalize wr.drewN nq = w4 at gN gOI gK ge1 ge2 gOlt ⊢
              clear hN hOI hK e1 e2 hOlt kq hd
              go_wp2_with (at_builtin; (refine wpList_appendI (.tmp 45) (.tmp 50) rfl rfl (.slice an nx.length cn) (nx) rfl (gN.keep ((Keep.refl [] _).alloc _) (by simp)) _ [y] rfl (Is.lit1 _ y hyw) (by simp; omega) ?_); (intro nv7 w7 E2 k7 hp7 _))
              obtain ⟨O7, K7, D7, L7⟩ := ap_step _ gOI gd gOlt gK k7 hp7
              obtain ⟨a7, c7, rfl, _⟩ := E2.is.sh
              clear k7 hp7
              clear gN gOI gd gOlt gK ge1 ge2
              have hn7 : (nx ++ [y]).length ≤ m + 1 + true.toNat := by simp at hnl ⊢; omega
              generalize nx ++ [y] = nx' at *
              go_wp2_with fail
              go_roundw
              case rel => exact ⟨m + 1, nx', a7, c7, true, by omega, by go_num, rfl, rfl, E2, O7, K7, D7, L7, hn7, hi2⟩
              case measure => simp [intOf]; omega
            | false =>
              have hnl1 : nx.length ≤ m + 1 := by simp at hnl; omega
              have hmid := insD_mid x y nx _ _ hinv.out
              clear hinv
              by_cases hlt2 : y < x
              · have hi2 : Hid ((nx ++ [x] ++ [y]) ++ out.drop (m + 1) = insD x out) := hmid.1 hlt2
                clear hmid
                go_wp2_with fail
                go_quiet (fail)
                have kq : Keep [] wr (wr.drewN nq) := (Keep.refl [] wr).drewN nq
                have gN := hN.keep kq (by simp)
                have gOI := hOI.keep kq (by simp)
                have gK := hK.drewN nq
                have ge1 := kq.cellW e1
                have ge2 := kq.cellW e2
                have gOlt : ∀ b, (Value.slice (some ⟨b2, off2, none⟩) out.length c').ownBlock = some b → b < (wr.drewN nq).heap.size := hOlt
                have gd := hd
                generalize wr.drewN nq = w4 at gN gOI gK ge1 ge2 gOlt ⊢
                clear hN hOI hK e1 e2 hOlt kq hd
                go_wp2_with (at_builtin; (first
                  | ((refine wpList_appendI (.tmp 45) (.tmp 50) rfl rfl (.slice a7 (nx.length + 1) c7) (nx ++ [x]) rfl (by have h := E2.keep ((Keep.refl [] _).alloc (.cells #[.int .i64 y] 3)) (by simp); exact h) _ [y] rfl (Is.lit1 _ y hyw) (by simp; omega) ?_); (intro nv8 w8 E28 k8 hp8 _); (obtain ⟨O78, K78, D78, L78⟩ := ap_step _ O7 D7 L7 K7 k8 hp8); (obtain ⟨a78, c78, rfl, _⟩ := E28.is.sh); (clear k8 hp8))
                  | ((refine wpList_appendI (.tmp 38) (.tmp 43) rfl rfl (.slice an nx.length cn) (nx) rfl (gN.keep ((Keep.refl [] _).alloc _) (by simp)) _ [x] rfl (Is.lit1 _ x hwf) (by simp; omega) ?_); (intro nv7 w7 E2 k7 hp7 _); (obtain ⟨O7, K7, D7, L7⟩ := ap_step _ gOI gd gOlt gK k7 hp7); (obtain ⟨a7, c7, rfl, _⟩ := E2.is.sh); (have e3 := HYM.out _ O7); (clear k7 hp7); (have hl7 : (nx ++ [x]).length = nx.length + 1 := by simp); (rw [hl7] at E2 D7); (clear hl7))))
                clear gN gOI gd gOlt gK ge1 ge2 E2 O7 K7 D7 L7 e3
                have hn7 : (nx ++ [x] ++ [y]).length ≤ m + 1 + true.toNat := by simp at hnl ⊢; omega
                go_wp2_with fail
                go_roundw
                case rel => exact ⟨m + 1, nx ++ [x] ++ [y], a78, c78, true, by omega, by go_num, by simp, rfl, E28, O78, K78, D78, L78, hn7, hi2⟩
                case measure => simp [intOf]; omega
              · have hi2 : Hid ((nx ++ [y]) ++ insD x (out.drop (m + 1)) = insD x out) := hmid.2 hlt2
                clear hmid
                go_wp2_with fail
                go_quiet (fail)
                have kq : Keep [] wr (wr.drewN nq) := (Keep.refl [] wr).drewN nq
                have gN := hN.keep kq (by simp)
                have gOI := hOI.keep kq (by simp)
                have gK := hK.drewN nq
                have ge1 := kq.cellW e1
                have ge2 := kq.cellW e2
                have gOlt : ∀ b, (Value.slice (some ⟨b2, off2, none⟩) out.length c').ownBlock = some b → b < (wr.drewN nq).heap.size := hOlt
                have gd := hd
                generalize wr.drewN nq = w4 at gN gOI gK ge1 ge2 gOlt ⊢
                clear hN hOI hK e1 e2 hOlt kq hd
                go_wp2_with (at_builtin; (refine wpList_appendI (.tmp 45) (.tmp 50) rfl rfl (.slice an nx.length cn) (nx) rfl (gN.keep ((Keep.refl [] _).alloc _) (by simp)) _ [y] rfl (Is.lit1 _ y hyw) (by simp; omega) ?_); (intro nv7 w7 E2 k7 hp7 _))
                obtain ⟨O7, K7, D7, L7⟩ := ap_step _ gOI gd gOlt gK k7 hp7
                obtain ⟨a7, c7, rfl, _⟩ := E2.is.sh
                clear k7 hp7
                clear gN gOI gd gOlt gK ge1 ge2
                have hn7 : (nx ++ [y]).length ≤ m + 1 + false.toNat := by simp at hnl ⊢; omega
                generalize nx ++ [y] = nx' at *
                go_wp2_with fail
                go_roundw
                case rel => exact ⟨m + 1, nx', a7, c7, false, by omega, by go_num, rfl, rfl, E2, O7, K7, D7, L7, hn7, hi2⟩
                case measure => simp [intOf]; omega
          · obtain rfl : m = out.length := by omega
            have hdr : out.drop out.length = [] := List.drop_of_length_le (Nat.le_refl _)
            rw [hdr] at hinv
            cases done with
            | true =>
              have hnx : Hid (nx = fall zs (k + 1)) := by unfold Hid; rw [HFE.out, ← hinv.out]; simp
              clear hinv hdr
              go_wp2_with fail
              go_roundw
              case rel => exact ⟨k + 1, an, cn, by omega, by go_num, by rw [← hnx.out], by rw [← hnx.out]; exact hN, hK, by rw [← hnx.out]; exact fun b hb => (hd b hb).1⟩
              case measure => simp [intOf]; omega
            | false =>
              have hnx : Hid (nx ++ [x] = fall zs (k + 1)) := by unfold Hid; rw [HFE.out, ← hinv.out]; simp [insD]
              have hnl1 : nx.length ≤ out.length := by simp at hnl; omega
              clear hinv hdr
              go_wp2_with (at_builtin; ((refine wpList_appendI (.tmp 54) (.tmp 59) rfl rfl (.slice an nx.length cn) (nx) rfl (hN.keep ((Keep.refl [] _).alloc _) (by simp)) _ [x] rfl (Is.lit1 _ x hwf) (by simp; omega) ?_); (intro nv7 w7 E2 k7 hp7 _); (obtain ⟨O7, K7, D7, L7⟩ := ap_step _ hOI hd hOlt hK k7 hp7); (obtain ⟨a7, c7, rfl, _⟩ := E2.is.sh); (clear k7 hp7)))
              go_roundw
              case rel => exact ⟨k + 1, a7, c7, by omega, by go_num, by rw [← hnx.out]; simp, by rw [← hnx.out]; exact E2, K7, by rw [← hnx.out]; exact fun b hb => (D7 b hb).1⟩
              case measure => simp [intOf]; omega
    · obtain rfl : k = zs.length := by omega
      have hI := hO.is
      go_wp2_with fail
      go_ret
      exact ⟨_, rfl, hI, hK⟩
end Go.Proofs.Ytibhelfiibincaa
