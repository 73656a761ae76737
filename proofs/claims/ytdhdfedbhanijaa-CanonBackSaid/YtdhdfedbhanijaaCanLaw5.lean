/- The walk of the law CanonBack: it returns true at every input. -/
import Derived.Test.YtdhdfedbhanijaaCanLaw4
import Derived.Test.YtdhdfedbhanijaaBitWr2
import Derived.Test.YtdhdfedbhanijaaBitBackMath
namespace Go.Proofs.Ytdhdfedbhanijaa
set_option linter.unusedVariables false
set_option linter.unusedSimpArgs false
open Go.ChangeShapes Go.WideShapes Go.ChangeAt Go.RowKit

/-- the bits of symbols -/
def wb (L ps : List Nat) : List Bool := ps.flatMap fun s => bitsOf (code L s) (len L s)
theorem wb_snoc (L ps : List Nat) (s : Nat) : wb L (ps ++ [s]) = wb L ps ++ bitsOf (code L s) (len L s) := by simp [wb]
theorem wb_len (L ps : List Nat) (h : ∀ i, len L i ≤ 16) : (wb L ps).length ≤ 16 * ps.length := by
  induction ps with
  | nil => simp [wb]
  | cons s ps ih =>
    have := h s
    simp only [wb, List.flatMap_cons, List.length_append, bitsOf_length, List.length_cons] at *
    omega
theorem wb_at (L ps : List Nat) (j : Nat) (hj : j < ps.length) : ∃ post, wb L ps = wb L (ps.take j) ++ bitsOf (code L ps[j]) (len L ps[j]) ++ post ∧ (wb L (ps.take (j + 1))).length = (wb L (ps.take j)).length + len L ps[j] := by
  refine ⟨wb L (ps.drop (j + 1)), ?_, ?_⟩
  · rw [← wb_snoc, ← List.take_succ_eq_append_getElem hj]
    have : wb L ps = wb L (ps.take (j + 1) ++ ps.drop (j + 1)) := by rw [List.take_append_drop]
    rw [this]; unfold wb; rw [List.flatMap_append]
  · rw [List.take_succ_eq_append_getElem hj, wb_snoc, List.length_append, bitsOf_length]
/-- what has been written by words is read, word by word -/
theorem back_next (L ps : List Nat) (l : List UInt8) (j : Nat) (hj : j < ps.length) (hL : ∀ x ∈ L, x ≤ 16) (hwt : wt L ≤ 65536) (hp : ∀ s ∈ ps, s < L.length ∧ 0 < len L s) (hl : toBits l = pad8 (wb L ps)) :
    RS.next L ⟨l, (wb L (ps.take j)).length, true, 0⟩ = ((ps[j] : Int), 0, ⟨l, (wb L (ps.take (j + 1))).length, true, 0⟩) := by
  obtain ⟨post, h1, h2⟩ := wb_at L ps j hj
  obtain ⟨h3, h4⟩ := hp ps[j] (List.getElem_mem hj)
  have h16 : len L ps[j] ≤ 16 := Nat.le_trans (longest_ge L _) (longest_le L 16 hL)
  rw [h2]
  have hseg := num_seg l (wb L (ps.take j)) (post ++ List.replicate ((8 - (wb L ps).length % 8) % 8) false) (code L ps[j]) (len L ps[j]) (by rw [hl, pad8]; generalize List.replicate ((8 - (wb L ps).length % 8) % 8) false = z; rw [h1]; simp)
  rw [Nat.mod_eq_of_lt (code_lt L _)] at hseg
  have hlen : 8 * l.length = (pad8 (wb L ps)).length := by rw [← hl, toBits_length]
  have hlen2 : (wb L ps).length ≤ (pad8 (wb L ps)).length := by simp [pad8]
  have hlen3 : (wb L ps).length = (wb L (ps.take j)).length + len L ps[j] + post.length := by rw [h1]; simp [bitsOf_length]; omega
  have hE : RS.E ⟨l, (wb L (ps.take j)).length, true, 0⟩ = 0 := rfl
  refine RS.next_hit L _ hE ps[j] ((pick_some L _ _ _ hL).2 ⟨?_, ?_⟩)
  · refine (hit_bits L _ _ 0 h3 hL hwt h4).1 ?_
    rw [num_mod _ _ _ _ h16]
    exact hseg
  · unfold RS.left
    rw [if_pos hE]
    simp only
    omega
def okS (L ps : List Nat) : Prop := ∀ s ∈ ps, s < L.length ∧ 0 < len L s
def zl (ps : List Nat) : List Int := ps.map fun s : Nat => (s : Int)
/-- the writer, what has been put, the decoder, the words -/
def BackRel (W w : World) (T r d : Nat) (v pv cv : Value) (bs L ps : List Nat) : Prop :=
  Wr w r v (wb L ps) ∧ OwnI w pv (zl ps) ∧ Dec w d bs L ∧ Cds w cv L ∧ Keep [] W w ∧ (∀ b, v.ownBlock = some b → T ≤ b) ∧ (∀ b, pv.ownBlock = some b → T ≤ b ∧ b ≠ r ∧ v.ownBlock ≠ some b) ∧ okS L ps
set_option maxRecDepth 100000 in
set_option maxHeartbeats 4000000 in
theorem back_w (W : World) (v0 : Value) (zs0 : List Int) (h0 : Is .i64 W v0 zs0) (v1 : Value) (ys0 : List Int) (h1 : Is .i64 W v1 ys0) : Calls Try.prog 6 #[v0, v1] W fun e w' => e = .returned (.bool true) ∧ Keep [] W w' := by
  go_enter Try.func6, Try.ntmps6
  go_wp2_with fail
  refine (refints_c W v0 zs0 60 (by omega) h0).mono ?_; rintro e w1 ⟨va, rfl, ha, _, rfl⟩
  have hz60 : (zs0.take 60).length ≤ 60 := by rw [List.length_take]; omega
  generalize zs0.take 60 = zs at ha hz60
  go_wp2_with fail
  refine (refints_c W v1 ys0 100 (by omega) h1).mono ?_; rintro e w1 ⟨vy, rfl, hy, _, rfl⟩
  have hy100 : (ys0.take 100).length ≤ 100 := by rw [List.length_take]; omega
  generalize ys0.take 100 = ys at hy hy100
  clear h0 h1
  go_wp2_with fail
  refine (can_codes W va zs ha).mono ?_; rintro e w2 ⟨cv, rfl, hcd, k2, hcf, _⟩
  go_wp2_with fail
  refine (can_new w2 va zs (ha.keep k2 (by simp))).mono ?_; rintro e w3 ⟨p, rfl, k3, hp0, hp1⟩
  have K3 := k2.trans k3 (by simp)
  have hcd3 := hcd.keep k3 (by simp)
  clear ha
  by_cases hw : werr zs = 0
  · obtain ⟨d, bs, rfl, hd, hbs⟩ := hp1 hw
    obtain ⟨hm, hwt⟩ := werr_ok hw
    have hL := may_Ln hm
    have hN := Ln_length zs
    have hLw : Lw zs = Ln zs := by unfold Lw; rw [if_pos hw]
    rw [hLw] at hcd3 hcd
    rw [hw]
    have hdlt := hd.lt
    have hclt := hcd3.lt
    have HY : Hid (∀ w' (k : Keep [] W w') i (hi : i < ys.length), ∃ b off cap, vy = .slice (some ⟨b, off, none⟩) ys.length cap ∧ w'.cell? ⟨b, off + i, none⟩ = some (.int .i64 ys[i])) := fun w' k i hi => (hy.keep k (by simp)).at i hi
    have HYW : Hid (∀ z ∈ ys, (Lit.int .i64 z).wf = true) := hy.choose_spec.choose_spec.2.2.2.2.2
    obtain ⟨ay, capy, rfl, _⟩ := hy.sh
    rw [← hN] at hz60
    generalize Ln zs = L at *
    have H16 := Lib.hid (fun i => Nat.le_trans (longest_ge L i) (longest_le L 16 hL))
    have HNX := Lib.hid (fun ps l j hj => back_next L ps l j hj hL hwt)
    have HWL := Lib.hid (fun ps => wb_len L ps H16.out)
    clear hp0 hp1 hw hm hwt hL hN hLw hbs hcf hcd k2 k3 hy
    go_wp2_with fail
    refine (new_c w3).mono ?_; rintro e w4 ⟨r, rfl, hr, k4, hr2⟩
    have hB : BackRel W w4 w3.heap.size r d (.slice none 0 0) (.slice none 0 0) cv bs L [] :=
      ⟨hr, OwnI.nil _, hd.keep k4 (by simp), hcd3.keep k4 (by simp), K3.trans k4 (by simp), by simp [Value.ownBlock], by simp [Value.ownBlock], fun s hs => nomatch hs⟩
    have hWT : W.heap.size ≤ w3.heap.size := K3.size
    obtain ⟨ac, capc, rfl, _⟩ := hcd3.shape
    have HD := Lib.hid hdlt
    have HCL := Lib.hid hclt
    clear hr k4 hd hcd3 K3 hdlt hclt
    generalize w3.heap.size = T at *
    go_wp2_with fail
    go_loopw [10, 11] (fun x i wr => ∃ (k : Nat) (ps : List Nat) (v : Value) (ap : Option Addr) (cp : Nat), k ≤ ys.length ∧ i = .int .i64 k ∧ x = .slice ap ps.length cp ∧ ps.length ≤ k ∧ BackRel W wr T r d v (.slice ap ps.length cp) (.slice ac L.length capc) bs L ps) (fun _ i _ => ys.length - (intOf i).toNat)
    case atStart => exact ⟨0, [], _, none, 0, by omega, rfl, rfl, by simp, hB⟩
    case round =>
      clear hB
      obtain ⟨k, ps, v, ap, cp, hk, rfl, rfl, hpk, HB⟩ := hrel
      by_cases hlt : k < ys.length
      · obtain ⟨b, off, cap, hv, e0⟩ := HY.out _ HB.2.2.2.2.1 k hlt
        simp only [Value.slice.injEq] at hv
        obtain ⟨h1, _, rfl⟩ := hv
        subst h1
        have hzw := HYW.out _ (List.getElem_mem hlt)
        generalize ys[k] = z at e0 hzw
        by_cases hsel : 0 ≤ z ∧ z < (L.length : Int)
        · obtain ⟨s, rfl⟩ := Int.eq_ofNat_of_zero_le hsel.1
          have hs : s < L.length := by omega
          obtain ⟨b2, off2, cap2, hv, f0, f1⟩ := HB.2.2.2.1.at s hs
          simp only [Value.slice.injEq] at hv
          obtain ⟨h1, _, rfl⟩ := hv
          subst h1
          by_cases hl0 : 0 < len L s
          · have h16 := H16.out s
            have hcw : code L s < 4294967296 := by have := code_lt16 L s h16; omega
            have HWB := Lib.hid (wb_snoc L ps s)
            have hls := HWL.out ps
            obtain ⟨B1, B2, B3, B4, B5, B6, B7, B8⟩ := HB
            have hcln : cln ((len L s : Nat) : Int) = len L s := by unfold cln; rw [show (max 0 (min ((len L s : Nat) : Int) 32)).toNat = len L s by omega]
            have hput := fun w' (B1' : Wr w' r v (wb L ps)) => wput_c w' r v (wb L ps) (code L s) ((len L s : Nat) : Int) hcw B1' (by omega)
            rw [hcln, ← HWB.out] at hput
            have HPUT := Lib.hid hput
            have hok2 : okS L (ps ++ [s]) := by
              intro x hx
              rcases List.mem_append.1 hx with h | h
              · exact B8 x h
              · obtain rfl : x = s := by simpa using h
                exact ⟨hs, hl0⟩
            have HOK := Lib.hid hok2
            clear hput hcln hok2 B8 HWB
            generalize code L s = cd at *
            generalize len L s = n at *
            clear hsel hcw hls
            go_wp2_with fail
            go_still_tail 11, (by kernel_rfl)
            have kd : Keep [] wr wr.drew := (Keep.refl [] wr).drew
            have C1 := B1.keep kd (by simp) (by simp)
            have C2 := B2.keep kd (by simp)
            have C3 := B3.keep kd (by simp)
            have C4 := B4.keep kd (by simp)
            have C5 := B5.drew
            change wpList _ _ _ _ _ wr.drew
            generalize wr.drew = w5 at C1 C2 C3 C4 C5 ⊢
            clear kd B1 B2 B3 B4 B5 f0 f1 e0
            go_wp2_with fail
            refine (HPUT.out w5 C1).mono ?_; rintro e w6 ⟨v6, rfl, D1, k6, hv6⟩
            have hsz := C5.size
            have D2 := C2.keep k6 (fun b hb => by
              have h := B7 b hb
              simp only [List.mem_cons, Option.mem_toList]
              rintro (h' | h')
              · exact h.2.1 h'
              · exact h.2.2 h')
            have D3 := C3.keep k6 (fun b hb => by
              have h := HD.out b hb
              simp only [List.mem_cons, Option.mem_toList]
              rintro (h' | h')
              · omega
              · have := B6 b h'; omega)
            have D4 := C4.keep' k6 (fun hl b hb => by
              have h := HCL.out hl b hb
              simp only [List.mem_cons, Option.mem_toList]
              rintro (h' | h')
              · omega
              · have := B6 b h'; omega)
            have D5 := C5.trans k6 (fun b hb => by
              simp only [List.mem_cons, Option.mem_toList] at hb
              rcases hb with h' | h'
              · right; omega
              · right; have := B6 b h'; omega)
            have D6 : ∀ b, v6.ownBlock = some b → T ≤ b := fun b hb => by
              rcases hv6 b hb with h | h
              · exact B6 b h
              · obtain ⟨_, _, _, hW, _⟩ := C1; have := hW.1.lt; omega
            have D7 : ∀ b, (Value.slice ap ps.length cp).ownBlock = some b → T ≤ b ∧ b ≠ r ∧ v6.ownBlock ≠ some b := fun b hb => by
              refine ⟨(B7 b hb).1, (B7 b hb).2.1, fun h => ?_⟩
              rcases hv6 b h with h | h
              · exact (B7 b hb).2.2 h
              · have := C2.lt b hb; omega
            clear C1 C2 C3 C4 C5 k6 hv6 B6 B7 HPUT
            go_wp2_with (at_builtin; (refine wpList_appendI (.tmp 82) (.tmp 84) rfl rfl (.slice ap ps.length cp) (zl ps) rfl (D2.keep ((Keep.refl [] _).alloc _) (by simp)) _ [(s : Int)] rfl (Is.lit w6 [(s : Int)] #[.int .i64 (s : Int)] 1 rfl rfl (by decide) (by simpa using hzw)) (by simp [zl]; omega) ?_); (intro pv7 w7 E2 k7 hp7 _))
            have kA : Keep [] w6 (w6.alloc (.cells #[.int .i64 (s : Int)] 3)) := (Keep.refl [] _).alloc _
            have F1 := D1.keep kA (by simp) (by simp)
            have F3 := D3.keep kA (by simp)
            have F4 := D4.keep kA (by simp)
            have F5 := D5.trans kA (by simp)
            obtain ⟨hrlt, hvlt⟩ : r < (w6.alloc (.cells #[.int .i64 (s : Int)] 3)).heap.size ∧ ∀ b, v6.ownBlock = some b → b < (w6.alloc (.cells #[.int .i64 (s : Int)] 3)).heap.size := by
              obtain ⟨_, _, _, hW, _⟩ := F1
              exact ⟨hW.1.lt, fun b hb => hW.2.1.lt b hb⟩
            generalize w6.alloc (.cells #[.int .i64 (s : Int)] 3) = w8 at F1 F3 F4 F5 k7 hp7 hrlt hvlt
            clear D1 D2 D3 D4 D5 kA
            have G1 := F1.keep k7 (fun h => (D7 r (by simpa using h)).2.1 rfl) (fun b hb h => (D7 b (by simpa using h)).2.2 hb)
            have G3 := F3.keep k7 (fun b hb h => by have := (D7 b (by simpa using h)).1; have := HD.out b hb; omega)
            have G4 := F4.keep' k7 (fun hl b hb h => by have := (D7 b (by simpa using h)).1; have := HCL.out hl b hb; omega)
            have G5 := F5.trans k7 (fun b hb => by right; have := (D7 b (by simpa using hb)).1; omega)
            have G7 : ∀ b, pv7.ownBlock = some b → T ≤ b ∧ b ≠ r ∧ v6.ownBlock ≠ some b := fun b hb => by
              rcases hp7 b hb with h | h
              · exact D7 b h
              · refine ⟨by omega, by omega, fun h' => ?_⟩
                have := hvlt b h'; omega
            have hzl : zl ps ++ [(s : Int)] = zl (ps ++ [s]) := by simp [zl]
            rw [hzl] at E2
            obtain ⟨a7, c7, rfl, _⟩ := E2.is.sh
            have hl7 : (zl (ps ++ [s])).length = (ps ++ [s]).length := by simp [zl]
            rw [hl7] at E2 G7 ⊢
            have HB7 : BackRel W w7 T r d v6 (.slice a7 (ps ++ [s]).length c7) (.slice _ L.length capc) bs L (ps ++ [s]) := ⟨G1, E2, G3, G4, G5, D6, G7, HOK.out⟩
            have hpl : (ps ++ [s]).length ≤ k + 1 := by simp; omega
            clear G1 E2 G3 G4 G5 D6 G7 D7 F1 F3 F4 F5 k7 hp7 hrlt hvlt hzl hl7 HOK
            generalize ps ++ [s] = ps' at *
            go_wp2_with fail
            go_roundw
            case rel => exact ⟨k + 1, ps', v6, a7, c7, by omega, by go_num, rfl, hpl, HB7⟩
            case measure => simp [intOf]; omega
          · have hz0 : len L s = 0 := by omega
            rw [hz0] at f1
            clear hsel hl0 hz0
            go_wp2_with fail
            go_roundw
            case rel => exact ⟨k + 1, ps, v, ap, cp, by omega, by go_num, rfl, by omega, HB⟩
            case measure => simp [intOf]; omega
        · by_cases hneg : z < 0
          · clear hsel
            go_wp2_with fail
            go_roundw
            case rel => exact ⟨k + 1, ps, v, ap, cp, by omega, by go_num, rfl, by omega, HB⟩
            case measure => simp [intOf]; omega
          · have hge : ¬ z < (L.length : Int) := by omega
            clear hsel
            go_wp2_with fail
            go_roundw
            case rel => exact ⟨k + 1, ps, v, ap, cp, by omega, by go_num, rfl, by omega, HB⟩
            case measure => simp [intOf]; omega
      · obtain ⟨B1, B2, B3, B4, B5, B6, B7, B8⟩ := HB
        have hls := HWL.out ps
        have hbl : (wb L ps).length ≤ 1125899906842000 := by omega
        have hB2 := B2.is
        go_wp2_with fail
        refine (wbytes_c _ _ _ _ B1 hbl).mono ?_; rintro e w5 ⟨vo, lo, rfl, ho, hbits, k5, hof⟩
        have C1 := B1.keep k5 (by simp) (by simp)
        have C2 := hB2.keep k5 (by simp)
        have C3 := B3.keep k5 (by simp)
        have C5 := B5.trans k5 (by simp)
        obtain ⟨hrlt, hvlt⟩ : r < w5.heap.size ∧ ∀ b, v.ownBlock = some b → b < w5.heap.size := by
          obtain ⟨_, _, _, hW, _⟩ := C1
          exact ⟨hW.1.lt, fun b hb => hW.2.1.lt b hb⟩
        have hplt := fun b hb => Nat.lt_of_lt_of_le (B2.lt b hb) k5.size
        have hlo : lo.length ≤ 140737488355328 := by
          have h := congrArg List.length hbits
          rw [toBits_length] at h
          simp [pad8] at h
          omega
        have HNJ := Lib.hid (fun j hj => HNX.out ps lo j hj B8 hbits)
        clear B1 B2 B3 B4 B5 B7 hB2 k5 hof hbits
        go_wp2_with fail
        refine (open_c w5 vo lo hlo ho.bs).mono ?_; rintro e w6 ⟨r2, v2, rfl, D0, k6, hr6, hv6⟩
        have D1 := C1.keep k6 (by simp) (by simp)
        have D2 := C2.keep k6 (by simp)
        have D3 := C3.keep k6 (by simp)
        have D5 := C5.trans k6 (by simp)
        have hrr : r ≠ r2 := by omega
        have hW5 : W.heap.size ≤ r2 := by have := C5.size; omega
        have hr2b : Hid (r2 ∉ bs) := fun h => by have := HD.out r2 h; omega
        have hr2v : Hid (∀ b, v.ownBlock = some b → b ≠ r2) := fun b hb => by have := hvlt b hb; omega
        have hr2p : Hid (∀ b, (Value.slice ap ps.length cp).ownBlock = some b → b ≠ r2) := fun b hb => by have := hplt b hb; omega
        clear C1 C2 C3 C5 hrlt hvlt hplt k6 hr6 hv6 ho
        go_wp2_with fail
        go_loopw [14] (fun i wr => ∃ j : Nat, j ≤ ps.length ∧ i = .int .i64 j ∧ Rd wr r2 v2 ⟨lo, (wb L (ps.take j)).length, true, 0⟩ ∧ Wr wr r v (wb L ps) ∧ Is .i64 wr (.slice ap ps.length cp) (zl ps) ∧ Dec wr d bs L ∧ Keep [] W wr) (fun i _ => ps.length - (intOf i).toNat)
        case atStart => exact ⟨0, by omega, rfl, D0, D1, D2, D3, D5⟩
        case round =>
          clear D0 D1 D2 D3 D5
          obtain ⟨j, hj, rfl, D0, D1, D2, D3, D5⟩ := hrel
          by_cases hltj : j < ps.length
          · have hnx := can_next _ d r2 v2 _ bs L D3 D0 hr2b.out
            rw [HNJ.out j hltj] at hnx
            have HX := Lib.hid hnx
            clear hnx D0
            go_wp2_with fail
            refine HX.out.mono ?_; rintro e w7 ⟨rfl, E0, k7⟩
            have E1 := D1.keep k7 (by simpa using hrr) (fun b hb => by simpa using hr2v.out b hb)
            have E2 := D2.keep k7 (fun b hb => by simpa using hr2p.out b hb)
            have E3 := D3.keep k7 (fun b hb => by simp; intro e; subst e; exact hr2b.out hb)
            have E5 := D5.trans k7 (by simpa using hW5)
            clear D1 D2 D3 D5 k7 HX
            obtain ⟨b, off, cap, hv, e0⟩ := E2.at j (by simpa [zl] using hltj)
            simp only [Value.slice.injEq] at hv
            obtain ⟨h1, h2, rfl⟩ := hv
            clear h2
            subst h1
            have e1 : (zl ps)[j]'(by simpa [zl] using hltj) = ((ps[j] : Nat) : Int) := by simp [zl]
            rw [e1] at e0
            clear e1
            generalize ps[j] = s at *
            go_wp2_with fail
            go_roundw
            case rel => exact ⟨j + 1, by omega, by go_num, E0, E1, E2, E3, E5⟩
            case measure => simp [intOf]; omega
          · obtain rfl : j = ps.length := by omega
            rw [List.take_length] at D0
            clear D2 D3
            go_wp2_with fail
            refine (read_c _ _ _ _ D0).mono ?_; rintro e w7 ⟨rfl, rfl⟩
            go_wp2_with fail
            refine (wlen_c _ _ _ _ D1 (by omega)).mono ?_; rintro e w8 ⟨rfl, n8, rfl⟩
            generalize (wb L ps).length = bl at *
            go_wp2_with fail
            refine (lives_c _).mono ?_; rintro e w12 ⟨rfl, k12⟩
            go_wp2_with fail
            go_ret
            exact ⟨rfl, (D5.drewN n8).trans k12 (by simp)⟩
  · have hb : (((werr zs : Nat) : Int) != 0) = true := by simp; omega
    generalize werr zs = er at hb ⊢
    clear hp0 hp1 hcd hcd3
    go_wp2_with fail
    refine (lives_c _).mono ?_; rintro e w12 ⟨rfl, k12⟩
    go_wp2_with fail
    go_ret
    exact ⟨rfl, K3.trans k12 (by simp)⟩
end Go.Proofs.Ytdhdfedbhanijaa
