/- The walk of the law SfanoBack: it returns true at every input. -/
import Derived.Test.YtblogjpoijfpbaaSfLaw4
import Derived.Test.YtblogjpoijfpbaaBitWr2
import Derived.Test.YtblogjpoijfpbaaBitBackMath
namespace Go.Proofs.Ytblogjpoijfpbaa
set_option linter.unusedVariables false
set_option linter.unusedSimpArgs false
open Go.ChangeShapes Go.WideShapes Go.ChangeAt Go.RowKit

/-- the bits of symbols -/
def wbS (L ps : List Nat) : List Bool := ps.flatMap fun s => bitsOf (scode L s) (len L s)
theorem wbS_snoc (L ps : List Nat) (s : Nat) : wbS L (ps ++ [s]) = wbS L ps ++ bitsOf (scode L s) (len L s) := by simp [wbS]
theorem wbS_len (L ps : List Nat) (h : ∀ i, len L i ≤ 16) : (wbS L ps).length ≤ 16 * ps.length := by
  induction ps with
  | nil => simp [wbS]
  | cons s ps ih =>
    have := h s
    simp only [wbS, List.flatMap_cons, List.length_append, bitsOf_length, List.length_cons] at *
    omega
theorem wbS_at (L ps : List Nat) (j : Nat) (hj : j < ps.length) : ∃ post, wbS L ps = wbS L (ps.take j) ++ bitsOf (scode L ps[j]) (len L ps[j]) ++ post ∧ (wbS L (ps.take (j + 1))).length = (wbS L (ps.take j)).length + len L ps[j] := by
  refine ⟨wbS L (ps.drop (j + 1)), ?_, ?_⟩
  · rw [← wbS_snoc, ← List.take_succ_eq_append_getElem hj]
    have : wbS L ps = wbS L (ps.take (j + 1) ++ ps.drop (j + 1)) := by rw [List.take_append_drop]
    rw [this]; unfold wbS; rw [List.flatMap_append]
  · rw [List.take_succ_eq_append_getElem hj, wbS_snoc, List.length_append, bitsOf_length]
/-- what has been written by words is read, word by word -/
theorem back_nextS (L ps : List Nat) (l : List UInt8) (j : Nat) (hj : j < ps.length) (h16 : ∀ k, k < L.length → len L k ≤ 16) (hf : tot16 L = 65536) (hp : ∀ s ∈ ps, s < L.length) (hl : toBits l = pad8 (wbS L ps)) :
    RS.nextS L ⟨l, (wbS L (ps.take j)).length, true, 0⟩ = ((ps[j] : Int), 0, ⟨l, (wbS L (ps.take (j + 1))).length, true, 0⟩) := by
  obtain ⟨post, h1, h2⟩ := wbS_at L ps j hj
  have h3 := hp ps[j] (List.getElem_mem hj)
  have hle := h16 _ h3
  rw [h2]
  have hseg := num_seg l (wbS L (ps.take j)) (post ++ List.replicate ((8 - (wbS L ps).length % 8) % 8) false) (scode L ps[j]) (len L ps[j]) (by rw [hl, pad8]; generalize List.replicate ((8 - (wbS L ps).length % 8) % 8) false = z; rw [h1]; simp)
  rw [Nat.mod_eq_of_lt (scode_lt L _)] at hseg
  have hlen : 8 * l.length = (pad8 (wbS L ps)).length := by rw [← hl, toBits_length]
  have hlen2 : (wbS L ps).length ≤ (pad8 (wbS L ps)).length := by simp [pad8]
  have hlen3 : (wbS L ps).length = (wbS L (ps.take j)).length + len L ps[j] + post.length := by rw [h1]; simp [bitsOf_length]; omega
  have hE : RS.E ⟨l, (wbS L (ps.take j)).length, true, 0⟩ = 0 := rfl
  have hpk : ps[j] = spick L (tr 16 (num l (wbS L (ps.take j)).length 16) 0) := by
    refine (spick_bits L _ (len L ps[j]) ps[j] h16 hf h3 rfl).1 ?_
    rw [num_mod _ _ _ _ hle]
    exact hseg
  unfold RS.nextS
  rw [if_neg (by rw [hE]; simp)]
  dsimp only
  rw [← hpk, if_pos]
  unfold RS.left
  rw [if_pos hE]
  dsimp only
  omega
theorem back_Ln {zs : List Int} (h : mayS zs = true) : ((Ln zs).map fun (y : Nat) => (y : Int)) = zs := by
  refine List.ext_getElem (by simp [Ln]) (fun i h1 h2 => ?_)
  have hi : i < zs.length := h2
  obtain ⟨g1, _⟩ := mayS_get h i hi
  rw [List.getElem_map, g1, len_get _ _ (by rw [Ln_length]; exact hi)]
/-- which symbol a number picks -/
def sel (n : Nat) (y : Int) : Nat := (max 0 (min y ((n : Int) - 1))).toNat
theorem sel_lt (n : Nat) (y : Int) (h : 0 < n) : sel n y < n := by unfold sel; omega
theorem sel_int (n : Nat) (y : Int) (h : 0 < n) : max 0 (min y ((n : Int) - 1)) = (sel n y : Nat) := by unfold sel; omega
/-- the writer, the decoder, the words -/
def BackS (W w : World) (T r d : Nat) (v cv : Value) (bs L ps : List Nat) : Prop :=
  Wr w r v (wbS L ps) ∧ Dec6 w d bs L ∧ Cds6 w cv L ∧ Keep [] W w ∧ (∀ b, v.ownBlock = some b → T ≤ b)
set_option maxRecDepth 100000 in
set_option maxHeartbeats 8000000 in
theorem sback_w (W : World) (v0 : Value) (zs0 : List Int) (h0 : Is .i64 W v0 zs0) (v1 : Value) (ys0 : List Int) (h1 : Is .i64 W v1 ys0) : Calls Try.prog 6 #[v0, v1] W fun e w' => e = .returned (.bool true) ∧ Keep [] W w' := by
  go_enter Try.func6, Try.ntmps6
  go_wp2_with fail
  refine (refints_c W v0 zs0 260 (by omega) h0).mono ?_; rintro e w1 ⟨va, rfl, ha, _, rfl⟩
  have hz60 : (zs0.take 260).length ≤ 260 := by rw [List.length_take]; omega
  generalize zs0.take 260 = zs at ha hz60
  go_wp2_with fail
  refine (refints_c W v1 ys0 100 (by omega) h1).mono ?_; rintro e w1 ⟨vy, rfl, hy, _, rfl⟩
  have hy100 : (ys0.take 100).length ≤ 100 := by rw [List.length_take]; omega
  generalize ys0.take 100 = ys at hy hy100
  clear h0 h1
  go_wp2_with fail
  refine (sf_pack W va zs ha).mono ?_; rintro e w2 ⟨vp, rfl, hp, k2, hpf, hpn⟩
  cases hm : mayS zs with
  | false =>
    have hpe : perr zs = 2 := by unfold perr; rw [hm]; rfl
    obtain rfl := hpn (by omega)
    rw [hpe]
    clear hp hpf hpn hpe hm
    go_wp2_with fail
    refine (lives6_c _).mono ?_; rintro e w12 ⟨rfl, k12⟩
    go_wp2_with fail
    go_ret
    exact ⟨rfl, k2.trans k12 (by simp)⟩
  | true =>
    have hpe : perr zs = 0 := by unfold perr; rw [hm]; rfl
    have hps : packS zs = packL (Ln zs) := by unfold packS; rw [hm]; rfl
    rw [hpe]
    rw [hps] at hp
    have hmi := (mayS_iff zs).1 hm
    have hN := Ln_length zs
    have hne : Ln zs ≠ [] := by intro e; rw [e] at hN; simp at hN; omega
    have hx16 : ∀ x ∈ Ln zs, 1 ≤ x ∧ x ≤ 16 := by
      intro x hx
      simp only [Ln, List.mem_map] at hx
      obtain ⟨z, hz, rfl⟩ := hx
      have := hmi.2.2 z hz
      omega
    have hunp := unp_pack (Ln zs) hx16 hne (by omega)
    rw [back_Ln hm, hN] at hunp
    have hpl : (packL (Ln zs)).length ≤ zs.length + 1 := by
      have := pk_len (Ln zs) 1
      show (pk 1 (Ln zs)).length + 1 ≤ _
      omega
    clear hpe hps hpf hpn
    have ha2 := ha.keep k2 (by simp)
    obtain ⟨av, cv0, rfl, hvl⟩ := ha.sh
    obtain ⟨bv, bc, rfl, hbv1, hbv2⟩ := hp.shape
    generalize packL (Ln zs) = pl at *
    go_wp2_with fail
    refine (open_c w2 _ pl (by omega) hp).mono ?_; rintro e w3 ⟨r0, u0, rfl, hr0, k3, hr0f, hu0f⟩
    have ha3 := ha2.keep k3 (by simp)
    have K3 := k2.trans k3 (by simp)
    have hU := Lib.hid (sf_unpack w3 r0 u0 _ (zs.length : Int) hr0)
    rw [hunp] at hU
    clear hunp hr0 ha2 k3 hp
    go_wp2_with fail
    refine hU.out.mono ?_; rintro e w4 ⟨vm, rfl, hvm, k4, hvmf, _⟩
    have hs2 := k2.size
    have K4 : Keep [] W w4 := K3.trans k4 (fun x hx => .inr (by simp at hx; omega))
    clear K3 k2 k4 hU hvmf hr0f hu0f hbv1 hbv2
    have HSI := Lib.hid (fun w' (k : Keep [] w4 w') => sameints_c w' _ vm zs ((ha.keep K4 (by simp)).keep k (by simp)) (hvm.keep k (by simp)))
    have hle2 : ¬ ((zs.length : Int) + 1 < pl.length) := by omega
    obtain ⟨am, cm, rfl, _⟩ := hvm.sh
    go_wp2_with fail
    refine (HSI.out _ (Keep.refl _ _)).mono ?_; rintro e w5 ⟨rfl, n5, rfl⟩
    have K5 := K4.drewN n5
    generalize w4.drewN n5 = w5 at K5 ⊢
    clear HSI hvm K4
    go_wp2_with fail
    refine (sf_codes w5 _ zs (ha.keep K5 (by simp))).mono ?_; rintro e w6 ⟨cv, rfl, hcd, k6, hcf, _⟩
    have K6 := K5.trans k6 (by simp)
    go_wp2_with fail
    refine (sf_new w6 _ zs (ha.keep K6 (by simp))).mono ?_; rintro e w7 ⟨p, rfl, k7, hp0, hp1⟩
    have K7 := K6.trans k7 (by simp)
    have hcd7 := hcd.keep k7 (by simp)
    clear hcd k6 k7 K5 K6 hcf
    by_cases hw : schk zs = 0
    · obtain ⟨d, bs, rfl, hd, hbs⟩ := hp1 hw
      have hf := (schk_ok hw).2
      have hLw : Ls zs = Ln zs := by unfold Ls; rw [if_pos hw]
      rw [hLw] at hcd7
      rw [hw]
      have h16 : ∀ k, k < (Ln zs).length → len (Ln zs) k ≤ 16 := fun k hk => (mayS_get hm k (by omega)).2.2
      have H16 : Hid (∀ k, len (Ln zs) k ≤ 16) := fun k => by
        rcases Nat.lt_or_ge k (Ln zs).length with h | h
        · exact h16 k h
        · rw [len_ge _ _ h]; omega
      have hdlt := hd.lt
      have hclt := hcd7.lt hne
      have HY : Hid (∀ w' (k : Keep [] W w') i (hi : i < ys.length), ∃ b off cap, vy = .slice (some ⟨b, off, none⟩) ys.length cap ∧ w'.cell? ⟨b, off + i, none⟩ = some (.int .i64 ys[i])) := fun w' k i hi => (hy.keep k (by simp)).at i hi
      obtain ⟨ay, capy, rfl, _⟩ := hy.sh
      have hn0 : 0 < (Ln zs).length := by omega
      have hn256 : (Ln zs).length ≤ 256 := by omega
      rw [← hN] at hz60 hle2 ⊢
      generalize hps : (ys.map fun y => sel (Ln zs).length y) = ps
      have hpsl : ps.length = ys.length := by rw [← hps]; simp
      have hpsg : Hid (∀ i (h : i < ys.length) (h' : i < ps.length), ps[i] = sel (Ln zs).length ys[i]) := by intro i h h'; subst hps; simp
      have hpo : Hid (∀ s ∈ ps, s < (Ln zs).length) := by
        intro s hs
        rw [← hps] at hs
        simp only [List.mem_map] at hs
        obtain ⟨y, _, rfl⟩ := hs
        exact sel_lt _ _ hn0
      generalize Ln zs = L at *
      have HNX := Lib.hid (fun l j hj => back_nextS L ps l j hj h16 hf hpo.out)
      have HWL := Lib.hid (fun ps => wbS_len L ps H16.out)
      have HAT := Lib.hid (fun j (hj : j < ps.length) => wbS_at L ps j hj)
      clear hp0 hp1 hw hm hf h16 hx16 hLw hbs ha hy hps hmi hne
      obtain ⟨ac, capc, rfl, _⟩ := hcd7.shape
      have q0 : ((L.length : Int) == 0) = false := by rw [beq_eq_false_iff_ne]; omega
      have q1 : ((L.length : Int) != (zs.length : Int)) = false := by simp; omega
      have HD := Lib.hid hdlt
      have HCL := Lib.hid hclt
      have HNN := Lib.hid hN
      clear hdlt hclt hN ha3
      go_wp2_with fail
      refine (new_c w7).mono ?_; rintro e w8 ⟨r, rfl, hr, k8, hr2⟩
      have hB : BackS W w8 w7.heap.size r d (.slice none 0 0) (.slice ac L.length capc) bs L (ps.take 0) :=
        ⟨hr, hd.keep k8 (by simp), hcd7.keep k8 (by simp), K7.trans k8 (by simp), by simp [Value.ownBlock]⟩
      have hWT : W.heap.size ≤ w7.heap.size := K7.size
      clear hr k8 hd hcd7 K7
      generalize w7.heap.size = T at *
      go_wp2_with fail
      go_loopw [12] (fun i wr => ∃ (k : Nat) (v : Value), k ≤ ys.length ∧ i = .int .i64 k ∧ BackS W wr T r d v (.slice ac L.length capc) bs L (ps.take k)) (fun i _ => ys.length - (intOf i).toNat)
      case atStart => exact ⟨0, _, by omega, rfl, hB⟩
      case round =>
        clear hB
        obtain ⟨k, v, hk, rfl, HB⟩ := hrel
        by_cases hlt : k < ys.length
        · obtain ⟨b, off, cap, hv, e0⟩ := HY.out _ HB.2.2.2.1 k hlt
          simp only [Value.slice.injEq] at hv
          obtain ⟨h1, hv2, rfl⟩ := hv
          clear hv2
          subst h1
          have hkp : k < ps.length := by omega
          have hsk := hpsg.out k hlt hkp
          have hsl := hpo.out _ (List.getElem_mem hkp)
          have HSI := Lib.hid (sel_int L.length ys[k] hn0)
          rw [← hsk] at HSI
          have HTK : Hid (wbS L (ps.take (k + 1)) = wbS L (ps.take k) ++ bitsOf (scode L ps[k]) (len L ps[k])) := by
            unfold Hid; rw [List.take_succ_eq_append_getElem hkp, wbS_snoc]
          have hls := HWL.out (ps.take k)
          have hlk : (ps.take k).length ≤ k := by rw [List.length_take]; omega
          obtain ⟨b2, off2, cap2, hv, f0, f1⟩ := HB.2.2.1.at ps[k] hsl
          simp only [Value.slice.injEq] at hv
          obtain ⟨h1, hv2, rfl⟩ := hv
          clear hv2
          subst h1
          have hl16 := H16.out ps[k]
          have hcw : scode L ps[k] < 4294967296 := Nat.lt_trans (scode_lt16 L _ hl16) (by decide)
          obtain ⟨B1, B2, B3, B4, B5⟩ := HB
          have hcln : cln ((len L ps[k] : Nat) : Int) = len L ps[k] := by unfold cln; rw [show (max 0 (min ((len L ps[k] : Nat) : Int) 32)).toNat = len L ps[k] by omega]
          have hput := fun w' (B1' : Wr w' r v (wbS L (ps.take k))) => wput_c w' r v (wbS L (ps.take k)) (scode L ps[k]) ((len L ps[k] : Nat) : Int) hcw B1' (by omega)
          rw [hcln, ← HTK.out] at hput
          have HPUT := Lib.hid hput
          have HWI := Lib.hid (fun w => within_c ys[k] 0 ((L.length : Int) - 1) w (by omega))
          rw [HSI.out] at HWI
          clear hput hcln hsk hls hcw HTK HSI hl16
          generalize hcd : scode L ps[k] = cd at *
          generalize hnn : len L ps[k] = n at *
          generalize hss : ps[k] = s at *
          generalize hzz : ys[k] = z at *
          clear hcd hnn hss hzz
          go_wp2_with fail
          refine (HWI.out _).mono ?_; rintro e w9 ⟨rfl, rfl⟩
          have kA : Keep [] wr (wr.alloc (.cells #[.int .u32 cd, .int .i64 n] 61)) := (Keep.refl [] _).alloc _
          have C1 := B1.keep kA (by simp) (by simp)
          have C2 := B2.keep kA (by simp)
          have C3 := B3.keep kA (by simp)
          have C4 := B4.trans kA (by simp)
          go_wp2_with fail
          refine (HPUT.out _ C1).mono ?_; rintro e w6 ⟨v6, rfl, D1, k6, hv6⟩
          generalize wr.alloc (.cells #[.int .u32 cd, .int .i64 n] 61) = w5 at C1 C2 C3 C4 k6 hv6
          have hsz := C4.size
          have D2 := C2.keep k6 (fun b hb => by
            have h := HD.out b hb
            simp only [List.mem_cons, Option.mem_toList]
            rintro (h' | h')
            · omega
            · have := B5 b h'; omega)
          have D3 := C3.keep k6 (fun b hb => by
            have h := HCL.out b hb
            simp only [List.mem_cons, Option.mem_toList]
            rintro (h' | h')
            · omega
            · have := B5 b h'; omega)
          have D4 := C4.trans k6 (fun b hb => by
            simp only [List.mem_cons, Option.mem_toList] at hb
            rcases hb with h' | h'
            · right; omega
            · right; have := B5 b h'; omega)
          have D5 : ∀ b, v6.ownBlock = some b → T ≤ b := fun b hb => by
            rcases hv6 b hb with h | h
            · exact B5 b h
            · obtain ⟨_, _, _, hW, _⟩ := C1; have := hW.1.lt; omega
          have HB6 : BackS W w6 T r d v6 (.slice (some ⟨b2, off2, none⟩) L.length capc) bs L (ps.take (k + 1)) := ⟨D1, D2, D3, D4, D5⟩
          clear C1 C2 C3 C4 D1 D2 D3 D4 D5 k6 hv6 B1 B2 B3 B4 B5 f0 f1 e0 kA HPUT HWI
          go_wp2_with fail
          go_roundw
          case rel => exact ⟨k + 1, v6, by omega, by go_num, HB6⟩
          case measure => simp [intOf]; omega
        · obtain rfl : k = ys.length := by omega
          obtain ⟨B1, B2, B3, B4, B5⟩ := HB
          rw [List.take_of_length_le (by omega)] at B1
          have hls := HWL.out ps
          have hbl : (wbS L ps).length ≤ 1125899906842000 := by omega
          go_wp2_with fail
          refine (wbytes_c _ _ _ _ B1 hbl).mono ?_; rintro e w5 ⟨vo, lo, rfl, ho, hbits, k5, hof⟩
          have C1 := B1.keep k5 (by simp) (by simp)
          have C2 := B2.keep k5 (by simp)
          have C5 := B4.trans k5 (by simp)
          obtain ⟨hrlt, hvlt⟩ : r < w5.heap.size ∧ ∀ b, v.ownBlock = some b → b < w5.heap.size := by
            obtain ⟨_, _, _, hW, _⟩ := C1
            exact ⟨hW.1.lt, fun b hb => hW.2.1.lt b hb⟩
          have hlo : lo.length ≤ 140737488355328 := by
            have h := congrArg List.length hbits
            rw [toBits_length] at h
            simp [pad8] at h
            omega
          have HNJ := Lib.hid (fun j hj => HNX.out lo j hj hbits)
          have hdlt := C2.lt
          clear B1 B2 B3 B4 B5 k5 hof hbits
          go_wp2_with fail
          refine (open_c w5 vo lo hlo ho.bs).mono ?_; rintro e w6 ⟨r2, v2, rfl, D0, k6, hr6, hv6⟩
          have D1 := C1.keep k6 (by simp) (by simp)
          have D3 := C2.keep k6 (by simp)
          have D5 := C5.trans k6 (by simp)
          have hrr : r ≠ r2 := by omega
          have hW5 : W.heap.size ≤ r2 := by have := C5.size; omega
          have hr2b : Hid (r2 ∉ bs) := fun h => by have := hdlt r2 h; omega
          have hr2v : Hid (∀ b, v.ownBlock = some b → b ≠ r2) := fun b hb => by have := hvlt b hb; omega
          clear C1 C2 C5 hrlt hvlt k6 hr6 hv6 ho hdlt
          go_wp2_with fail
          go_loopw [15] (fun i wr => ∃ j : Nat, j ≤ ys.length ∧ i = .int .i64 j ∧ Rd wr r2 v2 ⟨lo, (wbS L (ps.take j)).length, true, 0⟩ ∧ Wr wr r v (wbS L ps) ∧ Dec6 wr d bs L ∧ Keep [] W wr) (fun i _ => ys.length - (intOf i).toNat)
          case atStart => exact ⟨0, by omega, rfl, D0, D1, D3, D5⟩
          case round =>
            clear D0 D1 D3 D5
            obtain ⟨j, hj, rfl, D0, D1, D3, D5⟩ := hrel
            by_cases hltj : j < ys.length
            · have hkp : j < ps.length := by omega
              have hsk := hpsg.out j hltj hkp
              have hnx := sf_next _ d r2 v2 _ bs L D3 D0 hr2b.out
              rw [HNJ.out j hkp] at hnx
              have HX := Lib.hid hnx
              have HSI := Lib.hid (sel_int L.length ys[j] hn0)
              rw [← hsk] at HSI
              have HWI := Lib.hid (fun w => within_c ys[j] 0 ((L.length : Int) - 1) w (by omega))
              rw [HSI.out] at HWI
              clear hnx D0 hsk HSI
              go_wp2_with fail
              refine HX.out.mono ?_; rintro e w7 ⟨rfl, E0, k7⟩
              have E1 := D1.keep k7 (by simpa using hrr) (fun b hb => by simpa using hr2v.out b hb)
              have E3 := D3.keep k7 (fun b hb => by simp; intro e; subst e; exact hr2b.out hb)
              have E5 := D5.trans k7 (by simpa using hW5)
              clear D1 D3 D5 k7 HX
              obtain ⟨b, off, cap, hv, e0⟩ := HY.out _ E5 j hltj
              simp only [Value.slice.injEq] at hv
              obtain ⟨h1, h2, rfl⟩ := hv
              clear h2
              subst h1
              generalize ys[j] = z at *
              generalize ps[j] = s at *
              go_wp2_with fail
              refine (HWI.out _).mono ?_; rintro e w8 ⟨rfl, rfl⟩
              go_wp2_with fail
              go_roundw
              case rel => exact ⟨j + 1, by omega, by go_num, E0, E1, E3, E5⟩
              case measure => simp [intOf]; omega
            · obtain rfl : j = ys.length := by omega
              rw [List.take_of_length_le (by omega)] at D0
              clear D3
              go_wp2_with fail
              refine (read_c _ _ _ _ D0).mono ?_; rintro e w7 ⟨rfl, rfl⟩
              go_wp2_with fail
              refine (wlen_c _ _ _ _ D1 (by omega)).mono ?_; rintro e w8 ⟨rfl, n8, rfl⟩
              generalize (wbS L ps).length = bl at *
              go_wp2_with fail
              refine (lives6_c _).mono ?_; rintro e w12 ⟨rfl, k12⟩
              go_wp2_with fail
              go_ret
              exact ⟨rfl, (D5.drewN n8).trans k12 (by simp)⟩
    · obtain rfl := hp0 hw
      have hb : (((schk zs : Nat) : Int) != 0) = true := by simp; omega
      have hb2 : (((schk zs : Nat) : Int) == (schk zs : Nat)) = true := by simp
      clear hp0 hp1 hcd7
      generalize schk zs = er at hb hb2 ⊢
      go_wp2_with fail
      refine (lives6_c _).mono ?_; rintro e w12 ⟨rfl, k12⟩
      go_wp2_with fail
      go_ret
      exact ⟨rfl, K7.trans k12 (by simp)⟩
end Go.Proofs.Ytblogjpoijfpbaa
