/- Texts put together: InfMath6 InfHas -/
import Derived.Test.YtokfcgloogdeiaaGreatDoorPart14
import Derived.Test.YtokfcgloogdeiaaGreatDoorPart16
import Derived.Test.YtokfcgloogdeiaaGreatDoorPart12
namespace Go.Proofs.YtokfcgloogdeiaaGreatDoor
set_option linter.unusedVariables false
set_option linter.unusedSimpArgs false

/-- a piece: a block that is written -/
structure Pc where
  kind : Int
  bytes : List UInt8
  toks : List Tk
  lit : List Int
  dist : List Int
def Pc.LL (p : Pc) : List Nat := if p.kind = 2 then Lw p.lit else Ln fixL
def Pc.LD (p : Pc) : List Nat := if p.kind = 2 then Lw p.dist else Ln fixD
def kindB (k : Int) : Nat := (max 0 (min k 3)).toNat
/-- a block's three bits -/
def hdB (last : Bool) (bits : List Bool) (p : Pc) : List Bool := (bits ++ bitsOf (if last then 1 else 0) 1) ++ bitsOf (kindB p.kind) 2
def plB (lit dist : List Int) : List Bool := wb17 lit.length dist.length 19 plT (plTs (lit.map clz) ++ plTs (dist.map clz))
/-- the bits with a piece behind them -/
def pcB (large last : Bool) (bits : List Bool) (p : Pc) : List Bool :=
  if p.kind ≤ 0 then ((pad8 (hdB last bits p) ++ bitsOf p.bytes.length 16) ++ bitsOf (65535 - p.bytes.length) 16) ++ b8 p.bytes
  else if 2 < p.kind then hdB last bits p
  else (if p.kind = 2 then hdB last bits p ++ plB p.lit p.dist else hdB last bits p) ++ (p.toks.flatMap (tokB large p.LL p.LD) ++ wordB p.LL 256)
def wrP (large : Bool) : List Bool → List Pc → List Bool
  | bits, [] => bits
  | bits, p :: ps => wrP large (pcB large ps.isEmpty bits p) ps
theorem pcB_ext (large last : Bool) (bits : List Bool) (p : Pc) : ∃ r, pcB large last bits p = bits ++ r ∧ 3 ≤ r.length := by
  have h1 : ∃ r, hdB last bits p = bits ++ r ∧ r.length = 3 := ⟨_, by unfold hdB; rw [List.append_assoc], by simp [bitsOf_length]⟩
  obtain ⟨r, h1, hr⟩ := h1
  unfold pcB
  by_cases h2 : p.kind ≤ 0
  · rw [if_pos h2]
    unfold pad8
    rw [h1]
    simp only [List.append_assoc]
    exact ⟨_, rfl, by simp only [List.length_append]; omega⟩
  · rw [if_neg h2]
    by_cases h3 : 2 < p.kind
    · rw [if_pos h3, h1]; exact ⟨r, rfl, by omega⟩
    · rw [if_neg h3]
      by_cases h4 : p.kind = 2
      · rw [if_pos h4, h1]; simp only [List.append_assoc]; exact ⟨_, rfl, by simp only [List.length_append]; omega⟩
      · rw [if_neg h4, h1]; simp only [List.append_assoc]; exact ⟨_, rfl, by simp only [List.length_append]; omega⟩
theorem wrP_ext (large : Bool) (bits : List Bool) (ps : List Pc) : ∃ r, wrP large bits ps = bits ++ r ∧ 3 * ps.length ≤ r.length := by
  induction ps generalizing bits with
  | nil => exact ⟨[], by simp [wrP], by simp⟩
  | cons p ps ih =>
    obtain ⟨r1, h1, l1⟩ := pcB_ext large ps.isEmpty bits p
    obtain ⟨r2, h2, l2⟩ := ih (pcB large ps.isEmpty bits p)
    rw [wrP, h2, h1]
    exact ⟨r1 ++ r2, by rw [List.append_assoc], by rw [List.length_append, List.length_cons]; omega⟩
/-- the tokens of a piece, its steps -/
def tkP (p : Pc) : List Tk := if p.kind = 0 then litT p.bytes else p.toks
def stP (p : Pc) : Nat := if p.kind = 0 then 1 + p.bytes.length else p.toks.length + 2
/-- a piece that may be told -/
structure okP (large : Bool) (p : Pc) : Prop where
  k0 : 0 ≤ p.kind
  k2 : p.kind ≤ 2
  bl : p.bytes.length ≤ 65535
  right : p.kind = 2 → right17 p.lit p.dist large = true
  has : p.kind ≠ 0 → ∀ t ∈ p.toks, hasT large p.LL p.LD t
theorem align_pad (L : List UInt8) (hd post : List Bool) (h : toBits L = pad8 hd ++ post) : (⟨L, hd.length, true, 0⟩ : RS).align = ⟨L, (pad8 hd).length, true, 0⟩ := by
  have hl := congrArg List.length h
  rw [toBits_length, List.length_append, pad8_length] at hl
  have hE : (⟨L, hd.length, true, 0⟩ : RS).E = 0 := rfl
  unfold RS.align RS.left
  rw [if_pos hE, pad8_length]
  dsimp only
  congr 1
  omega
theorem head_at (L : List UInt8) (last : Bool) (bits post : List Bool) (p : Pc) (h : toBits L = hdB last bits p ++ post) : head18 ⟨L, bits.length, true, 0⟩ = (last, kindB p.kind, ⟨L, (hdB last bits p).length, true, 0⟩) := by
  unfold hdB at h ⊢
  have hk : kindB p.kind < 2 ^ 2 := by unfold kindB; omega
  have b1 := bits_at L bits (bitsOf (kindB p.kind) 2 ++ post) (if last then 1 else 0) 1 (by rw [h]; simp [List.append_assoc]) (by decide) (by split <;> decide)
  have b2 := bits_at L (bits ++ bitsOf (if last then 1 else 0) 1) post (kindB p.kind) 2 h (by decide) hk
  have e1 : ((1 : Nat) : Int) = 1 := rfl
  have e2 : ((2 : Nat) : Int) = 2 := rfl
  rw [e1] at b1
  rw [e2] at b2
  unfold head18
  rw [b1]
  dsimp only
  rw [b2]
  cases last <;> rfl
theorem right_vals {l d : List Int} {large : Bool} (h : right17 l d large = true) : (∀ z ∈ l, 0 ≤ z ∧ z ≤ 15) ∧ (∀ z ∈ d, 0 ≤ z ∧ z ≤ 15) ∧ 0 < l.getD 256 0 := by
  unfold right17 whole17 at h
  simp only [Bool.and_eq_true, List.all_eq_true, decide_eq_true_eq] at h
  obtain ⟨_, a, ⟨b, _⟩, c, _⟩ := h
  exact ⟨b, c, a⟩
/-- two lists that are right, written plainly, are read as they were -/
theorem plain_at (L : List UInt8) (l d : List Int) (large : Bool) (h : right17 l d large = true) (pre post : List Bool) (hL : toBits L = (pre ++ plB l d) ++ post) : rd17 ⟨L, pre.length, true, 0⟩ large = (l, d, 0, ⟨L, (pre ++ plB l d).length, true, 0⟩) := by
  obtain ⟨a1, a2, _⟩ := right_vals h
  obtain ⟨_, _, g1, g2, g3, g4⟩ := right_werr h
  unfold plB at hL ⊢
  rw [map_clz a1, map_clz a2] at hL ⊢
  have hts : ∀ t ∈ plTs l ++ plTs d, t.ok (Ln plT) := fun t ht => by
    rcases List.mem_append.1 ht with h | h
    · exact plTs_ok l a1 t h
    · exact plTs_ok d a2 t h
  have hh : ∀ t, (plTs l ++ plTs d).head? = some t → t.sym ≠ 16 := fun t ht => by
    have hne : plTs l ≠ [] := by intro e; have := congrArg List.length e; simp [plTs] at this; rw [this] at g1; simp at g1
    rw [List.head?_append, Option.or_of_isSome (by simpa using hne)] at ht
    exact plTs_head l a1 t ht
  have hexp : exp17 [] (plTs l ++ plTs d) = l ++ d := by
    have e : plTs l ++ plTs d = plTs (l ++ d) := by unfold plTs; rw [List.map_append]
    rw [e, plTs_exp [] (l ++ d) (fun z hz => by
      rcases List.mem_append.1 hz with h | h
      · exact a1 z h
      · exact a2 z h)]; rfl
  have := rd17_at L large l.length d.length 19 plT (plTs l ++ plTs d) l d plT_third (by omega) (by omega) hts hh hexp rfl rfl pre post hL
  rw [this, if_neg, h, if_neg (by simp)]
  unfold right17 at h
  simp only [Bool.and_eq_true, decide_eq_true_eq] at h
  obtain ⟨⟨_, h3, _, h4⟩, _⟩ := h
  rintro (g | ⟨g, e⟩)
  · omega
  · rw [e] at h4; simp at h4; omega
theorem len_Ln (l : List Int) (i : Nat) (h : i < l.length) : len (Ln l) i = (l.getD i 0).toNat := by
  unfold len Ln
  rw [List.getD_eq_getElem?_getD, List.getD_eq_getElem?_getD, List.getElem?_map, List.getElem?_eq_getElem h]; rfl
theorem okP.codes {large : Bool} {p : Pc} (h : okP large p) (h0 : p.kind ≠ 0) : (∀ x ∈ p.LL, x ≤ 16) ∧ wt p.LL ≤ 65536 ∧ (∀ x ∈ p.LD, x ≤ 16) ∧ wt p.LD ≤ 65536 ∧ (256 < p.LL.length ∧ 0 < len p.LL 256) := by
  unfold Pc.LL Pc.LD
  by_cases h2 : p.kind = 2
  · rw [if_pos h2, if_pos h2]
    obtain ⟨⟨a, b⟩, ⟨c, d⟩, e, _⟩ := right_werr (h.right h2)
    obtain ⟨_, _, f⟩ := right_vals (h.right h2)
    unfold Lw
    rw [if_pos a, if_pos c]
    refine ⟨b, (werr_ok a).2, d, (werr_ok c).2, by rw [Ln_length]; omega, ?_⟩
    rw [len_Ln _ _ (by omega)]; omega
  · rw [if_neg h2, if_neg h2]
    obtain ⟨⟨a, b⟩, c, d⟩ := fix_werr
    refine ⟨b, (werr_ok a).2, d, (werr_ok c).2, by decide +kernel⟩
theorem tokB_pos {large : Bool} {LL LD : List Nat} {t : Tk} (h : hasT large LL LD t) : 1 ≤ (tokB large LL LD t).length := by
  unfold tokB
  by_cases h0 : t.len = 0
  · rw [if_pos h0]
    obtain ⟨a, b⟩ := h.1 h0
    unfold wordB; rw [if_pos a, bitsOf_length]; exact b
  · rw [if_neg h0]
    obtain ⟨_, _, a, _, b, _⟩ := h.2 h0
    simp only [List.length_append]
    unfold wordB; rw [if_pos a, bitsOf_length]; omega
theorem toksB_len {large : Bool} {LL LD : List Nat} (ts : List Tk) (h : ∀ t ∈ ts, hasT large LL LD t) : ts.length ≤ (ts.flatMap (tokB large LL LD)).length := by
  induction ts with
  | nil => simp
  | cons t ts ih =>
    rw [List.flatMap_cons, List.length_append, List.length_cons]
    have := ih (fun x hx => h x (by simp [hx]))
    have := tokB_pos (h t (by simp))
    omega
/-- a piece is told as it tells -/
theorem block_at (L : List UInt8) (large last : Bool) (p : Pc) (hp : okP large p) (o : HS) (n : Nat) (bits post : List Bool) (h : toBits L = pcB large last bits p ++ post) :
    ((tellT o (tkP p)).1 = 0 → block18 large (8 * L.length + 1) ⟨⟨L, bits.length, true, 0⟩, o, n⟩ = (last, 0, ⟨⟨L, (pcB large last bits p).length, true, 0⟩, (tellT o (tkP p)).2, n + stP p⟩)) ∧
    ((tellT o (tkP p)).1 ≠ 0 → (block18 large (8 * L.length + 1) ⟨⟨L, bits.length, true, 0⟩, o, n⟩).2.1 = (tellT o (tkP p)).1) := by
  have hE : ∀ k, (⟨L, k, true, 0⟩ : RS).E = 0 := fun k => rfl
  have k0 := hp.k0
  have k2 := hp.k2
  have hlen := congrArg List.length h
  rw [toBits_length, List.length_append] at hlen
  unfold pcB at h hlen ⊢
  unfold tkP stP
  by_cases hk : p.kind = 0
  · rw [if_pos (show p.kind ≤ 0 by omega)] at h ⊢
    rw [if_pos hk, if_pos hk]
    have hkb : kindB p.kind = 0 := by rw [hk]; rfl
    have hh := head_at L last bits (List.replicate ((8 - (hdB last bits p).length % 8) % 8) false ++ (bitsOf p.bytes.length 16 ++ (bitsOf (65535 - p.bytes.length) 16 ++ (b8 p.bytes ++ post)))) p (by rw [h]; unfold pad8; simp only [List.append_assoc])
    have hal := align_pad L (hdB last bits p) (bitsOf p.bytes.length 16 ++ (bitsOf (65535 - p.bytes.length) 16 ++ (b8 p.bytes ++ post))) (by rw [h]; simp only [List.append_assoc])
    have b1 := bits_at L (pad8 (hdB last bits p)) (bitsOf (65535 - p.bytes.length) 16 ++ (b8 p.bytes ++ post)) p.bytes.length 16 (by rw [h]; simp only [List.append_assoc]) (by decide) (by have := hp.bl; omega)
    have b2 := bits_at L (pad8 (hdB last bits p) ++ bitsOf p.bytes.length 16) (b8 p.bytes ++ post) (65535 - p.bytes.length) 16 (by rw [h]; simp only [List.append_assoc]) (by decide) (by have := hp.bl; omega)
    have e16 : ((16 : Nat) : Int) = 16 := rfl
    rw [e16] at b1 b2
    have hpl := plL_at L p.bytes o (n + 1) ((pad8 (hdB last bits p) ++ bitsOf p.bytes.length 16) ++ bitsOf (65535 - p.bytes.length) 16) post h
    have hb : block18 large (8 * L.length + 1) ⟨⟨L, bits.length, true, 0⟩, o, n⟩ = (last, plL p.bytes.length ⟨⟨L, ((pad8 (hdB last bits p) ++ bitsOf p.bytes.length 16) ++ bitsOf (65535 - p.bytes.length) 16).length, true, 0⟩, o, n + 1⟩) := by
      unfold block18
      dsimp only
      rw [hh, hkb]
      dsimp only
      rw [if_neg (by rw [hE]; simp), if_pos rfl]
      unfold plain18
      dsimp only
      rw [hal, b1]
      dsimp only
      rw [b2]
      dsimp only
      rw [if_neg (by rw [hE]; simp), if_neg (by have := hp.bl; omega)]
    refine ⟨fun h0 => ?_, fun h0 => ?_⟩
    · rw [hb, hpl.1 h0, show n + 1 + p.bytes.length = n + (1 + p.bytes.length) by omega]
    · rw [hb]; exact hpl.2 h0
  · rw [if_neg (show ¬ p.kind ≤ 0 by omega), if_neg (show ¬ 2 < p.kind by omega)] at h hlen ⊢
    rw [if_neg hk, if_neg hk]
    obtain ⟨c1, c2, c3, c4, c5⟩ := hp.codes hk
    have hts := hp.has hk
    have htl := toksB_len p.toks hts
    obtain ⟨pre, hpre⟩ : ∃ pre, (if p.kind = 2 then hdB last bits p ++ plB p.lit p.dist else hdB last bits p) = pre := ⟨_, rfl⟩
    rw [hpre] at h hlen ⊢
    have hF : p.toks.length < 8 * L.length + 1 := by
      simp only [List.length_append] at hlen
      omega
    have hw := words_at c1 c2 c3 c4 c5 p.toks hts (8 * L.length + 1) hF o (n + 1) pre post h
    have hkb : kindB p.kind = p.kind.toNat := by unfold kindB; omega
    have hb : block18 large (8 * L.length + 1) ⟨⟨L, bits.length, true, 0⟩, o, n⟩ = (last, words18 large p.LL p.LD (8 * L.length + 1) ⟨⟨L, pre.length, true, 0⟩, o, n + 1⟩) := by
      by_cases h2 : p.kind = 2
      · rw [if_pos h2] at hpre
        have hh := head_at L last bits (plB p.lit p.dist ++ ((p.toks.flatMap (tokB large p.LL p.LD) ++ wordB p.LL 256) ++ post)) p (by rw [h, ← hpre]; simp only [List.append_assoc])
        have hr := plain_at L p.lit p.dist large (hp.right h2) (hdB last bits p) ((p.toks.flatMap (tokB large p.LL p.LD) ++ wordB p.LL 256) ++ post) (by rw [h, ← hpre]; simp only [List.append_assoc])
        have hk2 : kindB p.kind = 2 := by rw [h2]; rfl
        obtain ⟨⟨w1, _⟩, ⟨w2, _⟩, _⟩ := right_werr (hp.right h2)
        have hl1 : p.LL = Ln p.lit := by unfold Pc.LL Lw; rw [if_pos h2, if_pos w1]
        have hl2 : p.LD = Ln p.dist := by unfold Pc.LD Lw; rw [if_pos h2, if_pos w2]
        unfold block18
        dsimp only
        rw [hh, hk2]
        dsimp only
        rw [if_neg (by rw [hE]; simp), if_neg (by decide), if_neg (by decide)]
        unfold codes18
        rw [if_pos rfl, hr]
        dsimp only
        rw [if_neg (by simp), hl1, hl2, hpre]
      · rw [if_neg h2] at hpre
        have hh := head_at L last bits ((p.toks.flatMap (tokB large p.LL p.LD) ++ wordB p.LL 256) ++ post) p (by rw [h, ← hpre]; simp only [List.append_assoc])
        have hk1 : kindB p.kind = 1 := by rw [show p.kind = 1 by omega]; rfl
        have hl1 : p.LL = Ln fixL := by unfold Pc.LL; rw [if_neg h2]
        have hl2 : p.LD = Ln fixD := by unfold Pc.LD; rw [if_neg h2]
        unfold block18
        dsimp only
        rw [hh, hk1]
        dsimp only
        rw [if_neg (show ¬ ((⟨L, (hdB last bits p).length, true, 0⟩ : RS).E ≠ 0) by rw [hE]; simp), if_neg (show ¬ ((1 : Nat) = 0) by decide), if_neg (show ¬ ((1 : Nat) = 3) by decide)]
        unfold codes18
        rw [if_neg (show ¬ ((1 : Nat) = 2) by decide)]
        dsimp only
        rw [if_neg (by simp), hl1, hl2, hpre]
    refine ⟨fun h0 => ?_, fun h0 => ?_⟩
    · rw [hb, hw.1 h0, show n + 1 + p.toks.length + 1 = n + (p.toks.length + 2) by omega]
    · rw [hb]; exact hw.2 h0
/-- pieces are told as they tell, one behind the other -/
theorem blocks_at (L : List UInt8) (large : Bool) (ps : List Pc) (hne : ps ≠ []) (hps : ∀ p ∈ ps, okP large p) (F : Nat) (hF : ps.length ≤ F) (o : HS) (n : Nat) (bits post : List Bool) (h : toBits L = wrP large bits ps ++ post) :
    ((tellT o (ps.flatMap tkP)).1 = 0 → blocks18 large (8 * L.length + 1) F ⟨⟨L, bits.length, true, 0⟩, o, n⟩ = (0, ⟨⟨L, (wrP large bits ps).length, true, 0⟩, (tellT o (ps.flatMap tkP)).2, n + (ps.map stP).sum⟩)) ∧
    ((tellT o (ps.flatMap tkP)).1 ≠ 0 → (blocks18 large (8 * L.length + 1) F ⟨⟨L, bits.length, true, 0⟩, o, n⟩).1 = (tellT o (ps.flatMap tkP)).1) := by
  induction ps generalizing F o n bits with
  | nil => exact absurd rfl hne
  | cons p ps ih =>
    obtain ⟨F, rfl⟩ : ∃ G, F = G + 1 := ⟨F - 1, by simp at hF; omega⟩
    rw [wrP] at h ⊢
    obtain ⟨r, hr, _⟩ := wrP_ext large (pcB large ps.isEmpty bits p) ps
    have hb := block_at L large ps.isEmpty p (hps p (by simp)) o n bits (r ++ post) (by rw [h, hr, List.append_assoc])
    rw [List.flatMap_cons, tellT_append, blocks18]
    by_cases hz : (tellT o (tkP p)).1 = 0
    · rw [if_pos hz, hb.1 hz]
      dsimp only
      rw [if_neg (show ¬ ((0 : Nat) ≠ 0) by simp)]
      cases ps with
      | nil =>
        rw [if_pos (show ([] : List Pc).isEmpty = true from rfl)]
        rw [wrP, List.flatMap_nil, tellT]
        refine ⟨fun _ => ?_, fun h => absurd rfl h⟩
        simp
      | cons p2 ps =>
        rw [if_neg (show ¬ ((p2 :: ps).isEmpty = true) by simp)]
        have := ih (by simp) (fun x hx => hps x (by simp [hx])) F (by simp at hF ⊢; omega) (tellT o (tkP p)).2 (n + stP p) (pcB large (p2 :: ps).isEmpty bits p) h
        refine ⟨fun h0 => ?_, fun h0 => this.2 h0⟩
        rw [this.1 h0]
        simp only [List.map_cons, List.sum_cons, Nat.add_assoc]
    · rw [if_neg hz, if_pos (by rw [hb.2 hz]; exact hz)]
      exact ⟨fun h0 => absurd h0 hz, fun _ => hb.2 hz⟩
/-- what pieces tell -/
theorem dec18_pieces (large : Bool) (ps : List Pc) (hne : ps ≠ []) (hps : ∀ p ∈ ps, okP large p) (size : Nat) (o : HS) (ho : o = ⟨win18 large, size, false, []⟩) :
    ((tellT o (ps.flatMap tkP)).1 = 0 → (tellT o (ps.flatMap tkP)).2.b.length = size → dec18 (ofBits (wrP large [] ps)) large size = ((tellT o (ps.flatMap tkP)).2.b, (ps.map stP).sum, 0)) ∧
    ((tellT o (ps.flatMap tkP)).1 ≠ 0 → dec18 (ofBits (wrP large [] ps)) large size = ([], 0, (tellT o (ps.flatMap tkP)).1)) := by
  subst ho
  obtain ⟨post, hpost, hpl⟩ := pad8_append (wrP large [] ps)
  have ht : toBits (ofBits (wrP large [] ps)) = wrP large [] ps ++ post := by rw [toBits_ofBits, hpost]
  have hl := congrArg List.length ht
  rw [toBits_length, List.length_append] at hl
  obtain ⟨r, hr, hrl⟩ := wrP_ext large [] ps
  have hrl2 : 3 * ps.length ≤ (wrP large [] ps).length := by rw [hr]; simpa using hrl
  have hb := blocks_at (ofBits (wrP large [] ps)) large ps hne hps (8 * (ofBits (wrP large [] ps)).length + 1) (by omega) ⟨win18 large, size, false, []⟩ 0 [] post ht
  rw [List.length_nil] at hb
  generalize tellT ⟨win18 large, size, false, []⟩ (ps.flatMap tkP) = E at hb ⊢
  unfold dec18
  rw [if_neg (by omega), Int.toNat_natCast]
  refine ⟨fun h0 hs => ?_, fun h0 => ?_⟩
  · have hrun : run18 (ofBits (wrP large [] ps)) large size = _ := hb.1 h0
    rw [hrun]
    dsimp only
    rw [if_neg (show ¬ ((0 : Nat) ≠ 0) by simp), if_neg (by simpa using hs), if_neg (by
      unfold RS.left
      rw [if_pos (show (⟨ofBits (wrP large [] ps), (wrP large [] ps).length, true, 0⟩ : RS).E = 0 from rfl)]
      dsimp only
      omega), Nat.zero_add]
  · have hrun : (run18 (ofBits (wrP large [] ps)) large size).1 = E.1 := hb.2 h0
    rw [hrun, if_pos h0]
theorem dec18_none (large : Bool) (size : Nat) : dec18 [] large size = ([], 0, 3) := by
  have h : run18 [] large size = (3, ⟨⟨[], 0, true, 0⟩, ⟨win18 large, size, false, []⟩, 0⟩) := by
    unfold run18
    rw [show 8 * ([] : List UInt8).length + 1 = 1 from rfl, blocks18]
    have hb : block18 large 1 ⟨⟨[], 0, true, 0⟩, ⟨win18 large, size, false, []⟩, 0⟩ = (false, 3, ⟨⟨[], 0, true, 0⟩, ⟨win18 large, size, false, []⟩, 0⟩) := by
      unfold block18 head18
      rfl
    rw [hb]; rfl
  unfold dec18
  rw [if_neg (by omega), Int.toNat_natCast, h, if_pos (by simp)]
end Go.Proofs.YtokfcgloogdeiaaGreatDoor
namespace Go.Proofs.YtokfcgloogdeiaaGreatDoor
set_option linter.unusedVariables false
set_option linter.unusedSimpArgs false
set_option maxRecDepth 100000
open Go.ChangeShapes Go.WideShapes Go.ChangeAt Go.RowKit

/-- a token has words by two lists of lengths -/
def hasI (large : Bool) (lit dist : List Int) (t : Tk) : Prop :=
  (t.len = 0 → zn lit t.lit.toNat ≠ 0) ∧ (t.len ≠ 0 → (lcOf t.len large).2.2.2 = true ∧ (dcOf t.dist large).2.2.2 = true ∧ (lcOf t.len large).1 < lit.length ∧ (dcOf t.dist large).1 < dist.length ∧ zn lit (lcOf t.len large).1 ≠ 0 ∧ zn dist (dcOf t.dist large).1 ≠ 0)
theorem Is.atz {w : World} {v : Value} {zs : List Int} (h : Is .i64 w v zs) (i : Nat) (hi : i < zs.length) : ∃ b off cap, v = .slice (some ⟨b, off, none⟩) zs.length cap ∧ w.cell? ⟨b, off + i, none⟩ = some (.int .i64 (zn zs i)) := by
  obtain ⟨b, off, cap, h1, h2⟩ := h.at i hi
  exact ⟨b, off, cap, h1, by rw [h2, zn_get zs i hi]⟩
set_option maxHeartbeats 8000000 in
theorem has18_c (w : World) (v v1 v2 : Value) (ts : List Tk) (lit dist : List Int) (large : Bool) (h : Ts w v ts) (h1 : Is .i64 w v1 lit) (h2 : Is .i64 w v2 dist) (h257 : 257 ≤ lit.length) : Calls Tryz.prog 16 #[v, v1, v2, .bool large] w fun e w' => ∃ B : Bool, e = .returned (.bool B) ∧ Keep [] w w' ∧ (B = true ↔ ∀ t ∈ ts, hasI large lit dist t) := by
  have HT := Lib.hid h; have H1 := Lib.hid h1; have H2 := Lib.hid h2; have H257 := Lib.hid h257
  obtain ⟨a, c, rfl, _⟩ := h.sh
  obtain ⟨a1, c1, rfl, hl1⟩ := h1.sh
  obtain ⟨a2, c2, rfl, hl2⟩ := h2.sh
  have HWF := Lib.hid h.wf
  clear h h1 h2 h257
  go_enter Tryz.func16, Tryz.ntmps16
  go_wp2_with fail
  go_loopw [9] (fun iv wr => ∃ k : Nat, k ≤ ts.length ∧ iv = .int .i64 k ∧ Hid (∀ t ∈ ts.take k, hasI large lit dist t) ∧ Hid (Keep [] w wr)) (fun iv _ => ts.length - (intOf iv).toNat)
  case atStart => exact ⟨0, Nat.zero_le _, rfl, by simp [Hid], Keep.refl _ _⟩
  case round =>
    obtain ⟨k, hk, rfl, HA, HK⟩ := hrel
    by_cases hlt : k < ts.length
    · have z1 : (k : Int) < (ts.length : Int) := by omega
      have hsn : ts.take (k + 1) = ts.take k ++ [ts[k]] := List.take_succ_eq_append_getElem hlt
      have hmem : ts[k] ∈ ts := List.getElem_mem hlt
      have hwf := HWF.out _ hmem
      obtain ⟨b, off, cap', hv, e1, e2, e3⟩ := (HT.out.keep HK.out (by simp)).at k hlt
      simp only [Value.slice.injEq] at hv
      obtain ⟨rfl, hv2, rfl⟩ := hv
      obtain ⟨t, ht⟩ : ∃ t, ts[k] = t := ⟨_, rfl⟩
      rw [ht] at hsn hmem hwf e1 e2 e3
      have HSN := Lib.hid hsn; have HME := Lib.hid hmem
      have hF : Hid (¬ hasI large lit dist t → ∀ B : Bool, B = false → (B = true ↔ ∀ t ∈ ts, hasI large lit dist t)) := fun hn B hB => by
        subst hB
        exact ⟨fun h => by simp at h, fun h => absurd (h t HME.out) hn⟩
      have hG : Hid (hasI large lit dist t → ∀ u ∈ ts.take (k + 1), hasI large lit dist u) := fun hy u hu => by
        rw [HSN.out] at hu
        rcases List.mem_append.1 hu with h | h
        · exact HA.out u h
        · simp at h; subst h; exact hy
      clear hv2 hsn hmem ht HSN HME HA
      by_cases h0 : t.len = 0
      · have hlit := t.lit.toNat_lt
        obtain ⟨b1, o1, p1, hv, f1⟩ := (H1.out.keep HK.out (by simp)).atz t.lit.toNat (by have := H257.out; omega)
        simp only [Value.slice.injEq] at hv
        obtain ⟨rfl, hv2, rfl⟩ := hv
        clear hv2
        have x1 : (t.lit.toNat : Int) < (lit.length : Int) := by have := H257.out; omega
        have x2 : t.lit.toNat < lit.length := by omega
        have h0' : (t.len == 0) = true := by simp [h0]
        have hI : hasI large lit dist t ↔ zn lit t.lit.toNat ≠ 0 := ⟨fun h => h.1 h0, fun h => ⟨fun _ => h, fun hn => absurd h0 hn⟩⟩
        have HI := Lib.hid hI
        obtain ⟨z, hz⟩ : ∃ z, zn lit t.lit.toNat = z := ⟨_, rfl⟩
        rw [hz] at HI f1
        clear hI hz h0
        generalize t.lit.toNat = y at *
        by_cases hzz : z = 0
        · have q1 : (z == 0) = true := by simp [hzz]
          have hn : ¬ hasI large lit dist t := fun h => (HI.out.1 h) hzz
          have HN := Lib.hid hn
          clear hzz hn
          go_wp2_with fail
          go_ret
          exact ⟨false, rfl, HK.out, hF.out HN.out false rfl⟩
        · have q1 : (z == 0) = false := by simp [hzz]
          have hy : hasI large lit dist t := HI.out.2 hzz
          have HY := Lib.hid hy
          clear hzz hy
          go_wp2_with fail
          go_roundw
          case rel => exact ⟨k + 1, by omega, by first | rfl | simp, hG.out HY.out, HK.out⟩
          case measure => simp [intOf]; omega
      · have h0' : (t.len == 0) = false := by rw [beq_eq_false_iff_ne]; exact h0
        have hI : hasI large lit dist t ↔ ((lcOf t.len large).2.2.2 = true ∧ (dcOf t.dist large).2.2.2 = true ∧ (lcOf t.len large).1 < lit.length ∧ (dcOf t.dist large).1 < dist.length ∧ zn lit (lcOf t.len large).1 ≠ 0 ∧ zn dist (dcOf t.dist large).1 ≠ 0) := ⟨fun h => h.2 h0, fun h => ⟨fun hn => absurd hn h0, fun _ => h⟩⟩
        have HI := Lib.hid hI
        have HL := Lib.hid (rlc17_c wr t.len large)
        have HD := Lib.hid (rdc17_c wr t.dist large)
        have g1 : (lcOf t.len large).1 < lit.length → _ := fun h => (H1.out.keep HK.out (by simp)).atz _ h
        have g2 : (dcOf t.dist large).1 < dist.length → _ := fun h => (H2.out.keep HK.out (by simp)).atz _ h
        have G1 := Lib.hid g1; have G2 := Lib.hid g2
        clear hI h0 g1 g2
        generalize lcOf t.len large = L at *
        generalize dcOf t.dist large = D at *
        obtain ⟨lc, le, lx, ok⟩ := L
        obtain ⟨dc, de, dx, is⟩ := D
        dsimp only at HI G1 G2
        generalize t.len = tn at *
        generalize t.dist = td at *
        go_wp2_with fail
        refine HL.out.mono ?_; rintro e w1 ⟨rfl, rfl⟩
        go_wp2_with fail
        refine HD.out.mono ?_; rintro e w1 ⟨rfl, rfl⟩
        obtain ⟨bz, hbz⟩ : ∃ bz : Bool, bz = true ↔ ¬ hasI large lit dist t := by
          classical exact ⟨decide (¬ hasI large lit dist t), decide_eq_true_iff⟩
        have HBZ := Lib.hid hbz
        clear hbz HL HD e1 e2 e3
        go_upto_region 9 with fail
        go_cut [94] (fun cv wx => cv = .bool bz ∧ wx = wr)
        case first =>
          cases ok with
          | false =>
            have hb : bz = true := HBZ.out.2 (fun h => by have := (HI.out.1 h).1; simp at this)
            subst hb
            go_wp2_with fail
            go_meet
            exact ⟨rfl, rfl⟩
          | true =>
          cases is with
          | false =>
            have hb : bz = true := HBZ.out.2 (fun h => by have := (HI.out.1 h).2.1; simp at this)
            subst hb
            go_wp2_with fail
            go_meet
            exact ⟨rfl, rfl⟩
          | true =>
          by_cases y3 : lc < lit.length
          case neg =>
            have hb : bz = true := HBZ.out.2 (fun h => y3 (HI.out.1 h).2.2.1)
            subst hb
            have q3 : decide ((lit.length : Int) ≤ (lc : Int)) = true := by simp; omega
            have q3' : decide (lit.length ≤ lc) = true := by simp; omega
            go_wp2_with fail
            go_meet
            exact ⟨rfl, rfl⟩
          have q3 : decide ((lit.length : Int) ≤ (lc : Int)) = false := by rw [decide_eq_false_iff_not]; omega
          have q3' : decide (lit.length ≤ lc) = false := by rw [decide_eq_false_iff_not]; omega
          by_cases y4 : dc < dist.length
          case neg =>
            have hb : bz = true := HBZ.out.2 (fun h => y4 (HI.out.1 h).2.2.2.1)
            subst hb
            have q4 : decide ((dist.length : Int) ≤ (dc : Int)) = true := by simp; omega
            have q4' : decide (dist.length ≤ dc) = true := by simp; omega
            clear y3
            go_wp2_with fail
            go_meet
            exact ⟨rfl, rfl⟩
          have q4 : decide ((dist.length : Int) ≤ (dc : Int)) = false := by rw [decide_eq_false_iff_not]; omega
          have q4' : decide (dist.length ≤ dc) = false := by rw [decide_eq_false_iff_not]; omega
          obtain ⟨b1, o1, p1, hv, f1⟩ := G1.out y3
          simp only [Value.slice.injEq] at hv
          obtain ⟨rfl, hv2, rfl⟩ := hv
          clear hv2
          obtain ⟨b2, o2, p2, hv, f2⟩ := G2.out y4
          simp only [Value.slice.injEq] at hv
          obtain ⟨rfl, hv2, rfl⟩ := hv
          clear hv2
          obtain ⟨z5, hz5⟩ : ∃ z, zn lit lc = z := ⟨_, rfl⟩
          obtain ⟨z6, hz6⟩ : ∃ z, zn dist dc = z := ⟨_, rfl⟩
          rw [hz5] at HI f1
          rw [hz6] at HI f2
          have x3 : (lc : Int) < (lit.length : Int) := by omega
          have x4 : (dc : Int) < (dist.length : Int) := by omega
          clear hz5 hz6 G1 G2
          by_cases y5 : z5 = 0
          · have hb : bz = true := HBZ.out.2 (fun h => (HI.out.1 h).2.2.2.2.1 y5)
            subst hb
            have q5 : (z5 == 0) = true := by simp [y5]
            clear y5
            go_wp2_with fail
            go_meet
            exact ⟨rfl, rfl⟩
          have q5 : (z5 == 0) = false := by simp [y5]
          by_cases y6 : z6 = 0
          · have hb : bz = true := HBZ.out.2 (fun h => (HI.out.1 h).2.2.2.2.2 y6)
            subst hb
            have q6 : (z6 == 0) = true := by simp [y6]
            clear y5 y6
            go_wp2_with fail
            go_meet
            exact ⟨rfl, rfl⟩
          have q6 : (z6 == 0) = false := by simp [y6]
          have hb : bz = false := by cases bz with | true => exact absurd (HI.out.2 ⟨rfl, rfl, y3, y4, y5, y6⟩) (HBZ.out.1 rfl) | false => rfl
          subst hb
          clear y5 y6
          go_wp2_with fail
          go_meet
          exact ⟨rfl, rfl⟩
        case rest =>
        obtain ⟨rfl, hwc⟩ := hcut
        have h := hwc.symm; subst h
        clear hwc G1 G2 HI
        cases bz with
        | true =>
          have HN := Lib.hid (HBZ.out.1 rfl)
          clear HBZ
          go_wp2_with fail
          go_ret
          exact ⟨false, rfl, HK.out, hF.out HN.out false rfl⟩
        | false =>
          have hy : hasI large lit dist t := by
            classical
            exact Decidable.byContradiction (fun h => by have := HBZ.out.2 h; simp at this)
          have HY := Lib.hid hy
          clear hy HBZ
          go_wp2_with fail
          go_roundw
          case rel => exact ⟨k + 1, by omega, by first | rfl | simp, hG.out HY.out, HK.out⟩
          case measure => simp [intOf]; omega
    · obtain rfl : k = ts.length := by omega
      have HA2 : Hid (∀ t ∈ ts, hasI large lit dist t) := by have := HA.out; rw [List.take_length] at this; exact this
      clear HA
      go_wp2_with fail
      go_ret
      exact ⟨true, rfl, HK.out, fun _ => HA2.out, fun _ => rfl⟩
end Go.Proofs.YtokfcgloogdeiaaGreatDoor
