/- Contract of the library's SortStableFunc at rows of elements of two cells: the row holds the same numbers, sorted by their keys. -/
import Derived.Test.YtlnknnmlepgjfaaSrg5
namespace Go.Proofs.Ytlnknnmlepgjfaa.Sg
set_option linter.unusedVariables false
set_option linter.unusedSimpArgs false
open Go.ChangeShapes Go.WideShapes Go.ChangeAt Go.RowKit

/-- each row of bs numbers is sorted -/
def Bk (key : SEl → Int) (zs : List SEl) (bs n : Nat) : Prop := ∀ j, Srt key zs (j * bs) (min ((j + 1) * bs) n)
theorem Srt.moved {key : SEl → Int} {zs zs' : List SEl} {a b : Nat} (h : Srt key zs a b) (he : ∀ p, a ≤ p → p < b → gn zs' p = gn zs p) : Srt key zs' a b :=
  fun p q h1 h2 h3 => by rw [he p h1 (by omega), he q (by omega) h3]; exact h p q h1 h2 h3
structure Q1 (key : SEl → Int) (k A : Nat) (zs : List SEl) : Prop where
  at_ : A = k * 20
  srt : ∀ j, j < k → Srt key zs (j * 20) ((j + 1) * 20)
theorem Q1.step {key : SEl → Int} {k A : Nat} {zs zs' : List SEl} (h : Q1 key k A zs) (hs : Srt key zs' A (A + 20)) (ho : ∀ p, p < A ∨ A + 20 ≤ p → gn zs' p = gn zs p) : Q1 key (k + 1) (A + 20) zs' := by
  have ha := h.at_
  refine ⟨by omega, fun j hj => ?_⟩
  by_cases e : j = k
  · subst e; rw [← ha, show (j + 1) * 20 = A + 20 by omega]; exact hs
  · exact (h.srt j (by omega)).moved (fun p _ h2 => ho p (.inl (by omega)))
theorem Q1.done {key : SEl → Int} {k A n : Nat} {zs zs' : List SEl} (h : Q1 key k A zs) (hA : A ≤ n) (hn : n < A + 20) (hs : Srt key zs' A n) (ho : ∀ p, p < A ∨ n ≤ p → gn zs' p = gn zs p) : Bk key zs' 20 n := by
  have ha := h.at_
  intro j
  by_cases e : j < k
  · rw [show min ((j + 1) * 20) n = (j + 1) * 20 by omega]
    exact (h.srt j e).moved (fun p _ h2 => ho p (.inl (by omega)))
  · by_cases e2 : j = k
    · subst e2; rw [← ha, show min ((j + 1) * 20) n = n by omega]; exact hs
    · exact Srt.one _ _ _ _ (by omega)
structure Q2 (key : SEl → Int) (bs n K A : Nat) (zs : List SEl) : Prop where
  at_ : A = K * (2 * bs)
  lo : ∀ j, j < K → Srt key zs (j * (2 * bs)) ((j + 1) * (2 * bs))
  hi : ∀ j, 2 * K ≤ j → Srt key zs (j * bs) (min ((j + 1) * bs) n)
theorem Q2.start {key : SEl → Int} {bs n : Nat} {zs : List SEl} (h : Bk key zs bs n) : Q2 key bs n 0 0 zs := ⟨by omega, fun j hj => by omega, fun j _ => h j⟩
section
variable {key : SEl → Int} {bs n K A : Nat} {zs zs' : List SEl}
theorem Q2.m1 (h : Q2 key bs n K A zs) : (2 * K) * bs = A ∧ (2 * K + 1) * bs = A + bs ∧ (2 * K + 1 + 1) * bs = A + 2 * bs ∧ (K + 1) * (2 * bs) = A + 2 * bs := by
  have ha := h.at_
  have e1 : (2 * K) * bs = K * (2 * bs) := by rw [Nat.mul_comm 2 K, Nat.mul_assoc]
  refine ⟨by omega, by rw [Nat.add_mul]; omega, by rw [Nat.add_mul, Nat.add_mul]; omega, by rw [Nat.add_mul]; omega⟩
theorem Q2.left (h : Q2 key bs n K A zs) (hn : A + 2 * bs ≤ n) : Srt key zs A (A + bs) ∧ Srt key zs (A + bs) (A + 2 * bs) := by
  obtain ⟨e1, e2, e3, _⟩ := h.m1
  have h1 := h.hi (2 * K) (by omega)
  have h2 := h.hi (2 * K + 1) (by omega)
  rw [e1, e2, show min (A + bs) n = A + bs by omega] at h1
  rw [e2, e3, show min (A + 2 * bs) n = A + 2 * bs by omega] at h2
  exact ⟨h1, h2⟩
theorem Q2.step (h : Q2 key bs n K A zs) (hm : Mg key zs zs' A (A + 2 * bs)) : Q2 key bs n (K + 1) (A + 2 * bs) zs' := by
  obtain ⟨e1, e2, e3, e4⟩ := h.m1
  have ha := h.at_
  refine ⟨e4.symm, fun j hj => ?_, fun j hj => ?_⟩
  · by_cases e : j = K
    · subst e; rw [← ha, e4]; exact hm.srt
    · have : (j + 1) * (2 * bs) ≤ K * (2 * bs) := Nat.mul_le_mul_right _ (by omega)
      exact (h.lo j (by omega)).moved (fun p _ h2 => hm.out p (.inl (by omega)))
  · have : (2 * K + 1 + 1) * bs ≤ j * bs := Nat.mul_le_mul_right _ (by omega)
    exact (h.hi j (by omega)).moved (fun p h1 _ => hm.out p (.inr (by omega)))
theorem Q2.last (h : Q2 key bs n K A zs) (hn : n < A + 2 * bs) : Srt key zs A (min (A + bs) n) ∧ (A + bs < n → Srt key zs A (A + bs) ∧ Srt key zs (A + bs) n) := by
  obtain ⟨e1, e2, e3, _⟩ := h.m1
  have h1 := h.hi (2 * K) (by omega)
  have h2 := h.hi (2 * K + 1) (by omega)
  rw [e1, e2] at h1
  rw [e2, e3, show min (A + 2 * bs) n = n by omega] at h2
  exact ⟨h1, fun hl => by rw [show min (A + bs) n = A + bs by omega] at h1; exact ⟨h1, h2⟩⟩
theorem Q2.done (h : Q2 key bs n K A zs) (hA : A ≤ n) (hn : n < A + 2 * bs) (hs : Srt key zs' A n) (ho : ∀ p, p < A → gn zs' p = gn zs p) : Bk key zs' (2 * bs) n := by
  obtain ⟨e1, e2, e3, e4⟩ := h.m1
  have ha := h.at_
  intro j
  by_cases e : j < K
  · have : (j + 1) * (2 * bs) ≤ K * (2 * bs) := Nat.mul_le_mul_right _ (by omega)
    rw [show min ((j + 1) * (2 * bs)) n = (j + 1) * (2 * bs) by omega]
    exact (h.lo j e).moved (fun p _ h2 => ho p (by omega))
  · by_cases e2 : j = K
    · subst e2; rw [← ha, e4, show min (A + 2 * bs) n = n by omega]; exact hs
    · have : (K + 1) * (2 * bs) ≤ j * (2 * bs) := Nat.mul_le_mul_right _ (by omega)
      exact Srt.one _ _ _ _ (by omega)
end
theorem Bk.all {key : SEl → Int} {zs : List SEl} {bs n : Nat} (h : Bk key zs bs n) (hn : n ≤ bs) : Srt key zs 0 n := by
  have h0 := h 0
  rw [Nat.zero_mul, show min ((0 + 1) * bs) n = n by omega] at h0
  exact h0
set_option maxRecDepth 100000 in
set_option maxHeartbeats 8000000 in
theorem stable_c {w0 : World} {g n cap : Nat} {z0 : List SEl} (fc : Nat) (cb : Array Value) (Pd : SEl → Prop) (kc key : SEl → Int) (hkc : ∀ x y, kc x < kc y → key x < key y) (hC : CmpG fc cb Pd kc w0 g) (hP : ∀ z ∈ z0, Pd z) (hn : n < 1152921504606846976)
    (w : World) (zs : List SEl) (S : STg kc key w0 g n cap z0 w zs) :
    Calls Try.prog 36 #[.slice (some ⟨g, 0, none⟩) n cap, .int .i64 n, .func (.func fc) #[] cb] w fun e w' => e = .returned (.tuple #[]) ∧ ∃ zs', STg kc key w0 g n cap z0 w' zs' ∧ Srt key zs' 0 n := by
  have hn2 : n < 4611686018427387904 := by omega
  have HI := Lib.hid (fun w zs a b h1 h2 S => (insertion_c (w0 := w0) (g := g) (n := n) (cap := cap) (z0 := z0) fc cb Pd kc key hkc hC hP hn2 w zs a b h1 h2 (show STg kc key w0 g n cap z0 w zs from S).1 S.2).mono (R' := fun e w' => e = .returned (.tuple #[]) ∧ ∃ zs', STg kc key w0 g n cap z0 w' zs' ∧ Srt key zs' a b ∧ ∀ p, p < a ∨ b ≤ p → gn zs' p = gn zs p) fun e w' ⟨h1, z, h2, h3, h4⟩ => ⟨h1, z, ⟨h2, h3⟩, h4⟩)
  have HM := Lib.hid (fun w zs a m b h1 h2 h3 S hA hB => symmerge_c (w0 := w0) (g := g) (n := n) (cap := cap) (z0 := z0) fc cb Pd kc key hkc hC hP hn2 (b - a) w zs a m b (Nat.le_refl _) h1 h2 h3 S hA hB)
  have S0 := Lib.hid S
  clear S hC hP hkc
  go_enter Try.func36, Try.ntmps36
  go_wp2_with fail
  go_loopw [7, 8] (fun x y wr => ∃ (k A B : Nat) (zk : List SEl), A ≤ n ∧ B ≤ A + 20 ∧ A + 20 ≤ B ∧ x = .int .i64 A ∧ y = .int .i64 B ∧ Hid (Q1 key k A zk) ∧ Hid (STg kc key w0 g n cap z0 wr zk)) (fun _ y _ => n + 20 - (intOf y).toNat)
  case atStart => exact ⟨0, 0, 20, zs, by omega, by omega, by omega, rfl, rfl, ⟨by omega, fun j hj => by omega⟩, S0.out⟩
  case round =>
    clear S0
    obtain ⟨k, A, B, zk, hA, hB1, hB2, rfl, rfl, HQ, HS⟩ := hrel
    by_cases hlt : B ≤ n
    · have hltz : (B : Int) ≤ (n : Int) := by omega
      have HC := Lib.hid (HI.out wr zk A B (by omega) hlt HS.out)
      have HQ2 := Lib.hid (fun z2 h1 h2 => HQ.out.step (zs' := z2) h1 h2)
      have hBA : B = A + 20 := by omega
      rw [← hBA] at HQ2
      clear hBA HS HQ
      go_wp2_with fail
      refine HC.out.mono ?_; rintro er w2 ⟨rfl, z2, S2, E2, E3⟩
      have HS2 := Lib.hid S2
      have HQ3 := Lib.hid (HQ2.out z2 E2 E3)
      clear S2 E2 E3 HC HQ2
      go_wp2_with fail
      go_roundw
      case rel => exact ⟨k + 1, B, B + 20, z2, by omega, by omega, by omega, rfl, by go_num, HQ3, HS2⟩
      case measure => simp [intOf]; omega
    · have hltz : ¬ (B : Int) ≤ (n : Int) := by omega
      have HC := Lib.hid (HI.out wr zk A n (by omega) (by omega) HS.out)
      have HQ2 := Lib.hid (fun z2 h1 h2 => HQ.out.done (n := n) (zs' := z2) hA (by omega) h1 h2)
      clear HS HQ
      go_wp2_with fail
      refine HC.out.mono ?_; rintro er w2 ⟨rfl, z2, S2, E2, E3⟩
      have HS2 := Lib.hid S2
      have HQ3 := Lib.hid (HQ2.out z2 E2 E3)
      clear S2 E2 E3 HC HQ2 HI
      go_wp2_with fail
      go_loopw [6] (fun x wr => ∃ (bs : Nat) (zk : List SEl), 0 < bs ∧ bs ≤ 2 * n + 20 ∧ x = .int .i64 bs ∧ Hid (Bk key zk bs n) ∧ Hid (STg kc key w0 g n cap z0 wr zk)) (fun x _ => n - (intOf x).toNat)
      case atStart => exact ⟨20, z2, by omega, by omega, rfl, HQ3, HS2⟩
      case round =>
        clear HQ3 HS2 hltz hlt hA hB1 hB2
        obtain ⟨bs, zk, hb0, hb1, rfl, HB, HS⟩ := hrel
        by_cases hlt : bs < n
        · have hltz : (bs : Int) < (n : Int) := by omega
          obtain ⟨b2, hb2⟩ : ∃ x, x = 2 * bs := ⟨_, rfl⟩
          have r1 : IntKind.i64.wrap (2 * (bs : Int)) = (b2 : Int) := by rw [IntKind.wrap_i64]; omega
          have r2 : IntKind.i64.wrap ((bs : Int) * 2) = (b2 : Int) := by rw [IntKind.wrap_i64]; omega
          have hb3 : b2 ≤ 2 * bs := by omega
          have hb4 : 2 * bs ≤ b2 := by omega
          have HQ0 := Lib.hid (Q2.start HB.out)
          clear HB
          go_wp2_with fail
          go_loopw [7, 8] (fun x y wr => ∃ (K A B : Nat) (zk : List SEl), A ≤ n ∧ B ≤ A + b2 ∧ A + b2 ≤ B ∧ x = .int .i64 A ∧ y = .int .i64 B ∧ Hid (Q2 key bs n K A zk) ∧ Hid (STg kc key w0 g n cap z0 wr zk)) (fun _ y _ => n + b2 - (intOf y).toNat)
          case atStart => exact ⟨0, 0, b2, zk, by omega, by omega, by omega, rfl, by first | rfl | (congr 1; omega), HQ0.out, HS.out⟩
          case round =>
            clear HQ0 HS
            obtain ⟨K, A, B, zk, hA, hB1, hB2, rfl, rfl, HQ, HS⟩ := hrel
            obtain ⟨m, hm⟩ : ∃ x, x = A + bs := ⟨_, rfl⟩
            have r3 : IntKind.i64.wrap ((A : Int) + (bs : Int)) = (m : Int) := by rw [IntKind.wrap_i64]; omega
            by_cases hle : B ≤ n
            · have hlez : (B : Int) ≤ (n : Int) := by omega
              have hBA : B = A + 2 * bs := by omega
              obtain ⟨l1, l2⟩ := HQ.out.left (by omega)
              rw [← hm] at l1 l2
              rw [← hBA] at l2
              have HC := Lib.hid (HM.out wr zk A m B (by omega) (by omega) hle HS.out l1 l2)
              have HQ2 := Lib.hid (fun z2 h1 => HQ.out.step (zs' := z2) h1)
              rw [← hBA] at HQ2
              have r4 : IntKind.i64.wrap ((B : Int) + (b2 : Int)) = ((B + b2 : Nat) : Int) := by rw [IntKind.wrap_i64]; omega
              clear hBA HS HQ l1 l2 hm r2
              go_wp2_with fail
              refine HC.out.mono ?_; rintro er w3 ⟨rfl, z3, S3, E3⟩
              have HS3 := Lib.hid S3
              have HQ3 := Lib.hid (HQ2.out z3 E3)
              clear S3 E3 HC HQ2
              go_wp2_with fail
              go_roundw
              case rel => exact ⟨K + 1, B, B + b2, z3, by omega, by omega, by omega, rfl, by go_num, HQ3, HS3⟩
              case measure => simp [intOf]; omega
            · have hlez : ¬ (B : Int) ≤ (n : Int) := by omega
              obtain ⟨l1, l2⟩ := HQ.out.last (by omega)
              rw [← hm] at l1 l2
              have HQ2 := Lib.hid (fun z2 h1 h2 => HQ.out.done (zs' := z2) hA (by omega) h1 h2)
              rw [← hb2] at HQ2
              by_cases hmn : m < n
              · have hmnz : (m : Int) < (n : Int) := by omega
                have HC := Lib.hid (HM.out wr zk A m n (by omega) hmn (Nat.le_refl _) HS.out (l2 hmn).1 (l2 hmn).2)
                clear HS HQ l1 l2 hm r1 hb2
                go_wp2_with fail
                refine HC.out.mono ?_; rintro er w3 ⟨rfl, z3, S3, E3⟩
                have HS3 := Lib.hid S3
                have HQ3 := Lib.hid (HQ2.out z3 E3.srt (fun p hp => E3.out p (.inl hp)))
                clear S3 E3 HC HQ2
                go_wp2_with fail
                go_roundw
                case rel => exact ⟨b2, z3, by omega, by omega, rfl, HQ3, HS3⟩
                case measure => simp [intOf]; omega
              · have hmnz : ¬ (m : Int) < (n : Int) := by omega
                have HQ3 := Lib.hid (HQ2.out zk (by rw [show n = min m n by omega]; exact l1) (fun _ _ => rfl))
                clear HQ HQ2 l1 l2 hm r1 hb2
                go_wp2_with fail
                go_roundw
                case rel => exact ⟨b2, zk, by omega, by omega, rfl, HQ3, HS⟩
                case measure => simp [intOf]; omega
        · have hltz : ¬ (bs : Int) < (n : Int) := by omega
          go_wp2_with fail
          go_end0
          exact ⟨rfl, zk, HS.out, HB.out.all (by omega)⟩
set_option maxRecDepth 100000 in
theorem sortstable_c (fc : Nat) (cb : Array Value) (Pd : SEl → Prop) (kc key : SEl → Int) (hkc : ∀ x y, kc x < kc y → key x < key y) (w : World) (g n cap : Nat) (zs : List SEl) (h : OwnG ESl w (.slice (some ⟨g, 0, none⟩) n cap) zs) (hT : Sta kc key zs n) (hC : CmpG fc cb Pd kc w g) (hP : ∀ z ∈ zs, Pd z) (hn : n < 1152921504606846976) :
    Calls Try.prog 26 #[.slice (some ⟨g, 0, none⟩) n cap, .func (.func fc) #[] cb] w fun e w' => e = .returned (.tuple #[]) ∧ ∃ zs', OwnG ESl w' (.slice (some ⟨g, 0, none⟩) n cap) zs' ∧ Keep [g] w w' ∧ zs'.Perm zs ∧ Srt key zs' 0 n := by
  have HS := Lib.hid (stable_c (w0 := w) (z0 := zs) fc cb Pd kc key hkc hC hP hn w zs ⟨⟨h, Keep.refl _ _, List.Perm.refl _⟩, hT⟩)
  clear h hC hP hT hkc
  go_enter Try.func26, Try.ntmps26
  go_wp2_with fail
  refine HS.out.mono ?_; rintro er w2 ⟨rfl, z2, S2, E2⟩
  go_wp2_with fail
  go_end0
  exact ⟨rfl, z2, S2.1.own, S2.1.keep, S2.1.perm, E2⟩
set_option maxHeartbeats 2000000 in
theorem insertion_nil (cv : Value) (w : World) : Calls Try.prog 41 #[.slice none 0 0, .int .i64 0, .int .i64 0, cv] w fun e w' => e = .returned (.tuple #[]) ∧ Keep [] w w' := by
  go_enter Try.func41, Try.ntmps41
  go_wp2_with fail
  go_loopw [8] (fun x wr => x = .int .i64 1 ∧ Keep [] w wr) (fun _ _ => 0)
  case atStart => exact ⟨by go_num, Keep.refl _ _⟩
  case round =>
    obtain ⟨rfl, KK⟩ := hrel
    go_wp2_with fail
    go_end0
    exact ⟨rfl, KK⟩
set_option maxHeartbeats 2000000 in
theorem stable_nil (cv : Value) (w : World) : Calls Try.prog 36 #[.slice none 0 0, .int .i64 0, cv] w fun e w' => e = .returned (.tuple #[]) ∧ Keep [] w w' := by
  have HI := Lib.hid (fun w => insertion_nil cv w)
  go_enter Try.func36, Try.ntmps36
  go_wp2_with fail
  go_loopw [7, 8] (fun x y wr => x = .int .i64 0 ∧ y = .int .i64 20 ∧ Keep [] w wr) (fun _ _ _ => 0)
  case atStart => exact ⟨rfl, rfl, Keep.refl _ _⟩
  case round =>
    obtain ⟨rfl, rfl, KK⟩ := hrel
    have HC := Lib.hid (HI.out wr)
    go_wp2_with fail
    refine HC.out.mono ?_; rintro er w2 ⟨rfl, K2⟩
    have KK2 := Lib.hid (KK.trans K2 (by simp))
    clear KK K2 HC HI
    go_wp2_with fail
    go_loopw [6] (fun x wr => x = .int .i64 20 ∧ Keep [] w wr) (fun _ _ => 0)
    case atStart => exact ⟨rfl, KK2.out⟩
    case round =>
      obtain ⟨rfl, KK⟩ := hrel
      go_wp2_with fail
      go_end0
      exact ⟨rfl, KK⟩
/-- of an empty row -/
theorem sortstable_nil (cv : Value) (w : World) :
    Calls Try.prog 26 #[.slice none 0 0, cv] w fun e w' => e = .returned (.tuple #[]) ∧ Keep [] w w' := by
  have HC := Lib.hid (stable_nil cv w)
  go_enter Try.func26, Try.ntmps26
  go_wp2_with fail
  refine HC.out.mono ?_; rintro er w2 ⟨rfl, K2⟩
  go_wp2_with fail
  go_end0
  exact ⟨rfl, K2⟩
end Go.Proofs.Ytlnknnmlepgjfaa.Sg
