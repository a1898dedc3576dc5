/-
  Plain facts on floats, no program: when a rounding is exact; from float32 to float64. No theorem of a claim stands here.
-/
import Derived.Test.YthkjikennlaelaaFo
set_option linter.unusedSimpArgs false
namespace Go.Proofs.Ythkjikennlaelaa.Fl
open Go Go.RowKit

theorem neg_nearest (k : FloatKind) (s : Bool) (m : Nat) (i : Int) : neg k (k.format.nearest s m i) = s := by
  have hi := k.format.infRung_lt
  unfold neg Ieee.Format.nearest
  split
  · exact word_neg _ _ (by omega)
  · exact word_neg _ _ (Nat.lt_of_le_of_lt (Nat.min_le_right _ _) hi)

theorem nearest_exact (k : FloatKind) (s : Bool) (m : Nat) (i : Int) (hm : m < 2 * k.format.binade) (hi : k.format.leastPlace ≤ i) (h : m = 0 ∨ i + m.log2 ≤ bias k) :
    rung k (k.format.nearest s m i) < k.format.infRung ∧ U k (rung k (k.format.nearest s m i)) = m * 2 ^ (i - k.format.leastPlace).toNat := by
  have hB : 0 < k.format.binade := Nat.two_pow_pos _
  have hinf : k.format.infRung = (2 * bias k + 1) * k.format.binade := by cases k <;> decide
  have hl := least_bias k
  unfold rung
  rw [nearest_rung]
  by_cases m0 : m = 0
  · subst m0
    rw [if_pos rfl]
    refine ⟨by rw [hinf]; exact Nat.mul_pos (by omega) hB, ?_⟩
    unfold U; rw [if_pos hB]; simp
  rw [if_neg m0]
  have h := h.resolve_left m0
  have hfb : m.log2 ≤ k.format.fractionBits := by
    have := (Nat.log2_lt m0).2 (show m < 2 ^ (k.format.fractionBits + 1) by rw [Nat.pow_succ, Nat.mul_comm]; exact hm)
    omega
  have hlo : 2 ^ m.log2 ≤ m := Nat.log2_self_le m0
  have hhi : m < 2 ^ (m.log2 + 1) := Nat.lt_log2_self
  by_cases hs : k.format.leastPlace ≤ i + m.log2 - k.format.fractionBits
  · have hmax : max (i + m.log2 - k.format.fractionBits) k.format.leastPlace = i + m.log2 - k.format.fractionBits := by omega
    rw [hmax, show (i + m.log2 - k.format.fractionBits - i).toNat = 0 by omega, cut_zero, Nat.shiftLeft_eq, show (i - (i + m.log2 - k.format.fractionBits)).toNat = k.format.fractionBits - m.log2 by omega]
    generalize hlast : (i + m.log2 - k.format.fractionBits - k.format.leastPlace).toNat = last
    have klo : k.format.binade ≤ m * 2 ^ (k.format.fractionBits - m.log2) := by
      have e : k.format.binade = 2 ^ m.log2 * 2 ^ (k.format.fractionBits - m.log2) := by rw [← Nat.pow_add]; show 2 ^ k.format.fractionBits = _; congr 1; omega
      rw [e]; exact Nat.mul_le_mul_right _ hlo
    have khi : m * 2 ^ (k.format.fractionBits - m.log2) < 2 * k.format.binade := by
      have e : 2 * k.format.binade = 2 ^ (m.log2 + 1) * 2 ^ (k.format.fractionBits - m.log2) := by
        rw [← Nat.pow_add, show m.log2 + 1 + (k.format.fractionBits - m.log2) = k.format.fractionBits + 1 by omega, Nat.pow_succ, Nat.mul_comm]; rfl
      rw [e]; exact Nat.mul_lt_mul_of_pos_right hhi (Nat.two_pow_pos _)
    generalize hK : m * 2 ^ (k.format.fractionBits - m.log2) = K at *
    have hlt : last * k.format.binade + K < k.format.infRung := by
      rw [hinf]
      have : (last + 2) * k.format.binade ≤ (2 * bias k + 1) * k.format.binade := Nat.mul_le_mul_right _ (by omega)
      rw [Nat.add_mul] at this
      omega
    rw [Nat.min_eq_left (Nat.le_of_lt hlt)]
    refine ⟨hlt, ?_⟩
    have hdiv : (last * k.format.binade + K) / k.format.binade = last + 1 := by
      rw [Nat.div_eq_iff hB]
      constructor
      · rw [Nat.add_mul]; omega
      · rw [Nat.add_mul, Nat.one_mul]; omega
    have hmod : (last * k.format.binade + K) % k.format.binade = K - k.format.binade := by
      have e := Nat.div_add_mod (last * k.format.binade + K) k.format.binade
      rw [hdiv, Nat.mul_add, Nat.mul_one, Nat.mul_comm k.format.binade last] at e
      omega
    unfold U
    rw [if_neg (by omega), hdiv, hmod, show k.format.binade + (K - k.format.binade) = K by omega, ← hK, Nat.mul_assoc, ← Nat.pow_add]
    congr 2
    omega
  · have hmax : max (i + m.log2 - k.format.fractionBits) k.format.leastPlace = k.format.leastPlace := by omega
    rw [hmax, show (k.format.leastPlace - i).toNat = 0 by omega, cut_zero, Nat.shiftLeft_eq, Int.sub_self]
    have khi : m * 2 ^ (i - k.format.leastPlace).toNat < k.format.binade := by
      have e1 : m * 2 ^ (i - k.format.leastPlace).toNat < 2 ^ (m.log2 + 1) * 2 ^ (i - k.format.leastPlace).toNat := Nat.mul_lt_mul_of_pos_right hhi (Nat.two_pow_pos _)
      rw [← Nat.pow_add] at e1
      exact Nat.lt_of_lt_of_le e1 (Nat.pow_le_pow_right (by omega) (by omega))
    have hlt : m * 2 ^ (i - k.format.leastPlace).toNat < k.format.infRung := by
      rw [hinf]; exact Nat.lt_of_lt_of_le khi (Nat.le_mul_of_pos_left _ (by omega))
    rw [show Int.toNat 0 * k.format.binade + m * 2 ^ (i - k.format.leastPlace).toNat = m * 2 ^ (i - k.format.leastPlace).toNat by simp, Nat.min_eq_left (Nat.le_of_lt hlt)]
    refine ⟨hlt, ?_⟩
    unfold U
    rw [if_pos khi]

theorem fin_iff {k : FloatKind} {b : Nat} : fin k (vl k b) = true ↔ rung k b < k.format.infRung := by
  constructor
  · intro h
    rcases hv : vl k b with _ | c
    · rw [hv] at h; cases h
    · obtain rfl := vl_some hv; rw [hv] at h; simpa [fin] using h
  · intro h
    have : vl k b = some b := by
      unfold vl
      have : (k.decode b).isNaN = false := by
        obtain ⟨m, i, h1, _⟩ := read_units k b h
        rw [h1]; rfl
      rw [this]; rfl
    rw [this]; simp [fin, h]

theorem fin_vl {k : FloatKind} {b : Nat} (h : rung k b < k.format.infRung) : vl k b = some b := by
  have := fin_iff.2 h
  rcases hv : vl k b with _ | c
  · rw [hv] at this; cases this
  · obtain rfl := vl_some hv; rfl

/-- What one unit of float32's least place is in units of float64's. -/
def gapW : Nat := 925
def scaleW : Nat := 2 ^ gapW
theorem scaleW_pos : 0 < scaleW := Nat.two_pow_pos _
theorem gapW_eq : gapW = 925 := rfl
theorem scaleW_eq (a b : Nat) (h : b = a + gapW) : 2 ^ b = 2 ^ a * scaleW := by subst h; exact Nat.pow_add 2 a gapW

/-- From float32 to float64, a finite number keeps its value and its sign. -/
theorem widen_fin (b : Nat) (h : rung .f32 b < FloatKind.f32.format.infRung) :
    ∃ r, fcv .f32 .f64 (some b) = some r ∧ rung .f64 r < FloatKind.f64.format.infRung ∧ neg .f64 r = neg .f32 b ∧ U .f64 (rung .f64 r) = U .f32 (rung .f32 b) * scaleW := by
  obtain ⟨m, i, h1, h2, h3, h4⟩ := read_units .f32 b h
  have hi : i ≤ 104 := by
    have hd : FloatKind.f32.format.read b = .number (neg .f32 b) m i := h1
    unfold Ieee.Format.read at hd
    simp only at hd
    have e1 : FloatKind.f32.format.binade = 8388608 := by decide
    have e2 : FloatKind.f32.format.infRung = 2139095040 := by decide
    have e3 : FloatKind.f32.format.leastPlace = -149 := by decide
    rw [e1, e2, e3] at hd
    split at hd
    · cases hd; omega
    · split at hd
      · cases hd; omega
      · split at hd <;> cases hd
  have e3 : FloatKind.f32.format.leastPlace = -149 := by decide
  have e4 : FloatKind.f64.format.leastPlace = -1074 := by decide
  have e5 : FloatKind.f32.format.binade = 8388608 := by decide
  have e6 : FloatKind.f64.format.binade = 4503599627370496 := by decide
  rw [e3] at h2 h3
  rw [e5] at h4
  have hlog : m = 0 ∨ i + m.log2 ≤ (bias .f64 : Int) := by
    by_cases m0 : m = 0
    · exact .inl m0
    · right
      have := (Nat.log2_lt m0).2 (show m < 2 ^ 24 by omega)
      show i + m.log2 ≤ (1023 : Int)
      omega
  obtain ⟨x1, x2⟩ := nearest_exact .f64 (neg .f32 b) m i (by rw [e6]; omega) (by rw [e4]; omega) hlog
  refine ⟨FloatKind.f64.format.nearest (neg .f32 b) m i, ?_, x1, neg_nearest _ _ _ _, ?_⟩
  · simp only [fcv, Option.bind_some, floatToFloatBits, h1]
    rw [if_neg (by decide), if_neg]
    · rfl
    · intro hc
      obtain ⟨m', i', h5, _⟩ := read_units .f64 _ x1
      rw [show FloatKind.f64.encode (.number (neg .f32 b) m i) = FloatKind.f64.format.nearest (neg .f32 b) m i from rfl, h5] at hc
      cases hc
  · rw [x2, ← h3, e4, Nat.mul_assoc, ← scaleW_eq _ (i - -1074).toNat (by rw [gapW_eq]; omega)]

theorem widen_inf (b : Nat) (h : rung .f32 b = FloatKind.f32.format.infRung) : ∃ r, fcv .f32 .f64 (some b) = some r ∧ rung .f64 r = FloatKind.f64.format.infRung ∧ neg .f64 r = neg .f32 b := by
  refine ⟨FloatKind.f64.format.word (neg .f32 b) FloatKind.f64.format.infRung, ?_, word_mod _ _ (Ieee.Format.infRung_lt _), word_neg _ _ (Ieee.Format.infRung_lt _)⟩
  simp only [fcv, Option.bind_some, floatToFloatBits, read_inf h]
  rw [if_neg (by decide)]; rfl

theorem fin_widen (b : Nat) : fin .f64 (fcv .f32 .f64 (vl .f32 b)) = fin .f32 (vl .f32 b) := by
  rcases hv : vl .f32 b with _ | c
  · rfl
  · obtain rfl := vl_some hv
    have hr := num_rung hv
    by_cases h : rung .f32 b < FloatKind.f32.format.infRung
    · obtain ⟨r, h1, h2, _⟩ := widen_fin b h
      rw [h1, fin_some_true h, fin_some_true h2]
    · obtain ⟨r, h1, h2, _⟩ := widen_inf b (by omega)
      rw [h1, fin_some_false h, fin_some_false (by omega)]
end Go.Proofs.Ythkjikennlaelaa.Fl
