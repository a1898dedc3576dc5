/-
  Plain facts on floats, no program: a float32 that is widened and narrowed is what it was. No theorem of a claim stands here.
-/
import Derived.Test.YthkjikennlaelaaFe
set_option linter.unusedSimpArgs false
set_option linter.unusedVariables false
namespace Go.Proofs.Ythkjikennlaelaa.Fl
open Go Go.RowKit

theorem log2_shift {m : Nat} (m0 : m ≠ 0) (j : Nat) : (m * 2 ^ j).log2 = m.log2 + j := by
  have hp : 0 < 2 ^ j := Nat.two_pow_pos j
  have h0 : m * 2 ^ j ≠ 0 := Nat.mul_ne_zero m0 (by omega)
  have h1 : m.log2 + j ≤ (m * 2 ^ j).log2 := (Nat.le_log2 h0).2 (by rw [Nat.pow_add]; exact Nat.mul_le_mul_right _ (Nat.log2_self_le m0))
  have h2 : (m * 2 ^ j).log2 < m.log2 + j + 1 := (Nat.log2_lt h0).2 (by
    rw [show m.log2 + j + 1 = (m.log2 + 1) + j by omega, Nat.pow_add]
    exact Nat.mul_lt_mul_of_pos_right Nat.lt_log2_self hp)
  omega
theorem cut_mul (neg : Bool) {q : Nat} (q0 : q ≠ 0) (d : Nat) : Ieee.Toward.even.cut neg (q * 2 ^ d) d = q := by
  have hp : 0 < 2 ^ d := Nat.two_pow_pos d
  unfold Ieee.Toward.cut
  rw [log2_shift q0, Nat.min_eq_left (by omega), Nat.one_shiftLeft]
  simp only [Nat.mul_div_cancel _ hp, Nat.mul_mod_left]
  have h1 : decide (2 ^ d < 2 * 0) = false := by simp
  have h2 : (2 ^ d == 2 * 0) = false := by rw [beq_eq_false_iff_ne]; omega
  rw [h1, h2]
  rfl
theorem nearest_shift (f : Ieee.Format) (neg : Bool) {m : Nat} (m0 : m ≠ 0) (i : Int) (j : Nat) (hl : max (i + j + m.log2 - f.fractionBits) f.leastPlace ≤ i + j) :
    f.nearest neg (m * 2 ^ j) i = f.nearest neg m (i + j) := by
  have hp : 0 < 2 ^ j := Nat.two_pow_pos j
  have h0 : m * 2 ^ j ≠ 0 := Nat.mul_ne_zero m0 (by omega)
  unfold Ieee.Format.nearest
  rw [if_neg h0, if_neg m0, log2_shift m0]
  have e : (i + ((m.log2 + j : Nat) : Int) - f.fractionBits) = i + j + m.log2 - f.fractionBits := by omega
  simp only [e]
  generalize hlast : max (i + j + m.log2 - f.fractionBits) f.leastPlace = last at *
  congr 2
  congr 1
  rw [show (last - (i + j)).toNat = 0 by omega, cut_zero, Nat.shiftLeft_eq, Nat.shiftLeft_eq]
  by_cases hi : last ≤ i
  · rw [show (last - i).toNat = 0 by omega, cut_zero, Nat.mul_assoc, ← Nat.pow_add]
    congr 2
    omega
  · rw [show (i - last).toNat = 0 by omega, Nat.pow_zero, Nat.mul_one]
    have e2 : m * 2 ^ j = m * 2 ^ (i + j - last).toNat * 2 ^ (last - i).toNat := by
      rw [Nat.mul_assoc, ← Nat.pow_add]
      congr 2
      omega
    rw [e2, cut_mul neg (Nat.mul_ne_zero m0 (by have := Nat.two_pow_pos (i + j - last).toNat; omega))]

theorem word_back {b : Nat} (hb : b < 2 ^ 32) : FloatKind.f32.format.word (neg .f32 b) (rung .f32 b) = b := by
  unfold neg rung Ieee.Format.word
  rw [show FloatKind.f32.format.signWeight = 2147483648 by decide]
  have h : b / 2147483648 = 0 ∨ b / 2147483648 = 1 := by omega
  rcases h with h | h
  · rw [h]; simp; omega
  · rw [h]; simp; omega
theorem word_eq {x y : Nat} (hx : x < 2 ^ 32) (hy : y < 2 ^ 32) (h1 : neg .f32 x = neg .f32 y) (h2 : rung .f32 x = rung .f32 y) : x = y := by
  rw [← word_back hx, ← word_back hy, h1, h2]
theorem U_inj {k : FloatKind} {a b : Nat} (h : U k a = U k b) : a = b := by
  rcases Nat.lt_trichotomy a b with h1 | h1 | h1
  · have := U_lt k h1; omega
  · exact h1
  · have := U_lt k h1; omega

/-- The nearest number to what a number reads as is the number. -/
theorem nearest_read {b : Nat} (hb : b < 2 ^ 32) {m : Nat} {i : Int} (hi : FloatKind.f32.format.leastPlace ≤ i) (hu : m * 2 ^ (i - FloatKind.f32.format.leastPlace).toNat = U .f32 (rung .f32 b)) (hm : m < 2 * FloatKind.f32.format.binade) (hl : m = 0 ∨ i + m.log2 ≤ bias .f32) :
    FloatKind.f32.format.nearest (neg .f32 b) m i = b := by
  obtain ⟨x1, x2⟩ := nearest_exact .f32 (neg .f32 b) m i hm hi hl
  exact word_eq (Ieee.Format.nearest_lt _ _ _ _) hb (neg_nearest _ _ _ _) (U_inj (x2.trans hu))

theorem read_log {b : Nat} (h : rung .f32 b < FloatKind.f32.format.infRung) {m : Nat} {i : Int} (h1 : FloatKind.f32.decode b = .number (neg .f32 b) m i) : m = 0 ∨ i + m.log2 ≤ bias .f32 := by
  by_cases m0 : m = 0
  · exact .inl m0
  · right
    have hd : FloatKind.f32.format.read b = .number (neg .f32 b) m i := h1
    unfold Ieee.Format.read at hd
    simp only at hd
    have e1 : FloatKind.f32.format.binade = 8388608 := by decide
    have e2 : FloatKind.f32.format.infRung = 2139095040 := by decide
    have e3 : FloatKind.f32.format.leastPlace = -149 := by decide
    rw [e1, e2, e3] at hd
    have e4 : (bias .f32 : Int) = 127 := rfl
    rw [e4]
    have hlt : m < 2 ^ 24 := by
      split at hd
      · cases hd; omega
      · split at hd
        · cases hd; omega
        · split at hd <;> cases hd
    have hl := (Nat.log2_lt m0).2 hlt
    split at hd
    · cases hd; omega
    · split at hd
      · cases hd; omega
      · split at hd <;> cases hd

/-- From float32 to float64 and back. -/
theorem narrow_widen (b : Nat) (hb : b < 2 ^ 32) : fcv .f64 .f32 (fcv .f32 .f64 (vl .f32 b)) = vl .f32 b ∧ over .f64 .f32 (fcv .f32 .f64 (vl .f32 b)) = false := by
  rcases hv : vl .f32 b with _ | c
  · exact ⟨rfl, rfl⟩
  · obtain rfl := vl_some hv
    have hr := num_rung hv
    by_cases h : rung .f32 b < FloatKind.f32.format.infRung
    · obtain ⟨r, w1, w2, w3, w4⟩ := widen_fin b h
      obtain ⟨m, i, h1, h2, h3, h4⟩ := read_units .f32 b h
      obtain ⟨m', i', r1, r2, r3, r4⟩ := read_units .f64 r w2
      have hlog := read_log h h1
      have hn := nearest_read hb h2 h3 h4 hlog
      have key : FloatKind.f32.format.nearest (neg .f64 r) m' i' = b := by
        rw [w3]
        have e3 : FloatKind.f32.format.leastPlace = -149 := by decide
        have e4 : FloatKind.f64.format.leastPlace = -1074 := by decide
        have e5 : FloatKind.f32.format.fractionBits = 23 := by decide
        have e6 : FloatKind.f32.format.binade = 8388608 := by decide
        rw [e3] at h2
        rw [e4] at r2
        have eq : m' * 2 ^ (i' - -1074).toNat = m * 2 ^ (i - -1074).toNat := by
          have a := r3
          rw [w4, ← h3, e3, e4, Nat.mul_assoc, ← scaleW_eq _ (i - -1074).toNat (by rw [gapW_eq]; omega)] at a
          exact a
        by_cases m0 : m = 0
        · subst m0
          have : m' = 0 := by
            have hp := Nat.two_pow_pos (i' - -1074).toNat
            rw [Nat.zero_mul] at eq
            rcases Nat.mul_eq_zero.1 eq with h | h
            · exact h
            · omega
          subst this
          refine Eq.trans ?_ hn
          unfold Ieee.Format.nearest
          rw [if_pos rfl, if_pos rfl]
        · have hl24 : m.log2 ≤ 23 := by
            have := (Nat.log2_lt m0).2 (show m < 2 ^ 24 by omega)
            omega
          by_cases hi : i' ≤ i
          · have e : m' = m * 2 ^ (i - i').toNat := by
              have : m * 2 ^ (i - -1074).toNat = m * 2 ^ (i - i').toNat * 2 ^ (i' - -1074).toNat := by
                rw [Nat.mul_assoc, ← Nat.pow_add]; congr 2; omega
              rw [this] at eq
              exact Nat.eq_of_mul_eq_mul_right (Nat.two_pow_pos _) eq
            rw [e, nearest_shift _ _ m0 _ _ (by rw [e3, e5]; omega), show i' + ((i - i').toNat : Int) = i by omega]
            exact hn
          · have e : m = m' * 2 ^ (i' - i).toNat := by
              have : m' * 2 ^ (i' - -1074).toNat = m' * 2 ^ (i' - i).toNat * 2 ^ (i - -1074).toNat := by
                rw [Nat.mul_assoc, ← Nat.pow_add]; congr 2; omega
              rw [this] at eq
              exact (Nat.eq_of_mul_eq_mul_right (Nat.two_pow_pos _) eq).symm
            have m0' : m' ≠ 0 := fun h => m0 (by rw [e, h, Nat.zero_mul])
            have hl2 : m'.log2 ≤ 23 := by
              have := log2_shift m0' (i' - i).toNat
              rw [← e] at this
              omega
            refine Eq.trans ?_ hn
            rw [e, nearest_shift _ _ m0' _ _ (by rw [e3, e5]; omega), show i + ((i' - i).toNat : Int) = i' by omega]
      have hfin : (FloatKind.f32.decode b).isInfinity = false := by rw [h1]; rfl
      have he : FloatKind.f32.encode (.number (neg .f64 r) m' i') = b := key
      rw [w1]
      refine ⟨?_, ?_⟩
      · simp only [fcv, Option.bind_some, floatToFloatBits, r1]
        rw [if_neg (by decide), he, hfin]; rfl
      · simp only [over, Option.any_some, r1, he, hfin]
        rfl
    · have hi : rung .f32 b = FloatKind.f32.format.infRung := by omega
      obtain ⟨r, w1, w2, w3⟩ := widen_inf b hi
      rw [w1]
      refine ⟨?_, ?_⟩
      · simp only [fcv, Option.bind_some, floatToFloatBits, read_inf w2]
        rw [if_neg (by decide), w3]
        show some (FloatKind.f32.format.word (neg .f32 b) FloatKind.f32.format.infRung) = some b
        rw [← hi, word_back hb]
      · simp only [over, Option.any_some, read_inf w2]
        rfl
end Go.Proofs.Ythkjikennlaelaa.Fl
