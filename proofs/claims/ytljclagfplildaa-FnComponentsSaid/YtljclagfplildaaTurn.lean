/-
  Plain facts on floats, no program: the whole part of a float64 and what is beyond it. No theorem of a claim stands here.
-/
import Derived.Test.YtljclagfplildaaFe
set_option linter.unusedSimpArgs false
set_option linter.unusedVariables false
namespace Go.Proofs.Ytljclagfplildaa.Fl
open Go Go.RowKit

/-- How many units of the least place 2^E is. -/
def un (E : Nat) : Nat := 2 ^ ((E : Int) - FloatKind.f64.format.leastPlace).toNat

theorem least64 : FloatKind.f64.format.leastPlace = -1074 := by decide

/-- A difference of two finite numbers whose values lie less than 2^E apart is within 2^E. -/
theorem sub_units {E a b : Nat} (ha : rung .f64 a < FloatKind.f64.format.infRung) (hb : rung .f64 b < FloatKind.f64.format.infRung)
    (h : (sv .f64 a - sv .f64 b).natAbs < un E) : ∃ r, fop .sub .f64 (some a) (some b) = some r ∧ r % FloatKind.f64.format.signWeight ≤ (E + bias .f64) * FloatKind.f64.format.binade := by
  obtain ⟨m, i, h1, hi, hu, _⟩ := read_units .f64 a ha
  obtain ⟨n, j, h2, hj, hv, _⟩ := read_units .f64 b hb
  have ea := sv_signed .f64 a m i hu
  have eb := sv_signed .f64 b n j hv
  simp only [fop, Option.bind_some, floatBits, Ieee.Format.sub]
  rw [show FloatKind.f64.format.read a = _ from h1, show FloatKind.f64.format.read b = _ from h2]
  simp only [Ieee.Datum.opposite, Ieee.Datum.sum, Option.map_some, Ieee.Format.write]
  refine ⟨_, rfl, ?_⟩
  apply nearest_bd
  generalize hT : Ieee.signed (neg .f64 a) m (i - min i j).toNat + Ieee.signed (!neg .f64 b) n (j - min i j).toNat = T
  have hneg : ∀ s x y, Ieee.signed (!s) x y = - Ieee.signed s x y := by intro s x y; unfold Ieee.signed; cases s <;> simp
  have hsc : sv .f64 a - sv .f64 b = T * (2 ^ (min i j - FloatKind.f64.format.leastPlace).toNat : Nat) := by
    rw [ea, eb, ← hT, hneg]
    rw [show (i - FloatKind.f64.format.leastPlace).toNat = (i - min i j).toNat + (min i j - FloatKind.f64.format.leastPlace).toNat by omega, signed_scale]
    rw [show (j - FloatKind.f64.format.leastPlace).toNat = (j - min i j).toNat + (min i j - FloatKind.f64.format.leastPlace).toNat by omega, signed_scale]
    rw [Int.add_mul, Int.neg_mul, Int.sub_eq_add_neg]
  rw [hsc, Int.natAbs_mul, Int.natAbs_natCast] at h
  by_cases h0 : T.natAbs = 0
  · exact .inl h0
  · right
    have hlo := Nat.log2_self_le h0
    have h3 : 2 ^ T.natAbs.log2 * 2 ^ (min i j - FloatKind.f64.format.leastPlace).toNat < un E := Nat.lt_of_le_of_lt (Nat.mul_le_mul_right _ hlo) h
    unfold un at h3
    rw [← Nat.pow_add] at h3
    have h4 := (Nat.pow_lt_pow_iff_right (show 1 < 2 by omega)).1 h3
    omega

/-- The whole part of a float64, cut towards zero. -/
def tz (b : Nat) : Int := ((FloatKind.f64.decode b).toInt .zero).getD 0

theorem cut_toward_zero (neg : Bool) (n drop : Nat) : Ieee.Toward.zero.cut neg n drop = n / 2 ^ min drop (n.log2 + 2) := by
  unfold Ieee.Toward.cut
  simp [Nat.one_shiftLeft]

/-- What is beyond the whole part is less than 1, and the whole part is not greater than the number. -/
theorem tz_units {b : Nat} (hb : rung .f64 b < FloatKind.f64.format.infRung) :
    (FloatKind.f64.decode b).toInt .zero = some (tz b) ∧ (sv .f64 b - tz b * (un 0 : Nat)).natAbs < un 0 ∧ (tz b).natAbs * un 0 ≤ U .f64 (rung .f64 b) := by
  obtain ⟨m, i, h1, hi, hu, _⟩ := read_units .f64 b hb
  have hs := sv_signed .f64 b m i hu
  rw [least64] at hi
  have htz : (FloatKind.f64.decode b).toInt .zero = some (Ieee.signed (neg .f64 b) (Ieee.Toward.zero.cut (neg .f64 b) (m <<< i.toNat) (-i).toNat) 0) := by
    rw [h1]; rfl
  have htz2 : tz b = Ieee.signed (neg .f64 b) (Ieee.Toward.zero.cut (neg .f64 b) (m <<< i.toNat) (-i).toNat) 0 := by unfold tz; rw [htz]; rfl
  refine ⟨by rw [htz, htz2], ?_⟩
  rw [cut_toward_zero] at htz2
  generalize hq : m <<< i.toNat / 2 ^ min (-i).toNat ((m <<< i.toNat).log2 + 2) = q at htz2
  -- q is the whole part of m * 2^i
  have key : q * un 0 ≤ U .f64 (rung .f64 b) ∧ U .f64 (rung .f64 b) < q * un 0 + un 0 := by
    rw [← hu, least64]
    unfold un; rw [least64]
    by_cases hi0 : 0 ≤ i
    · have e0 : (-i).toNat = 0 := by omega
      rw [e0, Nat.zero_min, Nat.pow_zero, Nat.div_one, Nat.shiftLeft_eq] at hq
      have e1 : (i - -1074).toNat = i.toNat + ((0 : Nat) - -1074 : Int).toNat := by omega
      rw [e1, Nat.pow_add, ← Nat.mul_assoc, hq]
      exact ⟨Nat.le_refl _, Nat.lt_add_of_pos_right (Nat.two_pow_pos _)⟩
    · have e0 : i.toNat = 0 := by omega
      rw [e0, Nat.shiftLeft_zero] at hq
      have e1 : ((0 : Nat) - -1074 : Int).toNat = (-i).toNat + (i - -1074).toNat := by omega
      rw [e1, Nat.pow_add, ← Nat.mul_assoc, ← Nat.add_mul]
      have hp : 0 < 2 ^ (i - -1074).toNat := Nat.two_pow_pos _
      have hdm : q * 2 ^ (-i).toNat ≤ m ∧ m < q * 2 ^ (-i).toNat + 2 ^ (-i).toNat := by
        by_cases hd : (-i).toNat ≤ m.log2 + 2
        · rw [Nat.min_eq_left hd] at hq
          have := Nat.div_add_mod m (2 ^ (-i).toNat)
          have hm := Nat.mod_lt m (Nat.two_pow_pos (-i).toNat)
          rw [hq, Nat.mul_comm] at this
          omega
        · rw [Nat.min_eq_right (by omega)] at hq
          have hml : m < 2 ^ (m.log2 + 1) := Nat.lt_log2_self
          have hq0 : q = 0 := by
            rw [← hq]
            exact Nat.div_eq_of_lt (Nat.lt_of_lt_of_le hml (Nat.pow_le_pow_right (by omega) (by omega)))
          rw [hq0, Nat.zero_mul, Nat.zero_add]
          exact ⟨Nat.zero_le _, Nat.lt_of_lt_of_le hml (Nat.pow_le_pow_right (by omega) (by omega))⟩
      exact ⟨Nat.mul_le_mul_right _ hdm.1, Nat.mul_lt_mul_of_pos_right hdm.2 hp⟩
  have hsv : sv .f64 b = if neg .f64 b then -(U .f64 (rung .f64 b) : Int) else U .f64 (rung .f64 b) := rfl
  have htq : tz b = if neg .f64 b then -(q : Int) else q := by
    rw [htz2]; unfold Ieee.signed; rw [Nat.shiftLeft_zero]
  have hna : (tz b).natAbs = q := by rw [htq]; split <;> simp
  rw [hna]
  refine ⟨?_, key.1⟩
  rw [hsv, htq]
  generalize un 0 = u at *
  generalize U .f64 (rung .f64 b) = V at *
  have e : (q : Int) * (u : Int) = ((q * u : Nat) : Int) := by simp
  cases neg .f64 b
  · simp only [Bool.false_eq_true, if_false]
    rw [e]; omega
  · simp only [if_true]
    rw [Int.neg_mul, e]; omega

/-- A whole number of less than 53 digits, as a float64, is itself. -/
theorem ofInt_units (n : Int) (hn : n.natAbs < 9007199254740992) : rung .f64 (floatOfInt .f64 n) < FloatKind.f64.format.infRung ∧ sv .f64 (floatOfInt .f64 n) = n * (un 0 : Nat) := by
  have e6 : FloatKind.f64.format.binade = 4503599627370496 := by decide
  obtain ⟨x1, x2⟩ := nearest_exact .f64 (decide (n < 0)) n.natAbs 0 (by rw [e6]; omega) (by rw [least64]; omega) (by
    by_cases h0 : n.natAbs = 0
    · exact .inl h0
    · right
      have := (Nat.log2_lt h0).2 (show n.natAbs < 2 ^ 53 from hn)
      show (0 : Int) + n.natAbs.log2 ≤ (1023 : Int)
      omega)
  have hf : floatOfInt .f64 n = FloatKind.f64.format.nearest (decide (n < 0)) n.natAbs 0 := rfl
  rw [hf]
  refine ⟨x1, ?_⟩
  unfold sv
  rw [neg_nearest, x2]
  have hu : 2 ^ ((0 : Int) - FloatKind.f64.format.leastPlace).toNat = un 0 := by unfold un; rw [show ((0 : Nat) : Int) = 0 from rfl]
  rw [hu]
  generalize un 0 = u
  by_cases h : n < 0
  · simp only [h, decide_true, if_true]
    have : (n.natAbs : Int) = -n := by omega
    rw [Int.natCast_mul, this, Int.neg_mul, Int.neg_neg]
  · simp only [h, decide_false, Bool.false_eq_true, if_false]
    have : (n.natAbs : Int) = n := by omega
    rw [Int.natCast_mul, this]

/-- Nearer to 0 than 2^52. -/
def small (x : Option Nat) : Prop := ∃ b, x = some b ∧ rung .f64 b < (52 + 1023) * 4503599627370496

theorem small_fin {b : Nat} (h : rung .f64 b < (52 + 1023) * 4503599627370496) : rung .f64 b < FloatKind.f64.format.infRung := by
  have e : FloatKind.f64.format.infRung = 9218868437227405312 := by decide
  rw [e]; omega

theorem U_52 : U .f64 ((52 + 1023) * 4503599627370496) = 4503599627370496 * un 0 := by
  have e6 : FloatKind.f64.format.binade = 4503599627370496 := by decide
  have hk : ((0 : Nat) : Int) - FloatKind.f64.format.leastPlace = 1074 := by rw [least64]; rfl
  unfold U un
  rw [hk]
  generalize hn : (1074 : Int).toNat = n
  generalize hm : (52 + 1023) * 4503599627370496 = r
  have hr : r / 4503599627370496 - 1 = n := by omega
  have hr2 : r % 4503599627370496 = 0 := by omega
  rw [e6, if_neg (by omega), hr, hr2, Nat.add_zero]

theorem tz_small {b : Nat} (h : rung .f64 b < (52 + 1023) * 4503599627370496) : (tz b).natAbs < 4503599627370496 := by
  obtain ⟨_, _, h3⟩ := tz_units (small_fin h)
  have h4 := U_lt .f64 h
  rw [U_52] at h4
  have h5 : (tz b).natAbs * un 0 < 4503599627370496 * un 0 := Nat.lt_of_le_of_lt h3 h4
  exact Nat.lt_of_mul_lt_mul_right h5

theorem toInt_small {b : Nat} (h : rung .f64 b < (52 + 1023) * 4503599627370496) : floatToIntVal .f64 b .i64 = some (tz b) := by
  obtain ⟨h1, _, _⟩ := tz_units (small_fin h)
  have h2 := tz_small h
  unfold floatToIntVal
  rw [h1]
  simp only
  rw [if_pos]
  constructor
  · show (-9223372036854775808 : Int) ≤ _; omega
  · show _ ≤ (9223372036854775807 : Int); omega

/-- What is beyond the whole turns, before a turn is added. -/
def beyond (b : Nat) : Option Nat := fop .sub .f64 (vl .f64 b) (vl .f64 (floatOfInt .f64 (tz b)))

theorem beyond_bd {b : Nat} (h : rung .f64 b < (52 + 1023) * 4503599627370496) : ∃ r, beyond b = some r ∧ Bd .f64 0 (beyond b) := by
  have hf := small_fin h
  obtain ⟨_, h2, _⟩ := tz_units hf
  obtain ⟨g1, g2⟩ := ofInt_units (tz b) (by have := tz_small h; omega)
  obtain ⟨r, r1, r2⟩ := sub_units (E := 0) hf g1 (by rw [g2]; exact h2)
  have e : beyond b = some r := by unfold beyond; rw [fin_vl hf, fin_vl g1]; exact r1
  exact ⟨r, e, fun b' hb' => by rw [e] at hb'; cases hb'; exact r2⟩
end Go.Proofs.Ytljclagfplildaa.Fl
