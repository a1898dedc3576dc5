/-
  Plain facts on floats, no program: products, sums, narrowed numbers and roots of floats that are whole numbers of a unit, off by half a unit of the last place. No theorem of a claim stands here.
-/
import Derived.Test.YtljclagfplildaaRel
import Derived.Test.YtljclagfplildaaMath
set_option linter.unusedSimpArgs false
set_option linter.unusedVariables false
namespace Go.Proofs.Ytljclagfplildaa.Fl
open Go Go.RowKit

/-- n is off N by half a unit of the last place. -/
def OffI (k : FloatKind) (n N : Int) : Prop := (n - N).natAbs * (2 * k.format.binade) ≤ N.natAbs
theorem OffI.e32 {n N : Int} (h : OffI .f32 n N) : 16777216 * (n - N).natAbs ≤ N.natAbs := by
  have e : FloatKind.f32.format.binade = 8388608 := by decide
  unfold OffI at h; rw [e, Nat.mul_comm] at h; exact h
theorem OffI.e64 {n N : Int} (h : OffI .f64 n N) : 9007199254740992 * (n - N).natAbs ≤ N.natAbs := by
  have e : FloatKind.f64.format.binade = 4503599627370496 := by decide
  unfold OffI at h; rw [e, Nat.mul_comm] at h; exact h
theorem OffI.zero {k : FloatKind} {n : Int} (h : OffI k n 0) : n = 0 := by
  have hB : 0 < k.format.binade := Nat.two_pow_pos _
  unfold OffI at h
  have h1 : (n - 0).natAbs * (2 * k.format.binade) = 0 := by simpa using h
  rcases Nat.mul_eq_zero.1 h1 with h2 | h2
  · omega
  · omega

theorem off_int {k : FloatKind} {n0 : Nat} {N : Int} (h : Off k n0 N.natAbs) : OffI k (if N < 0 then -(n0 : Int) else n0) N := by
  have hB : 0 < k.format.binade := Nat.two_pow_pos _
  obtain ⟨h1, h2⟩ := h
  have e : ((if N < 0 then -(n0 : Int) else n0) - N).natAbs = ((n0 : Int) - N.natAbs).natAbs := by split <;> omega
  unfold OffI
  rw [e]
  generalize N.natAbs = M at *
  rw [Nat.add_mul, Nat.one_mul] at h1
  have q1 : 2 * n0 * k.format.binade = n0 * (2 * k.format.binade) := by rw [Nat.mul_comm 2 n0, Nat.mul_assoc]
  have q2 : 2 * k.format.binade * M = M * (2 * k.format.binade) := Nat.mul_comm _ _
  rw [q1, q2] at h1 h2
  by_cases hle : n0 ≤ M
  · have e2 : ((n0 : Int) - M).natAbs = M - n0 := by omega
    rw [e2, Nat.sub_mul]
    omega
  · have e2 : ((n0 : Int) - M).natAbs = n0 - M := by omega
    rw [e2, Nat.sub_mul]
    omega

theorem rel_nearest (k : FloatKind) (s : Bool) (m : Nat) (i : Int) (d : Nat) (N : Int) (hd : d + 1 ≤ bias k) (hN : N.natAbs < 2 ^ (d + 100)) (e : Nat) (hi : 0 ≤ i + e) (hv : m * 2 ^ (i + e).toNat * 2 ^ d = N.natAbs * 2 ^ e) (hs : N ≠ 0 → s = decide (N < 0)) :
    ∃ n : Int, Dy k d (k.format.nearest s m i) n ∧ OffI k n N := by
  obtain ⟨n0, ⟨h1, h2⟩, h3⟩ := nearest_rel k s m i N.natAbs d hd hN e hi hv
  refine ⟨if N < 0 then -(n0 : Int) else n0, ⟨h1, ?_, fun h => ?_⟩, off_int h3⟩
  · rw [h2]; congr 1; split <;> omega
  · rw [neg_nearest]
    have hN0 : N ≠ 0 := by
      intro e
      subst e
      exact h (off_int h3).zero
    rw [hs hN0]
    congr 1
    apply propext
    split at h <;> split <;> omega

theorem mul_sgn {k : FloatKind} {a b d d' : Nat} {n m : Int} (ha : Dy k d a n) (hb : Dy k d' b m) (h : n * m ≠ 0) : (neg k a ^^ neg k b) = decide (n * m < 0) := mul_sign n m h _ _ ha.2.2 hb.2.2

theorem DyV.mul' {k : FloatKind} {d d' : Nat} {x y : Option Nat} {n m : Int} (hx : DyV k d x n) (hy : DyV k d' y m) (hd : d + d' + 1 ≤ bias k) (hN : (n * m).natAbs < 2 ^ (d + d' + 100)) : ∃ r, DyV k (d + d') (fop .mul k x y) r ∧ OffI k r (n * m) := by
  obtain ⟨a, rfl, ha⟩ := hx
  obtain ⟨b, rfl, hb⟩ := hy
  obtain ⟨p, i, r1, i1, v1, _⟩ := dy_read ha
  obtain ⟨q, j, r2, j1, v2, _⟩ := dy_read hb
  obtain ⟨r, h1, h2⟩ := rel_nearest k (neg k a ^^ neg k b) (p * q) (i + j) (d + d') (n * m) hd hN (onu k + onu k) (by omega) (by
    rw [show (i + j + ((onu k + onu k : Nat) : Int)).toNat = (i + (onu k : Int)).toNat + (j + (onu k : Int)).toNat by omega, Nat.pow_add, Nat.pow_add, Nat.pow_add, Int.natAbs_mul]
    have e1 : p * q * (2 ^ (i + (onu k : Int)).toNat * 2 ^ (j + (onu k : Int)).toNat) * (2 ^ d * 2 ^ d') = (p * 2 ^ (i + (onu k : Int)).toNat * 2 ^ d) * (q * 2 ^ (j + (onu k : Int)).toNat * 2 ^ d') := by
      simp only [Nat.mul_assoc, Nat.mul_comm, Nat.mul_left_comm]
    rw [e1, v1, v2, Nat.mul_mul_mul_comm]) (mul_sgn ha hb)
  refine ⟨r, ⟨_, ?_, h1⟩, h2⟩
  simp only [fop, Option.bind_some, floatBits, Ieee.Format.mul]
  rw [show k.format.read a = _ from r1, show k.format.read b = _ from r2]
  rfl

theorem rel_sum (k : FloatKind) (s t : Bool) (p q : Nat) (i j : Int) (d : Nat) (n m : Int) (hd : d + 1 ≤ bias k) (i1 : 0 ≤ i + (onu k : Int)) (j1 : 0 ≤ j + (onu k : Int))
    (h1 : Ieee.signed s p (i + (onu k : Int)).toNat * (2 ^ d : Nat) = n * (2 ^ onu k : Nat)) (h2 : Ieee.signed t q (j + (onu k : Int)).toNat * (2 ^ d : Nat) = m * (2 ^ onu k : Nat)) (hN : (n + m).natAbs < 2 ^ (d + 100)) (z : Bool) :
    ∃ r, Dy k d (k.format.nearest (if Ieee.signed s p (i - min i j).toNat + Ieee.signed t q (j - min i j).toNat = 0 then z else decide (Ieee.signed s p (i - min i j).toNat + Ieee.signed t q (j - min i j).toNat < 0))
      (Ieee.signed s p (i - min i j).toNat + Ieee.signed t q (j - min i j).toNat).natAbs (min i j)) r ∧ OffI k r (n + m) := by
  generalize hT : Ieee.signed s p (i - min i j).toNat + Ieee.signed t q (j - min i j).toNat = T
  have hval : T * (2 ^ (min i j + (onu k : Int)).toNat * 2 ^ d : Nat) = (n + m) * (2 ^ onu k : Nat) := by
    rw [Int.add_mul, ← h1, ← h2, ← hT, Int.add_mul, Int.natCast_mul]
    rw [show (i + (onu k : Int)).toNat = (i - min i j).toNat + (min i j + (onu k : Int)).toNat by omega, signed_scale]
    rw [show (j + (onu k : Int)).toNat = (j - min i j).toNat + (min i j + (onu k : Int)).toNat by omega, signed_scale]
    rw [Int.mul_assoc, Int.mul_assoc]
  have hp1 : 0 < ((2 ^ (min i j + (onu k : Int)).toNat * 2 ^ d : Nat) : Int) := by have := Nat.mul_pos (Nat.two_pow_pos (min i j + (onu k : Int)).toNat) (Nat.two_pow_pos d); omega
  have hp2 : 0 < ((2 ^ onu k : Nat) : Int) := by have := Nat.two_pow_pos (onu k); omega
  refine rel_nearest k _ _ _ _ _ hd hN (onu k) (by omega) ?_ ?_
  · have := congrArg Int.natAbs hval
    rw [Int.natAbs_mul, Int.natAbs_mul, Int.natAbs_natCast, Int.natAbs_natCast, ← Nat.mul_assoc] at this
    exact this
  · intro h
    have hT0 : T ≠ 0 := by
      intro e
      rw [e, Int.zero_mul] at hval
      rcases Int.mul_eq_zero.1 hval.symm with h3 | h3
      · exact h h3
      · omega
    rw [if_neg hT0]
    congr 1
    apply propext
    constructor
    · intro hn
      have : T * ((2 ^ (min i j + (onu k : Int)).toNat * 2 ^ d : Nat) : Int) < 0 := Int.mul_neg_of_neg_of_pos hn hp1
      rw [hval] at this
      by_cases h3 : n + m < 0
      · exact h3
      · have := Int.mul_nonneg (show 0 ≤ n + m by omega) (Int.le_of_lt hp2); omega
    · intro hn
      have : (n + m) * ((2 ^ onu k : Nat) : Int) < 0 := Int.mul_neg_of_neg_of_pos hn hp2
      rw [← hval] at this
      by_cases h3 : T < 0
      · exact h3
      · have := Int.mul_nonneg (show 0 ≤ T by omega) (Int.le_of_lt hp1); omega

theorem DyV.add' {k : FloatKind} {d : Nat} {x y : Option Nat} {n m : Int} (hx : DyV k d x n) (hy : DyV k d y m) (hd : d + 1 ≤ bias k) (hN : (n + m).natAbs < 2 ^ (d + 100)) : ∃ r, DyV k d (fop .add k x y) r ∧ OffI k r (n + m) := by
  obtain ⟨a, rfl, ha⟩ := hx
  obtain ⟨b, rfl, hb⟩ := hy
  obtain ⟨p, i, r1, i1, v1, _⟩ := dy_read ha
  obtain ⟨q, j, r2, j1, v2, _⟩ := dy_read hb
  obtain ⟨r, h1, h2⟩ := rel_sum k (neg k a) (neg k b) p q i j d n m hd i1 j1 (dy_signed ha v1) (dy_signed hb v2) hN (neg k a && neg k b)
  refine ⟨r, ⟨_, ?_, h1⟩, h2⟩
  simp only [fop, Option.bind_some, floatBits, Ieee.Format.add]
  rw [show k.format.read a = _ from r1, show k.format.read b = _ from r2]
  rfl
theorem DyV.sub' {k : FloatKind} {d : Nat} {x y : Option Nat} {n m : Int} (hx : DyV k d x n) (hy : DyV k d y m) (hd : d + 1 ≤ bias k) (hN : (n - m).natAbs < 2 ^ (d + 100)) : ∃ r, DyV k d (fop .sub k x y) r ∧ OffI k r (n - m) := by
  obtain ⟨a, rfl, ha⟩ := hx
  obtain ⟨b, rfl, hb⟩ := hy
  obtain ⟨p, i, r1, i1, v1, _⟩ := dy_read ha
  obtain ⟨q, j, r2, j1, v2, _⟩ := dy_read hb
  rw [Int.sub_eq_add_neg] at hN
  obtain ⟨r, h1, h2⟩ := rel_sum k (neg k a) (!neg k b) p q i j d n (-m) hd i1 j1 (dy_signed ha v1) (by rw [signed_not, Int.neg_mul, dy_signed hb v2, Int.neg_mul]) hN (neg k a && !neg k b)
  refine ⟨r, ⟨_, ?_, h1⟩, by rw [Int.sub_eq_add_neg]; exact h2⟩
  simp only [fop, Option.bind_some, floatBits, Ieee.Format.sub]
  rw [show k.format.read a = _ from r1, show k.format.read b = _ from r2]
  rfl
theorem DyV.narrow' {d : Nat} {x : Option Nat} {n : Int} (hx : DyV .f64 d x n) (hd : d ≤ 126) (hN : n.natAbs < 2 ^ (d + 100)) : ∃ r, DyV .f32 d (fcv .f64 .f32 x) r ∧ OffI .f32 r n ∧ over .f64 .f32 x = false := by
  obtain ⟨a, rfl, ha⟩ := hx
  obtain ⟨p, i, r1, i1, v1, _⟩ := dy_read ha
  obtain ⟨r, hw, ho⟩ := rel_nearest .f32 (neg .f64 a) p i d n (by have : bias .f32 = 127 := rfl; omega) hN (onu .f64) i1 v1 ha.2.2
  have hfin : (FloatKind.f32.decode (FloatKind.f32.encode (.number (neg .f64 a) p i))).isInfinity = false := by
    obtain ⟨p', i', r2, _⟩ := dy_read hw
    rw [show FloatKind.f32.encode (.number (neg .f64 a) p i) = FloatKind.f32.format.nearest (neg .f64 a) p i from rfl, r2]
    rfl
  refine ⟨r, ⟨_, ?_, hw⟩, ho, ?_⟩
  · simp only [fcv, Option.bind_some, floatToFloatBits, r1]
    rw [if_neg (by decide), hfin]
    rfl
  · simp only [over, Option.any_some, r1, hfin]
    rfl
end Go.Proofs.Ytljclagfplildaa.Fl
