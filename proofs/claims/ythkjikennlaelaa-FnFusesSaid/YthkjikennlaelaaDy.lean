/-
  Plain facts on floats, no program: floats that are whole numbers of a unit 2^-d: sums, products, conversions and quotients by powers of two of them are exact. No theorem of a claim stands here.
-/
import Derived.Test.YthkjikennlaelaaWhole
set_option linter.unusedSimpArgs false
set_option linter.unusedVariables false
namespace Go.Proofs.Ythkjikennlaelaa.Fl
open Go Go.RowKit

/-- The float b is n units of 2^-d. -/
def Dy (k : FloatKind) (d : Nat) (b : Nat) (n : Int) : Prop := rung k b < k.format.infRung ∧ U k (rung k b) * 2 ^ d = n.natAbs * un1 k ∧ (n ≠ 0 → neg k b = decide (n < 0))
theorem onu_ge (k : FloatKind) : 100 ≤ onu k := by cases k <;> decide
theorem log_frac (k : FloatKind) {N : Nat} (hN : N < 2 * k.format.binade) (n0 : N ≠ 0) : N.log2 ≤ k.format.fractionBits := by
  have := (Nat.log2_lt n0).2 (show N < 2 ^ (k.format.fractionBits + 1) by rw [Nat.pow_succ, Nat.mul_comm]; exact hN)
  omega

theorem nearest_dy (k : FloatKind) (s : Bool) (m : Nat) (i : Int) (N d : Nat) (hd : d ≤ 60) (hN : N < 2 * k.format.binade) (e : Nat) (hi : 0 ≤ i + e) (hv : m * 2 ^ (i + e).toNat * 2 ^ d = N * 2 ^ e) :
    rung k (k.format.nearest s m i) < k.format.infRung ∧ U k (rung k (k.format.nearest s m i)) * 2 ^ d = N * un1 k := by
  have hlp := least_onu k
  have hfr := frac_onu k
  have hon := onu_ge k
  have hB : 0 < k.format.binade := Nat.two_pow_pos _
  have hpos := Nat.two_pow_pos
  by_cases n0 : N = 0
  · subst n0
    have m0 : m = 0 := by
      rw [Nat.zero_mul] at hv
      rcases Nat.mul_eq_zero.1 hv with h | h
      · rcases Nat.mul_eq_zero.1 h with h | h
        · exact h
        · exact absurd h (Nat.ne_of_gt (hpos _))
      · exact absurd h (Nat.ne_of_gt (hpos _))
    subst m0
    have hr : rung k (k.format.nearest s 0 i) = 0 := by unfold rung; rw [nearest_rung, if_pos rfl]
    rw [hr]
    refine ⟨by cases k <;> decide, ?_⟩
    unfold U; rw [if_pos hB]; simp
  · have hlogN := log_frac k hN n0
    have key : k.format.nearest s m i = k.format.nearest s N (-(d : Int)) := by
      by_cases h0 : i ≤ -(d : Int)
      · have em : m = N * 2 ^ (-(d : Int) - i).toNat := by
          have : N * 2 ^ e = N * 2 ^ (-(d : Int) - i).toNat * 2 ^ ((i + e).toNat + d) := by rw [Nat.mul_assoc, ← Nat.pow_add]; congr 2; omega
          rw [this, Nat.mul_assoc, ← Nat.pow_add] at hv
          exact Nat.eq_of_mul_eq_mul_right (hpos _) hv
        rw [em, nearest_shift _ _ n0 _ _ (by rw [hlp]; omega)]
        congr 1
        omega
      · have eN : N = m * 2 ^ (i + d).toNat := by
          have : m * 2 ^ (i + e).toNat * 2 ^ d = m * 2 ^ (i + d).toNat * 2 ^ e := by rw [Nat.mul_assoc, Nat.mul_assoc, ← Nat.pow_add, ← Nat.pow_add]; congr 2; omega
          rw [this] at hv
          exact (Nat.eq_of_mul_eq_mul_right (hpos _) hv).symm
        have m0 : m ≠ 0 := fun h => n0 (by rw [eN, h, Nat.zero_mul])
        have hl := log2_shift m0 (i + d).toNat
        rw [← eN] at hl
        have h2 := nearest_shift k.format s m0 (-(d : Int)) (i + d).toNat (by rw [hlp]; omega)
        rw [← eN] at h2
        rw [h2]
        congr 1
        omega
    rw [key]
    obtain ⟨x1, x2⟩ := nearest_exact k s N (-(d : Int)) hN (by rw [hlp]; omega) (.inr (by omega))
    refine ⟨x1, ?_⟩
    rw [x2, Nat.mul_assoc, ← Nat.pow_add]
    unfold un1
    congr 2
    rw [hlp]; omega
theorem dy_nearest (k : FloatKind) (s : Bool) (m : Nat) (i : Int) (d : Nat) (n : Int) (hd : d ≤ 60) (hN : n.natAbs < 2 * k.format.binade) (e : Nat) (hi : 0 ≤ i + e) (hv : m * 2 ^ (i + e).toNat * 2 ^ d = n.natAbs * 2 ^ e) (hs : n ≠ 0 → s = decide (n < 0)) :
    Dy k d (k.format.nearest s m i) n := by
  obtain ⟨h1, h2⟩ := nearest_dy k s m i n.natAbs d hd hN e hi hv
  exact ⟨h1, h2, fun h => (neg_nearest _ _ _ _).trans (hs h)⟩

/-- What it reads as. -/
theorem dy_read {k : FloatKind} {d b : Nat} {n : Int} (h : Dy k d b n) : ∃ m i, k.decode b = .number (neg k b) m i ∧ 0 ≤ i + (onu k : Int) ∧ m * 2 ^ (i + (onu k : Int)).toNat * 2 ^ d = n.natAbs * 2 ^ onu k ∧ m < 2 * k.format.binade := by
  obtain ⟨m, i, h1, h2, h3, h4⟩ := read_units k b h.1
  rw [least_onu] at h2 h3
  refine ⟨m, i, h1, by omega, ?_, h4⟩
  have := h.2.1
  rw [← h3] at this
  rw [show i + (onu k : Int) = i - -(onu k : Int) by omega]
  exact this
theorem dy_vl {k : FloatKind} {d b : Nat} {n : Int} (h : Dy k d b n) : vl k b = some b := fin_vl h.1
theorem dy_wh {k : FloatKind} {b : Nat} {n : Int} (h : Dy k 0 b n) : Wh k b n := ⟨h.1, by have := h.2.1; rwa [Nat.pow_zero, Nat.mul_one] at this, h.2.2⟩
theorem wh_dy {k : FloatKind} {b : Nat} {n : Int} (h : Wh k b n) : Dy k 0 b n := ⟨h.1, by rw [Nat.pow_zero, Nat.mul_one]; exact h.2.1, h.2.2⟩
/-- A finer unit. -/
theorem Dy.finer {k : FloatKind} {d b : Nat} {n : Int} (h : Dy k d b n) (e : Nat) : Dy k (d + e) b (n * (2 ^ e : Nat)) := by
  have hp := Nat.two_pow_pos e
  refine ⟨h.1, ?_, fun h0 => ?_⟩
  · rw [Nat.pow_add, ← Nat.mul_assoc, h.2.1, Int.natAbs_mul, Int.natAbs_natCast]
    simp only [Nat.mul_assoc, Nat.mul_comm, Nat.mul_left_comm]
  · have hn : n ≠ 0 := fun e1 => h0 (by rw [e1, Int.zero_mul])
    rw [h.2.2 hn]
    congr 1
    apply propext
    constructor
    · intro h1; exact Int.mul_neg_of_neg_of_pos h1 (by omega)
    · intro h1
      by_cases h2 : n < 0
      · exact h2
      · have := Int.mul_nonneg (show 0 ≤ n by omega) (show (0 : Int) ≤ (2 ^ e : Nat) by omega); omega
theorem Dy.coarser {k : FloatKind} {d e b : Nat} {n m : Int} (h : Dy k (d + e) b m) (hm : m = n * (2 ^ e : Nat)) : Dy k d b n := by
  have hp := Nat.two_pow_pos e
  subst hm
  refine ⟨h.1, ?_, fun h0 => ?_⟩
  · have h1 := h.2.1
    rw [Nat.pow_add, ← Nat.mul_assoc, Int.natAbs_mul, Int.natAbs_natCast, Nat.mul_assoc n.natAbs, Nat.mul_comm (2 ^ e) (un1 k), ← Nat.mul_assoc] at h1
    exact Nat.eq_of_mul_eq_mul_right hp h1
  · have h0' : n * ((2 ^ e : Nat) : Int) ≠ 0 := Int.mul_ne_zero h0 (by omega)
    rw [h.2.2 h0']
    congr 1
    apply propext
    constructor
    · intro h1
      by_cases h2 : n < 0
      · exact h2
      · have := Int.mul_nonneg (show 0 ≤ n by omega) (show (0 : Int) ≤ (2 ^ e : Nat) by omega); omega
    · intro h1; exact Int.mul_neg_of_neg_of_pos h1 (by omega)
theorem dy_sv {k : FloatKind} {d b : Nat} {n : Int} (h : Dy k d b n) : sv k b * (2 ^ d : Nat) = n * (un1 k : Nat) := by
  unfold sv
  have h2 := h.2.1
  by_cases h0 : n = 0
  · subst h0
    have : U k (rung k b) = 0 := by
      rw [Int.natAbs_zero, Nat.zero_mul] at h2
      rcases Nat.mul_eq_zero.1 h2 with h | h
      · exact h
      · exact absurd h (Nat.ne_of_gt (Nat.two_pow_pos _))
    rw [this]; simp
  · rw [h.2.2 h0]
    have h3 : ((U k (rung k b) * 2 ^ d : Nat) : Int) = (n.natAbs * un1 k : Nat) := by rw [h2]
    rw [Int.natCast_mul, Int.natCast_mul] at h3
    by_cases hn : n < 0
    · have e : (n.natAbs : Int) = -n := by omega
      rw [if_pos (by simp [hn]), Int.neg_mul, h3, e, Int.neg_mul, Int.neg_neg]
    · have e : (n.natAbs : Int) = n := by omega
      rw [if_neg (by simp [hn]), h3, e]
theorem dy_order {k : FloatKind} {d a b : Nat} {n m : Int} (ha : Dy k d a n) (hb : Dy k d b m) : k.format.order a b = some (compare n m) := by
  rw [order_units k a b ha.1 hb.1, ← compare_scale _ _ _ (Nat.two_pow_pos d), dy_sv ha, dy_sv hb, compare_scale _ _ _ (un1_pos k)]

/-- The value (up to which not-a-number) is n units of 2^-d. -/
def DyV (k : FloatKind) (d : Nat) (x : Option Nat) (n : Int) : Prop := ∃ b, x = some b ∧ Dy k d b n
theorem DyV.of {k : FloatKind} {d b : Nat} {n : Int} (h : Dy k d b n) : DyV k d (vl k b) n := ⟨b, dy_vl h, h⟩
theorem DyV.finer {k : FloatKind} {d : Nat} {x : Option Nat} {n : Int} (h : DyV k d x n) (e : Nat) : DyV k (d + e) x (n * (2 ^ e : Nat)) := by
  obtain ⟨b, h1, h2⟩ := h
  exact ⟨b, h1, h2.finer e⟩

theorem DyV.mul {k : FloatKind} {d d' : Nat} {x y : Option Nat} {n m : Int} (hx : DyV k d x n) (hy : DyV k d' y m) (hd : d + d' ≤ 60) (hN : (n * m).natAbs < 2 * k.format.binade) : DyV k (d + d') (fop .mul k x y) (n * m) := by
  obtain ⟨a, rfl, ha⟩ := hx
  obtain ⟨b, rfl, hb⟩ := hy
  obtain ⟨p, i, r1, i1, v1, _⟩ := dy_read ha
  obtain ⟨q, j, r2, j1, v2, _⟩ := dy_read hb
  refine ⟨k.format.nearest (neg k a ^^ neg k b) (p * q) (i + j), ?_, dy_nearest k _ _ _ _ _ hd hN (onu k + onu k) (by omega) ?_ (fun h => mul_sign n m h _ _ ha.2.2 hb.2.2)⟩
  · simp only [fop, Option.bind_some, floatBits, Ieee.Format.mul]
    rw [show k.format.read a = _ from r1, show k.format.read b = _ from r2]
    rfl
  · rw [show (i + j + ((onu k + onu k : Nat) : Int)).toNat = (i + (onu k : Int)).toNat + (j + (onu k : Int)).toNat by omega, Nat.pow_add, Nat.pow_add, Nat.pow_add, Int.natAbs_mul]
    have e1 : p * q * (2 ^ (i + (onu k : Int)).toNat * 2 ^ (j + (onu k : Int)).toNat) * (2 ^ d * 2 ^ d') = (p * 2 ^ (i + (onu k : Int)).toNat * 2 ^ d) * (q * 2 ^ (j + (onu k : Int)).toNat * 2 ^ d') := by
      simp only [Nat.mul_assoc, Nat.mul_comm, Nat.mul_left_comm]
    rw [e1, v1, v2, Nat.mul_mul_mul_comm]

theorem sum_dy (k : FloatKind) (s t : Bool) (p q : Nat) (i j : Int) (d : Nat) (n m : Int) (hd : d ≤ 60) (i1 : 0 ≤ i + (onu k : Int)) (j1 : 0 ≤ j + (onu k : Int))
    (h1 : Ieee.signed s p (i + (onu k : Int)).toNat * (2 ^ d : Nat) = n * (2 ^ onu k : Nat)) (h2 : Ieee.signed t q (j + (onu k : Int)).toNat * (2 ^ d : Nat) = m * (2 ^ onu k : Nat)) (hN : (n + m).natAbs < 2 * k.format.binade) (z : Bool) :
    Dy k d (k.format.nearest (if Ieee.signed s p (i - min i j).toNat + Ieee.signed t q (j - min i j).toNat = 0 then z else decide (Ieee.signed s p (i - min i j).toNat + Ieee.signed t q (j - min i j).toNat < 0))
      (Ieee.signed s p (i - min i j).toNat + Ieee.signed t q (j - min i j).toNat).natAbs (min i j)) (n + m) := by
  generalize hT : Ieee.signed s p (i - min i j).toNat + Ieee.signed t q (j - min i j).toNat = T
  have hval : T * (2 ^ (min i j + (onu k : Int)).toNat * 2 ^ d : Nat) = (n + m) * (2 ^ onu k : Nat) := by
    rw [Int.add_mul, ← h1, ← h2, ← hT, Int.add_mul, Int.natCast_mul]
    rw [show (i + (onu k : Int)).toNat = (i - min i j).toNat + (min i j + (onu k : Int)).toNat by omega, signed_scale]
    rw [show (j + (onu k : Int)).toNat = (j - min i j).toNat + (min i j + (onu k : Int)).toNat by omega, signed_scale]
    rw [Int.mul_assoc, Int.mul_assoc]
  have hp1 : 0 < ((2 ^ (min i j + (onu k : Int)).toNat * 2 ^ d : Nat) : Int) := by have := Nat.mul_pos (Nat.two_pow_pos (min i j + (onu k : Int)).toNat) (Nat.two_pow_pos d); omega
  have hp2 : 0 < ((2 ^ onu k : Nat) : Int) := by have := Nat.two_pow_pos (onu k); omega
  refine dy_nearest k _ _ _ _ _ hd hN (onu k) (by omega) ?_ ?_
  · have := congrArg Int.natAbs hval
    rw [Int.natAbs_mul, Int.natAbs_mul, Int.natAbs_natCast, Int.natAbs_natCast, ← Nat.mul_assoc] at this
    exact this
  · intro h
    have hT0 : T ≠ 0 := by
      intro e
      rw [e, Int.zero_mul] at hval
      rcases Int.mul_eq_zero.1 hval.symm with h3 | h3
      · exact h h3
      · omega
    rw [if_neg hT0]
    congr 1
    apply propext
    constructor
    · intro hn
      have : T * ((2 ^ (min i j + (onu k : Int)).toNat * 2 ^ d : Nat) : Int) < 0 := Int.mul_neg_of_neg_of_pos hn hp1
      rw [hval] at this
      by_cases h3 : n + m < 0
      · exact h3
      · have := Int.mul_nonneg (show 0 ≤ n + m by omega) (Int.le_of_lt hp2); omega
    · intro hn
      have : (n + m) * ((2 ^ onu k : Nat) : Int) < 0 := Int.mul_neg_of_neg_of_pos hn hp2
      rw [← hval] at this
      by_cases h3 : T < 0
      · exact h3
      · have := Int.mul_nonneg (show 0 ≤ T by omega) (Int.le_of_lt hp1); omega
theorem dy_signed {k : FloatKind} {d b : Nat} {n : Int} (h : Dy k d b n) {m : Nat} {i : Int} (hv : m * 2 ^ (i + (onu k : Int)).toNat * 2 ^ d = n.natAbs * 2 ^ onu k) : Ieee.signed (neg k b) m (i + (onu k : Int)).toNat * (2 ^ d : Nat) = n * (2 ^ onu k : Nat) := by
  unfold Ieee.signed
  rw [Nat.shiftLeft_eq]
  have h3 : ((m * 2 ^ (i + (onu k : Int)).toNat : Nat) : Int) * (2 ^ d : Nat) = (n.natAbs : Int) * (2 ^ onu k : Nat) := by rw [← Int.natCast_mul, hv, Int.natCast_mul]
  by_cases h0 : n = 0
  · subst h0
    rw [Int.natAbs_zero, Int.natCast_zero, Int.zero_mul] at h3
    split
    · rw [Int.neg_mul, h3]; simp
    · rw [h3]; simp
  · rw [h.2.2 h0]
    by_cases hn : n < 0
    · have e : (n.natAbs : Int) = -n := by omega
      rw [if_pos (by simp [hn]), Int.neg_mul, h3, e, Int.neg_mul, Int.neg_neg]
    · have e : (n.natAbs : Int) = n := by omega
      rw [if_neg (by simp [hn]), h3, e]
theorem DyV.add {k : FloatKind} {d : Nat} {x y : Option Nat} {n m : Int} (hx : DyV k d x n) (hy : DyV k d y m) (hd : d ≤ 60) (hN : (n + m).natAbs < 2 * k.format.binade) : DyV k d (fop .add k x y) (n + m) := by
  obtain ⟨a, rfl, ha⟩ := hx
  obtain ⟨b, rfl, hb⟩ := hy
  obtain ⟨p, i, r1, i1, v1, _⟩ := dy_read ha
  obtain ⟨q, j, r2, j1, v2, _⟩ := dy_read hb
  refine ⟨_, ?_, sum_dy k (neg k a) (neg k b) p q i j d n m hd i1 j1 (dy_signed ha v1) (dy_signed hb v2) hN (neg k a && neg k b)⟩
  simp only [fop, Option.bind_some, floatBits, Ieee.Format.add]
  rw [show k.format.read a = _ from r1, show k.format.read b = _ from r2]
  rfl
theorem DyV.sub {k : FloatKind} {d : Nat} {x y : Option Nat} {n m : Int} (hx : DyV k d x n) (hy : DyV k d y m) (hd : d ≤ 60) (hN : (n - m).natAbs < 2 * k.format.binade) : DyV k d (fop .sub k x y) (n - m) := by
  obtain ⟨a, rfl, ha⟩ := hx
  obtain ⟨b, rfl, hb⟩ := hy
  obtain ⟨p, i, r1, i1, v1, _⟩ := dy_read ha
  obtain ⟨q, j, r2, j1, v2, _⟩ := dy_read hb
  rw [Int.sub_eq_add_neg] at hN ⊢
  refine ⟨_, ?_, sum_dy k (neg k a) (!neg k b) p q i j d n (-m) hd i1 j1 (dy_signed ha v1) (by rw [signed_not, Int.neg_mul, dy_signed hb v2, Int.neg_mul]) hN (neg k a && !neg k b)⟩
  simp only [fop, Option.bind_some, floatBits, Ieee.Format.sub]
  rw [show k.format.read a = _ from r1, show k.format.read b = _ from r2]
  rfl
theorem DyV.widen {d : Nat} {x : Option Nat} {n : Int} (hx : DyV .f32 d x n) : DyV .f64 d (fcv .f32 .f64 x) n := by
  obtain ⟨a, rfl, ha⟩ := hx
  obtain ⟨r, h1, h2, h3, h4⟩ := widen_fin a ha.1
  refine ⟨r, h1, h2, ?_, fun h => h3.trans (ha.2.2 h)⟩
  have hu : un1 .f32 * scaleW = un1 .f64 := by
    have e1 : onu .f64 = onu .f32 + gapW := by rw [gapW_eq]; decide
    unfold un1
    rw [scaleW_eq _ _ e1]
  rw [h4, Nat.mul_right_comm, ha.2.1, Nat.mul_assoc, hu]
theorem DyV.narrow {d : Nat} {x : Option Nat} {n : Int} (hx : DyV .f64 d x n) (hd : d ≤ 60) (hN : n.natAbs < 16777216) : DyV .f32 d (fcv .f64 .f32 x) n ∧ over .f64 .f32 x = false := by
  obtain ⟨a, rfl, ha⟩ := hx
  obtain ⟨p, i, r1, i1, v1, _⟩ := dy_read ha
  have e5 : FloatKind.f32.format.binade = 8388608 := by decide
  have hw := dy_nearest .f32 (neg .f64 a) p i d n hd (by rw [e5]; omega) (onu .f64) i1 v1 ha.2.2
  have hfin : (FloatKind.f32.decode (FloatKind.f32.encode (.number (neg .f64 a) p i))).isInfinity = false := by
    obtain ⟨p', i', r2, _⟩ := dy_read hw
    rw [show FloatKind.f32.encode (.number (neg .f64 a) p i) = FloatKind.f32.format.nearest (neg .f64 a) p i from rfl, r2]
    rfl
  refine ⟨⟨_, ?_, hw⟩, ?_⟩
  · simp only [fcv, Option.bind_some, floatToFloatBits, r1]
    rw [if_neg (by decide), hfin]
    rfl
  · simp only [over, Option.any_some, r1, hfin]
    rfl
end Go.Proofs.Ythkjikennlaelaa.Fl
