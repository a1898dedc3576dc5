/-
  Plain facts on floats, no program: floats that are whole numbers: products, sums, quotients, conversions of them are exact. No theorem of a claim stands here.
-/
import Derived.Test.YthkjikennlaelaaNarrB
set_option linter.unusedSimpArgs false
set_option linter.unusedVariables false
namespace Go.Proofs.Ythkjikennlaelaa.Fl
open Go Go.RowKit

/-- So many units of the least place is 1. -/
def onu (k : FloatKind) : Nat := (0 - k.format.leastPlace).toNat
def un1 (k : FloatKind) : Nat := 2 ^ onu k
theorem un1_pos (k : FloatKind) : 0 < un1 k := Nat.two_pow_pos _
theorem least_onu (k : FloatKind) : k.format.leastPlace = -(onu k : Int) := by cases k <;> decide
theorem frac_onu (k : FloatKind) : k.format.fractionBits ≤ onu k ∧ k.format.fractionBits < bias k := by cases k <;> decide
/-- The float b is the whole number n. -/
def Wh (k : FloatKind) (b : Nat) (n : Int) : Prop := rung k b < k.format.infRung ∧ U k (rung k b) = n.natAbs * un1 k ∧ (n ≠ 0 → neg k b = decide (n < 0))

theorem nearest_whole (k : FloatKind) (s : Bool) (m : Nat) (i : Int) (N : Nat) (hN : N < 2 * k.format.binade) (e : Nat) (hi : 0 ≤ i + e) (hv : m * 2 ^ (i + e).toNat = N * 2 ^ e) :
    rung k (k.format.nearest s m i) < k.format.infRung ∧ U k (rung k (k.format.nearest s m i)) = N * un1 k := by
  have hlp := least_onu k
  have hfr := frac_onu k
  have hB : 0 < k.format.binade := Nat.two_pow_pos _
  by_cases n0 : N = 0
  · subst n0
    have m0 : m = 0 := by
      rw [Nat.zero_mul] at hv
      rcases Nat.mul_eq_zero.1 hv with h | h
      · exact h
      · exact absurd h (Nat.ne_of_gt (Nat.two_pow_pos _))
    subst m0
    have hr : rung k (k.format.nearest s 0 i) = 0 := by unfold rung; rw [nearest_rung, if_pos rfl]
    rw [hr]
    refine ⟨?_, ?_⟩
    · cases k <;> decide
    · unfold U; rw [if_pos hB]; simp
  · have hlogN : N.log2 ≤ k.format.fractionBits := by
      have := (Nat.log2_lt n0).2 (show N < 2 ^ (k.format.fractionBits + 1) by rw [Nat.pow_succ, Nat.mul_comm]; exact hN)
      omega
    have key : k.format.nearest s m i = k.format.nearest s N 0 := by
      by_cases h0 : i ≤ 0
      · have em : m = N * 2 ^ (-i).toNat := by
          have : N * 2 ^ e = N * 2 ^ (-i).toNat * 2 ^ (i + e).toNat := by rw [Nat.mul_assoc, ← Nat.pow_add]; congr 2; omega
          rw [this] at hv
          exact Nat.eq_of_mul_eq_mul_right (Nat.two_pow_pos _) hv
        rw [em, nearest_shift _ _ n0 _ _ (by rw [hlp]; omega)]
        congr 1
        omega
      · have eN : N = m * 2 ^ i.toNat := by
          have : m * 2 ^ (i + e).toNat = m * 2 ^ i.toNat * 2 ^ e := by rw [Nat.mul_assoc, ← Nat.pow_add]; congr 2; omega
          rw [this] at hv
          exact (Nat.eq_of_mul_eq_mul_right (Nat.two_pow_pos _) hv).symm
        have m0 : m ≠ 0 := fun h => n0 (by rw [eN, h, Nat.zero_mul])
        have hl := log2_shift m0 i.toNat
        rw [← eN] at hl
        have h2 := nearest_shift k.format s m0 0 i.toNat (by rw [hlp]; omega)
        rw [← eN] at h2
        rw [h2]
        congr 1
        omega
    rw [key]
    have := nearest_exact k s N 0 hN (by rw [hlp]; omega) (.inr (by omega))
    exact this

theorem wh_nearest (k : FloatKind) (s : Bool) (m : Nat) (i : Int) (n : Int) (hN : n.natAbs < 2 * k.format.binade) (e : Nat) (hi : 0 ≤ i + e) (hv : m * 2 ^ (i + e).toNat = n.natAbs * 2 ^ e) (hs : n ≠ 0 → s = decide (n < 0)) :
    Wh k (k.format.nearest s m i) n := by
  obtain ⟨h1, h2⟩ := nearest_whole k s m i n.natAbs hN e hi hv
  exact ⟨h1, h2, fun h => (neg_nearest _ _ _ _).trans (hs h)⟩

/-- What a whole number reads as. -/
theorem wh_read {k : FloatKind} {b : Nat} {n : Int} (h : Wh k b n) : ∃ m i, k.decode b = .number (neg k b) m i ∧ 0 ≤ i + (onu k : Int) ∧ m * 2 ^ (i + (onu k : Int)).toNat = n.natAbs * 2 ^ onu k ∧ m < 2 * k.format.binade := by
  obtain ⟨m, i, h1, h2, h3, h4⟩ := read_units k b h.1
  rw [least_onu] at h2 h3
  refine ⟨m, i, h1, by omega, ?_, h4⟩
  rw [h.2.1] at h3
  rw [show i + (onu k : Int) = i - -(onu k : Int) by omega]
  exact h3
theorem wh_vl {k : FloatKind} {b : Nat} {n : Int} (h : Wh k b n) : vl k b = some b := fin_vl h.1
theorem wh_signed {k : FloatKind} {b : Nat} {n : Int} (h : Wh k b n) {m : Nat} {i : Int} (hi : 0 ≤ i + (onu k : Int)) (hv : m * 2 ^ (i + (onu k : Int)).toNat = n.natAbs * 2 ^ onu k) : Ieee.signed (neg k b) m (i + (onu k : Int)).toNat = n * (2 ^ onu k : Nat) := by
  unfold Ieee.signed
  rw [Nat.shiftLeft_eq, hv]
  by_cases h0 : n = 0
  · subst h0; simp
  · rw [h.2.2 h0]
    by_cases hn : n < 0
    · rw [if_pos (by simp [hn])]
      have : (n.natAbs : Int) = -n := by omega
      rw [Int.natCast_mul, this, Int.neg_mul, Int.neg_neg]
    · rw [if_neg (by simp [hn])]
      have : (n.natAbs : Int) = n := by omega
      rw [Int.natCast_mul, this]
theorem wh_sv {k : FloatKind} {b : Nat} {n : Int} (h : Wh k b n) : sv k b = n * (un1 k : Nat) := by
  unfold sv
  rw [h.2.1]
  by_cases h0 : n = 0
  · subst h0; simp
  · rw [h.2.2 h0]
    by_cases hn : n < 0
    · rw [if_pos (by simp [hn])]
      have : (n.natAbs : Int) = -n := by omega
      rw [Int.natCast_mul, this, Int.neg_mul, Int.neg_neg]
    · rw [if_neg (by simp [hn])]
      have : (n.natAbs : Int) = n := by omega
      rw [Int.natCast_mul, this]
theorem wh_order {k : FloatKind} {a b : Nat} {n m : Int} (ha : Wh k a n) (hb : Wh k b m) : k.format.order a b = some (compare n m) := by
  rw [order_units k a b ha.1 hb.1, wh_sv ha, wh_sv hb, compare_scale _ _ _ (un1_pos k)]
theorem wh_ofInt (k : FloatKind) (n : Int) (hN : n.natAbs < 2 * k.format.binade) : Wh k (floatOfInt k n) n :=
  wh_nearest k (decide (n < 0)) n.natAbs 0 n hN 0 (by omega) (by simp) (fun _ => rfl)

/-- The value (up to which not-a-number) is the whole number n. -/
def WhV (k : FloatKind) (x : Option Nat) (n : Int) : Prop := ∃ b, x = some b ∧ Wh k b n
theorem WhV.of {k : FloatKind} {b : Nat} {n : Int} (h : Wh k b n) : WhV k (vl k b) n := ⟨b, wh_vl h, h⟩
theorem WhV.wh {k : FloatKind} {b : Nat} {n : Int} (h : WhV k (vl k b) n) : Wh k b n := by
  obtain ⟨c, h1, h2⟩ := h
  obtain rfl := vl_some h1
  exact h2

theorem mul_sign (n m : Int) (h : n * m ≠ 0) (a b : Bool) (ha : n ≠ 0 → a = decide (n < 0)) (hb : m ≠ 0 → b = decide (m < 0)) : (a ^^ b) = decide (n * m < 0) := by
  have hn : n ≠ 0 := fun e => h (by rw [e, Int.zero_mul])
  have hm : m ≠ 0 := fun e => h (by rw [e, Int.mul_zero])
  rw [ha hn, hb hm]
  rcases Int.lt_or_gt_of_ne hn with h1 | h1 <;> rcases Int.lt_or_gt_of_ne hm with h2 | h2
  · have := Int.mul_pos_of_neg_of_neg h1 h2
    rw [decide_eq_true h1, decide_eq_true h2, decide_eq_false (show ¬ n * m < 0 by omega)]; rfl
  · have := Int.mul_neg_of_neg_of_pos h1 h2
    rw [decide_eq_true h1, decide_eq_false (show ¬ m < 0 by omega), decide_eq_true this]; rfl
  · have := Int.mul_neg_of_pos_of_neg h1 h2
    rw [decide_eq_false (show ¬ n < 0 by omega), decide_eq_true h2, decide_eq_true this]; rfl
  · have := Int.mul_pos h1 h2
    rw [decide_eq_false (show ¬ n < 0 by omega), decide_eq_false (show ¬ m < 0 by omega), decide_eq_false (show ¬ n * m < 0 by omega)]; rfl

theorem WhV.mul {k : FloatKind} {x y : Option Nat} {n m : Int} (hx : WhV k x n) (hy : WhV k y m) (hN : (n * m).natAbs < 2 * k.format.binade) : WhV k (fop .mul k x y) (n * m) := by
  obtain ⟨a, rfl, ha⟩ := hx
  obtain ⟨b, rfl, hb⟩ := hy
  obtain ⟨p, i, r1, i1, v1, _⟩ := wh_read ha
  obtain ⟨q, j, r2, j1, v2, _⟩ := wh_read hb
  refine ⟨k.format.nearest (neg k a ^^ neg k b) (p * q) (i + j), ?_, wh_nearest k _ _ _ _ hN (onu k + onu k) (by omega) ?_ (fun h => mul_sign n m h _ _ ha.2.2 hb.2.2)⟩
  · simp only [fop, Option.bind_some, floatBits, Ieee.Format.mul]
    rw [show k.format.read a = _ from r1, show k.format.read b = _ from r2]
    rfl
  · rw [show (i + j + ((onu k + onu k : Nat) : Int)).toNat = (i + (onu k : Int)).toNat + (j + (onu k : Int)).toNat by omega, Nat.pow_add, Nat.pow_add, Int.natAbs_mul]
    rw [Nat.mul_mul_mul_comm, v1, v2, Nat.mul_mul_mul_comm]

theorem sum_whole (k : FloatKind) (s t : Bool) (p q : Nat) (i j : Int) (n m : Int) (i1 : 0 ≤ i + (onu k : Int)) (j1 : 0 ≤ j + (onu k : Int))
    (h1 : Ieee.signed s p (i + (onu k : Int)).toNat = n * (2 ^ onu k : Nat)) (h2 : Ieee.signed t q (j + (onu k : Int)).toNat = m * (2 ^ onu k : Nat)) (hN : (n + m).natAbs < 2 * k.format.binade) (z : Bool) :
    Wh k (k.format.nearest (if Ieee.signed s p (i - min i j).toNat + Ieee.signed t q (j - min i j).toNat = 0 then z else decide (Ieee.signed s p (i - min i j).toNat + Ieee.signed t q (j - min i j).toNat < 0))
      (Ieee.signed s p (i - min i j).toNat + Ieee.signed t q (j - min i j).toNat).natAbs (min i j)) (n + m) := by
  generalize hT : Ieee.signed s p (i - min i j).toNat + Ieee.signed t q (j - min i j).toNat = T
  have hval : T * (2 ^ (min i j + (onu k : Int)).toNat : Nat) = (n + m) * (2 ^ onu k : Nat) := by
    rw [Int.add_mul, ← h1, ← h2, ← hT, Int.add_mul]
    rw [show (i + (onu k : Int)).toNat = (i - min i j).toNat + (min i j + (onu k : Int)).toNat by omega, signed_scale]
    rw [show (j + (onu k : Int)).toNat = (j - min i j).toNat + (min i j + (onu k : Int)).toNat by omega, signed_scale]
  have hp1 : 0 < ((2 ^ (min i j + (onu k : Int)).toNat : Nat) : Int) := by have := Nat.two_pow_pos (min i j + (onu k : Int)).toNat; omega
  have hp2 : 0 < ((2 ^ onu k : Nat) : Int) := by have := Nat.two_pow_pos (onu k); omega
  refine wh_nearest k _ _ _ _ hN (onu k) (by omega) ?_ ?_
  · have := congrArg Int.natAbs hval
    rw [Int.natAbs_mul, Int.natAbs_mul, Int.natAbs_natCast, Int.natAbs_natCast] at this
    exact this
  · intro h
    have hT0 : T ≠ 0 := by
      intro e
      rw [e, Int.zero_mul] at hval
      rcases Int.mul_eq_zero.1 hval.symm with h3 | h3
      · exact h h3
      · omega
    rw [if_neg hT0]
    congr 1
    apply propext
    constructor
    · intro hn
      have : T * ((2 ^ (min i j + (onu k : Int)).toNat : Nat) : Int) < 0 := Int.mul_neg_of_neg_of_pos hn hp1
      rw [hval] at this
      by_cases h3 : n + m < 0
      · exact h3
      · have := Int.mul_nonneg (show 0 ≤ n + m by omega) (Int.le_of_lt hp2); omega
    · intro hn
      have : (n + m) * ((2 ^ onu k : Nat) : Int) < 0 := Int.mul_neg_of_neg_of_pos hn hp2
      rw [← hval] at this
      by_cases h3 : T < 0
      · exact h3
      · have := Int.mul_nonneg (show 0 ≤ T by omega) (Int.le_of_lt hp1); omega

theorem WhV.add {k : FloatKind} {x y : Option Nat} {n m : Int} (hx : WhV k x n) (hy : WhV k y m) (hN : (n + m).natAbs < 2 * k.format.binade) : WhV k (fop .add k x y) (n + m) := by
  obtain ⟨a, rfl, ha⟩ := hx
  obtain ⟨b, rfl, hb⟩ := hy
  obtain ⟨p, i, r1, i1, v1, _⟩ := wh_read ha
  obtain ⟨q, j, r2, j1, v2, _⟩ := wh_read hb
  refine ⟨_, ?_, sum_whole k (neg k a) (neg k b) p q i j n m i1 j1 (wh_signed ha i1 v1) (wh_signed hb j1 v2) hN (neg k a && neg k b)⟩
  simp only [fop, Option.bind_some, floatBits, Ieee.Format.add]
  rw [show k.format.read a = _ from r1, show k.format.read b = _ from r2]
  rfl
theorem signed_not (s : Bool) (x y : Nat) : Ieee.signed (!s) x y = - Ieee.signed s x y := by unfold Ieee.signed; cases s <;> simp
theorem WhV.sub {k : FloatKind} {x y : Option Nat} {n m : Int} (hx : WhV k x n) (hy : WhV k y m) (hN : (n - m).natAbs < 2 * k.format.binade) : WhV k (fop .sub k x y) (n - m) := by
  obtain ⟨a, rfl, ha⟩ := hx
  obtain ⟨b, rfl, hb⟩ := hy
  obtain ⟨p, i, r1, i1, v1, _⟩ := wh_read ha
  obtain ⟨q, j, r2, j1, v2, _⟩ := wh_read hb
  rw [Int.sub_eq_add_neg] at hN ⊢
  refine ⟨_, ?_, sum_whole k (neg k a) (!neg k b) p q i j n (-m) i1 j1 (wh_signed ha i1 v1) (by rw [signed_not, wh_signed hb j1 v2, Int.neg_mul]) hN (neg k a && !neg k b)⟩
  simp only [fop, Option.bind_some, floatBits, Ieee.Format.sub]
  rw [show k.format.read a = _ from r1, show k.format.read b = _ from r2]
  rfl

/-- A quotient that is a whole number (of less than 2^20) is told exactly. -/
theorem WhV.quo {x y : Option Nat} {n m q : Int} (hx : WhV .f64 x n) (hy : WhV .f64 y m) (hm : m ≠ 0) (he : n = q * m) (hq : q.natAbs < 1048576) : WhV .f64 (fop .quo .f64 x y) q := by
  obtain ⟨a, rfl, ha⟩ := hx
  obtain ⟨b, rfl, hb⟩ := hy
  obtain ⟨c, i, r1, i1, v1, b1⟩ := wh_read ha
  obtain ⟨d, j, r2, j1, v2, b2⟩ := wh_read hb
  have e6 : FloatKind.f64.format.binade = 4503599627370496 := by decide
  have e7 : FloatKind.f64.format.fractionBits = 52 := by decide
  have d0 : d ≠ 0 := by
    intro h
    rw [h, Nat.zero_mul] at v2
    rcases Nat.mul_eq_zero.1 v2.symm with h | h
    · omega
    · exact absurd h (Nat.ne_of_gt (Nat.two_pow_pos _))
  have hval : c * 2 ^ (i + (onu .f64 : Int)).toNat = q.natAbs * (d * 2 ^ (j + (onu .f64 : Int)).toNat) := by
    rw [v1, v2, he, Int.natAbs_mul, Nat.mul_assoc]
  have hc53 : c.log2 ≤ 53 := by
    by_cases c0 : c = 0
    · subst c0; decide
    · have := (Nat.log2_lt c0).2 (show c < 2 ^ 53 by rw [e6] at b1; omega)
      omega
  generalize hmore : FloatKind.f64.format.fractionBits + 2 + d.log2 - c.log2 = more
  rw [e7] at hmore
  have hex : ∃ D : Nat, c <<< more = (q.natAbs * 2 ^ D) * d ∧ (q.natAbs ≠ 0 → (D : Int) = j - i + more) := by
    by_cases q0 : q.natAbs = 0
    · refine ⟨0, ?_, fun h => absurd q0 h⟩
      have c0 : c = 0 := by
        rw [q0, Nat.zero_mul] at hval
        rcases Nat.mul_eq_zero.1 hval with h | h
        · exact h
        · exact absurd h (Nat.ne_of_gt (Nat.two_pow_pos _))
      rw [q0, c0]; simp
    · have hqd : q.natAbs * d ≠ 0 := Nat.mul_ne_zero q0 d0
      have hc0 : c ≠ 0 := by
        intro h
        rw [h, Nat.zero_mul, ← Nat.mul_assoc] at hval
        rcases Nat.mul_eq_zero.1 hval.symm with h | h
        · exact hqd h
        · exact absurd h (Nat.ne_of_gt (Nat.two_pow_pos _))
      have l1 := log2_shift hc0 (i + (onu .f64 : Int)).toNat
      rw [hval, ← Nat.mul_assoc, log2_shift hqd] at l1
      have l2 : (q.natAbs * d).log2 ≤ d.log2 + 20 := by
        have : q.natAbs * d < 2 ^ (d.log2 + 21) := by
          rw [show d.log2 + 21 = 20 + (d.log2 + 1) by omega, Nat.pow_add]
          exact Nat.mul_lt_mul_of_lt_of_le hq (Nat.le_of_lt Nat.lt_log2_self) (by have := Nat.two_pow_pos (d.log2 + 1); omega)
        have := (Nat.log2_lt hqd).2 this
        omega
      have hD : 0 ≤ j - i + more := by omega
      refine ⟨(j - i + more).toNat, ?_, fun _ => by omega⟩
      rw [Nat.shiftLeft_eq]
      have hE : c * 2 ^ more * 2 ^ (i + (onu .f64 : Int)).toNat = q.natAbs * 2 ^ (j - i + more).toNat * d * 2 ^ (i + (onu .f64 : Int)).toNat := by
        have e1 : c * 2 ^ more * 2 ^ (i + (onu .f64 : Int)).toNat = (c * 2 ^ (i + (onu .f64 : Int)).toNat) * 2 ^ more := by simp only [Nat.mul_assoc, Nat.mul_left_comm, Nat.mul_comm]
        have e2 : q.natAbs * 2 ^ (j - i + more).toNat * d * 2 ^ (i + (onu .f64 : Int)).toNat = q.natAbs * d * (2 ^ (j - i + more).toNat * 2 ^ (i + (onu .f64 : Int)).toNat) := by simp only [Nat.mul_assoc, Nat.mul_left_comm, Nat.mul_comm]
        rw [e1, hval, e2, ← Nat.pow_add, show (j - i + more).toNat + (i + (onu .f64 : Int)).toNat = (j + (onu .f64 : Int)).toNat + more by omega, Nat.pow_add]
        simp only [Nat.mul_assoc, Nat.mul_left_comm, Nat.mul_comm]
      exact Nat.eq_of_mul_eq_mul_right (Nat.two_pow_pos _) hE
  obtain ⟨D, hD1, hD2⟩ := hex
  refine ⟨FloatKind.f64.format.nearest (neg .f64 a ^^ neg .f64 b) (2 * (q.natAbs * 2 ^ D)) (i - j - more - 1), ?_, ?_⟩
  · simp only [fop, Option.bind_some, floatBits, Ieee.Format.div]
    rw [show FloatKind.f64.format.read a = _ from r1, show FloatKind.f64.format.read b = _ from r2]
    simp only [Ieee.Datum.quotient, d0, if_false, Option.map_some, Ieee.Format.write, e7, hmore, hD1, Nat.mul_div_cancel _ (Nat.pos_of_ne_zero d0), Nat.mul_mod_left]
    rfl
  · by_cases q0 : q.natAbs = 0
    · rw [q0]
      have hq0 : q = 0 := by omega
      subst hq0
      exact wh_nearest .f64 _ _ _ 0 (by rw [e6]; decide) ((j + more + 1 + (onu .f64 : Int) + (onu .f64 : Int)).toNat + i.natAbs + j.natAbs) (by omega) (by simp) (fun h => absurd rfl h)
    · have hDv := hD2 q0
      refine wh_nearest .f64 _ _ _ q (by rw [e6]; omega) (D + 1) (by omega) ?_ (fun h => ?_)
      · rw [show (i - j - more - 1 + ((D + 1 : Nat) : Int)).toNat = 0 by omega, Nat.pow_zero, Nat.mul_one, Nat.pow_succ]
        simp only [Nat.mul_assoc, Nat.mul_left_comm, Nat.mul_comm]
      · have hn : n ≠ 0 := by rw [he]; exact Int.mul_ne_zero h hm
        rw [ha.2.2 hn, hb.2.2 hm]
        have := mul_sign q m (by rw [← he]; exact hn) (decide (q < 0)) (decide (m < 0)) (fun _ => rfl) (fun _ => rfl)
        rw [← he] at this
        rw [← this]
        cases decide (q < 0) <;> cases decide (m < 0) <;> rfl

theorem WhV.widen {x : Option Nat} {n : Int} (hx : WhV .f32 x n) : WhV .f64 (fcv .f32 .f64 x) n := by
  obtain ⟨a, rfl, ha⟩ := hx
  obtain ⟨r, h1, h2, h3, h4⟩ := widen_fin a ha.1
  refine ⟨r, h1, h2, ?_, fun h => h3.trans (ha.2.2 h)⟩
  have hu : un1 .f32 * scaleW = un1 .f64 := by
    have e1 : onu .f64 = onu .f32 + gapW := by rw [gapW_eq]; decide
    unfold un1
    rw [scaleW_eq _ _ e1]
  rw [h4, ha.2.1, Nat.mul_assoc, hu]
theorem WhV.narrow {x : Option Nat} {n : Int} (hx : WhV .f64 x n) (hN : n.natAbs < 16777216) : WhV .f32 (fcv .f64 .f32 x) n ∧ over .f64 .f32 x = false := by
  obtain ⟨a, rfl, ha⟩ := hx
  obtain ⟨p, i, r1, i1, v1, _⟩ := wh_read ha
  have e5 : FloatKind.f32.format.binade = 8388608 := by decide
  have hw := wh_nearest .f32 (neg .f64 a) p i n (by rw [e5]; omega) (onu .f64) i1 v1 ha.2.2
  have hfin : (FloatKind.f32.decode (FloatKind.f32.encode (.number (neg .f64 a) p i))).isInfinity = false := by
    obtain ⟨p', i', r2, _⟩ := wh_read hw
    rw [show FloatKind.f32.encode (.number (neg .f64 a) p i) = FloatKind.f32.format.nearest (neg .f64 a) p i from rfl, r2]
    rfl
  refine ⟨⟨_, ?_, hw⟩, ?_⟩
  · simp only [fcv, Option.bind_some, floatToFloatBits, r1]
    rw [if_neg (by decide), hfin]
    rfl
  · simp only [over, Option.any_some, r1, hfin]
    rfl
theorem wh_toInt {b : Nat} {n : Int} (h : Wh .f32 b n) (hN : n.natAbs < 16777216) : floatToIntVal .f32 b .i64 = some n := by
  obtain ⟨p, i, r1, i1, v1, _⟩ := wh_read h
  have hcut : Ieee.Toward.zero.cut (neg .f32 b) (p <<< i.toNat) (-i).toNat = n.natAbs := by
    have hz : Ieee.Toward.zero.cut (neg .f32 b) (p <<< i.toNat) (-i).toNat = p <<< i.toNat / 2 ^ min (-i).toNat ((p <<< i.toNat).log2 + 2) := by
      unfold Ieee.Toward.cut
      simp [Nat.one_shiftLeft]
    rw [hz]
    by_cases h0 : i ≤ 0
    · have ep : p = n.natAbs * 2 ^ (-i).toNat := by
        have : n.natAbs * 2 ^ onu .f32 = n.natAbs * 2 ^ (-i).toNat * 2 ^ (i + (onu .f32 : Int)).toNat := by rw [Nat.mul_assoc, ← Nat.pow_add]; congr 2; omega
        rw [this] at v1
        exact Nat.eq_of_mul_eq_mul_right (Nat.two_pow_pos _) v1
      rw [show i.toNat = 0 by omega, Nat.shiftLeft_zero]
      by_cases n0 : n.natAbs = 0
      · rw [ep, n0]; simp
      · rw [ep, log2_shift n0, Nat.min_eq_left (by omega), Nat.mul_div_cancel _ (Nat.two_pow_pos _)]
    · rw [show (-i).toNat = 0 by omega, Nat.zero_min, Nat.pow_zero, Nat.div_one, Nat.shiftLeft_eq]
      have : p * 2 ^ (i + (onu .f32 : Int)).toNat = p * 2 ^ i.toNat * 2 ^ onu .f32 := by rw [Nat.mul_assoc, ← Nat.pow_add]; congr 2; omega
      rw [this] at v1
      exact Nat.eq_of_mul_eq_mul_right (Nat.two_pow_pos _) v1
  have ht : (FloatKind.f32.decode b).toInt .zero = some n := by
    rw [r1]
    show some (Ieee.signed (neg .f32 b) (Ieee.Toward.zero.cut (neg .f32 b) (p <<< i.toNat) (-i).toNat) 0) = some n
    rw [hcut]
    unfold Ieee.signed
    rw [Nat.shiftLeft_zero]
    by_cases h0 : n = 0
    · subst h0; simp
    · rw [h.2.2 h0]
      by_cases hn : n < 0
      · rw [if_pos (by simp [hn])]; congr 1; omega
      · rw [if_neg (by simp [hn])]; congr 1; omega
  unfold floatToIntVal
  rw [ht]
  simp only
  rw [if_pos]
  constructor
  · show (-9223372036854775808 : Int) ≤ _; omega
  · show _ ≤ (9223372036854775807 : Int); omega
/-- Two whole numbers of one value and no sign are one float. -/
theorem wh_same64 {a b : Nat} {n : Int} (la : a < 2 ^ 64) (lb : b < 2 ^ 64) (ha : Wh .f64 a n) (hb : Wh .f64 b n) (hs : neg .f64 a = neg .f64 b) : a = b := by
  have hU := U_inj (ha.2.1.trans hb.2.1.symm)
  unfold neg at hs
  unfold rung at hU
  rw [show FloatKind.f64.format.signWeight = 9223372036854775808 by decide] at hs hU
  have h1 : a / 9223372036854775808 = 0 ∨ a / 9223372036854775808 = 1 := by omega
  have h2 : b / 9223372036854775808 = 0 ∨ b / 9223372036854775808 = 1 := by omega
  rcases h1 with h1 | h1 <;> rcases h2 with h2 | h2 <;> rw [h1, h2] at hs <;> simp at hs <;> omega
end Go.Proofs.Ythkjikennlaelaa.Fl
