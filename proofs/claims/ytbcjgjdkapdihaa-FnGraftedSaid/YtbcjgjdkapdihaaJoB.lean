/-
  Joined from: NarrB Whole Dy Cx Drop Phs2 Load RInv Pow.
-/
import Derived.Test.YtbcjgjdkapdihaaFe
import Derived.Test.YtbcjgjdkapdihaaMath
import Derived.Test.YtbcjgjdkapdihaaCv
import Derived.Test.YtbcjgjdkapdihaaPhs
import Derived.Deep.RegionWith
import Derived.BigQuiet
import Derived.WalkKit
import Derived.Deep.CutRange
import Derived.Deep.DeepCutAuto

section
set_option linter.unusedSimpArgs false
set_option linter.unusedVariables false
namespace Go.Proofs.Ytbcjgjdkapdihaa.Fl
open Go Go.RowKit

theorem log2_shift {m : Nat} (m0 : m ≠ 0) (j : Nat) : (m * 2 ^ j).log2 = m.log2 + j := by
  have hp : 0 < 2 ^ j := Nat.two_pow_pos j
  have h0 : m * 2 ^ j ≠ 0 := Nat.mul_ne_zero m0 (by omega)
  have h1 : m.log2 + j ≤ (m * 2 ^ j).log2 := (Nat.le_log2 h0).2 (by rw [Nat.pow_add]; exact Nat.mul_le_mul_right _ (Nat.log2_self_le m0))
  have h2 : (m * 2 ^ j).log2 < m.log2 + j + 1 := (Nat.log2_lt h0).2 (by
    rw [show m.log2 + j + 1 = (m.log2 + 1) + j by omega, Nat.pow_add]
    exact Nat.mul_lt_mul_of_pos_right Nat.lt_log2_self hp)
  omega
theorem cut_mul (neg : Bool) {q : Nat} (q0 : q ≠ 0) (d : Nat) : Ieee.Toward.even.cut neg (q * 2 ^ d) d = q := by
  have hp : 0 < 2 ^ d := Nat.two_pow_pos d
  unfold Ieee.Toward.cut
  rw [log2_shift q0, Nat.min_eq_left (by omega), Nat.one_shiftLeft]
  simp only [Nat.mul_div_cancel _ hp, Nat.mul_mod_left]
  have h1 : decide (2 ^ d < 2 * 0) = false := by simp
  have h2 : (2 ^ d == 2 * 0) = false := by rw [beq_eq_false_iff_ne]; omega
  rw [h1, h2]
  rfl
theorem nearest_shift (f : Ieee.Format) (neg : Bool) {m : Nat} (m0 : m ≠ 0) (i : Int) (j : Nat) (hl : max (i + j + m.log2 - f.fractionBits) f.leastPlace ≤ i + j) :
    f.nearest neg (m * 2 ^ j) i = f.nearest neg m (i + j) := by
  have hp : 0 < 2 ^ j := Nat.two_pow_pos j
  have h0 : m * 2 ^ j ≠ 0 := Nat.mul_ne_zero m0 (by omega)
  unfold Ieee.Format.nearest
  rw [if_neg h0, if_neg m0, log2_shift m0]
  have e : (i + ((m.log2 + j : Nat) : Int) - f.fractionBits) = i + j + m.log2 - f.fractionBits := by omega
  simp only [e]
  generalize hlast : max (i + j + m.log2 - f.fractionBits) f.leastPlace = last at *
  congr 2
  congr 1
  rw [show (last - (i + j)).toNat = 0 by omega, cut_zero, Nat.shiftLeft_eq, Nat.shiftLeft_eq]
  by_cases hi : last ≤ i
  · rw [show (last - i).toNat = 0 by omega, cut_zero, Nat.mul_assoc, ← Nat.pow_add]
    congr 2
    omega
  · rw [show (i - last).toNat = 0 by omega, Nat.pow_zero, Nat.mul_one]
    have e2 : m * 2 ^ j = m * 2 ^ (i + j - last).toNat * 2 ^ (last - i).toNat := by
      rw [Nat.mul_assoc, ← Nat.pow_add]
      congr 2
      omega
    rw [e2, cut_mul neg (Nat.mul_ne_zero m0 (by have := Nat.two_pow_pos (i + j - last).toNat; omega))]

theorem word_back {b : Nat} (hb : b < 2 ^ 32) : FloatKind.f32.format.word (neg .f32 b) (rung .f32 b) = b := by
  unfold neg rung Ieee.Format.word
  rw [show FloatKind.f32.format.signWeight = 2147483648 by decide]
  have h : b / 2147483648 = 0 ∨ b / 2147483648 = 1 := by omega
  rcases h with h | h
  · rw [h]; simp; omega
  · rw [h]; simp; omega
theorem word_eq {x y : Nat} (hx : x < 2 ^ 32) (hy : y < 2 ^ 32) (h1 : neg .f32 x = neg .f32 y) (h2 : rung .f32 x = rung .f32 y) : x = y := by
  rw [← word_back hx, ← word_back hy, h1, h2]
theorem U_inj {k : FloatKind} {a b : Nat} (h : U k a = U k b) : a = b := by
  rcases Nat.lt_trichotomy a b with h1 | h1 | h1
  · have := U_lt k h1; omega
  · exact h1
  · have := U_lt k h1; omega

/-- The nearest number to what a number reads as is the number. -/
theorem nearest_read {b : Nat} (hb : b < 2 ^ 32) {m : Nat} {i : Int} (hi : FloatKind.f32.format.leastPlace ≤ i) (hu : m * 2 ^ (i - FloatKind.f32.format.leastPlace).toNat = U .f32 (rung .f32 b)) (hm : m < 2 * FloatKind.f32.format.binade) (hl : m = 0 ∨ i + m.log2 ≤ bias .f32) :
    FloatKind.f32.format.nearest (neg .f32 b) m i = b := by
  obtain ⟨x1, x2⟩ := nearest_exact .f32 (neg .f32 b) m i hm hi hl
  exact word_eq (Ieee.Format.nearest_lt _ _ _ _) hb (neg_nearest _ _ _ _) (U_inj (x2.trans hu))

theorem read_log {b : Nat} (h : rung .f32 b < FloatKind.f32.format.infRung) {m : Nat} {i : Int} (h1 : FloatKind.f32.decode b = .number (neg .f32 b) m i) : m = 0 ∨ i + m.log2 ≤ bias .f32 := by
  by_cases m0 : m = 0
  · exact .inl m0
  · right
    have hd : FloatKind.f32.format.read b = .number (neg .f32 b) m i := h1
    unfold Ieee.Format.read at hd
    simp only at hd
    have e1 : FloatKind.f32.format.binade = 8388608 := by decide
    have e2 : FloatKind.f32.format.infRung = 2139095040 := by decide
    have e3 : FloatKind.f32.format.leastPlace = -149 := by decide
    rw [e1, e2, e3] at hd
    have e4 : (bias .f32 : Int) = 127 := rfl
    rw [e4]
    have hlt : m < 2 ^ 24 := by
      split at hd
      · cases hd; omega
      · split at hd
        · cases hd; omega
        · split at hd <;> cases hd
    have hl := (Nat.log2_lt m0).2 hlt
    split at hd
    · cases hd; omega
    · split at hd
      · cases hd; omega
      · split at hd <;> cases hd

/-- From float32 to float64 and back. -/
theorem narrow_widen (b : Nat) (hb : b < 2 ^ 32) : fcv .f64 .f32 (fcv .f32 .f64 (vl .f32 b)) = vl .f32 b ∧ over .f64 .f32 (fcv .f32 .f64 (vl .f32 b)) = false := by
  rcases hv : vl .f32 b with _ | c
  · exact ⟨rfl, rfl⟩
  · obtain rfl := vl_some hv
    have hr := num_rung hv
    by_cases h : rung .f32 b < FloatKind.f32.format.infRung
    · obtain ⟨r, w1, w2, w3, w4⟩ := widen_fin b h
      obtain ⟨m, i, h1, h2, h3, h4⟩ := read_units .f32 b h
      obtain ⟨m', i', r1, r2, r3, r4⟩ := read_units .f64 r w2
      have hlog := read_log h h1
      have hn := nearest_read hb h2 h3 h4 hlog
      have key : FloatKind.f32.format.nearest (neg .f64 r) m' i' = b := by
        rw [w3]
        have e3 : FloatKind.f32.format.leastPlace = -149 := by decide
        have e4 : FloatKind.f64.format.leastPlace = -1074 := by decide
        have e5 : FloatKind.f32.format.fractionBits = 23 := by decide
        have e6 : FloatKind.f32.format.binade = 8388608 := by decide
        rw [e3] at h2
        rw [e4] at r2
        have eq : m' * 2 ^ (i' - -1074).toNat = m * 2 ^ (i - -1074).toNat := by
          have a := r3
          rw [w4, ← h3, e3, e4, Nat.mul_assoc, ← scaleW_eq _ (i - -1074).toNat (by rw [gapW_eq]; omega)] at a
          exact a
        by_cases m0 : m = 0
        · subst m0
          have : m' = 0 := by
            have hp := Nat.two_pow_pos (i' - -1074).toNat
            rw [Nat.zero_mul] at eq
            rcases Nat.mul_eq_zero.1 eq with h | h
            · exact h
            · omega
          subst this
          refine Eq.trans ?_ hn
          unfold Ieee.Format.nearest
          rw [if_pos rfl, if_pos rfl]
        · have hl24 : m.log2 ≤ 23 := by
            have := (Nat.log2_lt m0).2 (show m < 2 ^ 24 by omega)
            omega
          by_cases hi : i' ≤ i
          · have e : m' = m * 2 ^ (i - i').toNat := by
              have : m * 2 ^ (i - -1074).toNat = m * 2 ^ (i - i').toNat * 2 ^ (i' - -1074).toNat := by
                rw [Nat.mul_assoc, ← Nat.pow_add]; congr 2; omega
              rw [this] at eq
              exact Nat.eq_of_mul_eq_mul_right (Nat.two_pow_pos _) eq
            rw [e, nearest_shift _ _ m0 _ _ (by rw [e3, e5]; omega), show i' + ((i - i').toNat : Int) = i by omega]
            exact hn
          · have e : m = m' * 2 ^ (i' - i).toNat := by
              have : m' * 2 ^ (i' - -1074).toNat = m' * 2 ^ (i' - i).toNat * 2 ^ (i - -1074).toNat := by
                rw [Nat.mul_assoc, ← Nat.pow_add]; congr 2; omega
              rw [this] at eq
              exact (Nat.eq_of_mul_eq_mul_right (Nat.two_pow_pos _) eq).symm
            have m0' : m' ≠ 0 := fun h => m0 (by rw [e, h, Nat.zero_mul])
            have hl2 : m'.log2 ≤ 23 := by
              have := log2_shift m0' (i' - i).toNat
              rw [← e] at this
              omega
            refine Eq.trans ?_ hn
            rw [e, nearest_shift _ _ m0' _ _ (by rw [e3, e5]; omega), show i + ((i' - i).toNat : Int) = i' by omega]
      have hfin : (FloatKind.f32.decode b).isInfinity = false := by rw [h1]; rfl
      have he : FloatKind.f32.encode (.number (neg .f64 r) m' i') = b := key
      rw [w1]
      refine ⟨?_, ?_⟩
      · simp only [fcv, Option.bind_some, floatToFloatBits, r1]
        rw [if_neg (by decide), he, hfin]; rfl
      · simp only [over, Option.any_some, r1, he, hfin]
        rfl
    · have hi : rung .f32 b = FloatKind.f32.format.infRung := by omega
      obtain ⟨r, w1, w2, w3⟩ := widen_inf b hi
      rw [w1]
      refine ⟨?_, ?_⟩
      · simp only [fcv, Option.bind_some, floatToFloatBits, read_inf w2]
        rw [if_neg (by decide), w3]
        show some (FloatKind.f32.format.word (neg .f32 b) FloatKind.f32.format.infRung) = some b
        rw [← hi, word_back hb]
      · simp only [over, Option.any_some, read_inf w2]
        rfl
end Go.Proofs.Ytbcjgjdkapdihaa.Fl
end

section
set_option linter.unusedSimpArgs false
set_option linter.unusedVariables false
namespace Go.Proofs.Ytbcjgjdkapdihaa.Fl
open Go Go.RowKit

/-- So many units of the least place is 1. -/
def onu (k : FloatKind) : Nat := (0 - k.format.leastPlace).toNat
def un1 (k : FloatKind) : Nat := 2 ^ onu k
theorem un1_pos (k : FloatKind) : 0 < un1 k := Nat.two_pow_pos _
theorem least_onu (k : FloatKind) : k.format.leastPlace = -(onu k : Int) := by cases k <;> decide
theorem frac_onu (k : FloatKind) : k.format.fractionBits ≤ onu k ∧ k.format.fractionBits < bias k := by cases k <;> decide
/-- The float b is the whole number n. -/
def Wh (k : FloatKind) (b : Nat) (n : Int) : Prop := rung k b < k.format.infRung ∧ U k (rung k b) = n.natAbs * un1 k ∧ (n ≠ 0 → neg k b = decide (n < 0))

theorem nearest_whole (k : FloatKind) (s : Bool) (m : Nat) (i : Int) (N : Nat) (hN : N < 2 * k.format.binade) (e : Nat) (hi : 0 ≤ i + e) (hv : m * 2 ^ (i + e).toNat = N * 2 ^ e) :
    rung k (k.format.nearest s m i) < k.format.infRung ∧ U k (rung k (k.format.nearest s m i)) = N * un1 k := by
  have hlp := least_onu k
  have hfr := frac_onu k
  have hB : 0 < k.format.binade := Nat.two_pow_pos _
  by_cases n0 : N = 0
  · subst n0
    have m0 : m = 0 := by
      rw [Nat.zero_mul] at hv
      rcases Nat.mul_eq_zero.1 hv with h | h
      · exact h
      · exact absurd h (Nat.ne_of_gt (Nat.two_pow_pos _))
    subst m0
    have hr : rung k (k.format.nearest s 0 i) = 0 := by unfold rung; rw [nearest_rung, if_pos rfl]
    rw [hr]
    refine ⟨?_, ?_⟩
    · cases k <;> decide
    · unfold U; rw [if_pos hB]; simp
  · have hlogN : N.log2 ≤ k.format.fractionBits := by
      have := (Nat.log2_lt n0).2 (show N < 2 ^ (k.format.fractionBits + 1) by rw [Nat.pow_succ, Nat.mul_comm]; exact hN)
      omega
    have key : k.format.nearest s m i = k.format.nearest s N 0 := by
      by_cases h0 : i ≤ 0
      · have em : m = N * 2 ^ (-i).toNat := by
          have : N * 2 ^ e = N * 2 ^ (-i).toNat * 2 ^ (i + e).toNat := by rw [Nat.mul_assoc, ← Nat.pow_add]; congr 2; omega
          rw [this] at hv
          exact Nat.eq_of_mul_eq_mul_right (Nat.two_pow_pos _) hv
        rw [em, nearest_shift _ _ n0 _ _ (by rw [hlp]; omega)]
        congr 1
        omega
      · have eN : N = m * 2 ^ i.toNat := by
          have : m * 2 ^ (i + e).toNat = m * 2 ^ i.toNat * 2 ^ e := by rw [Nat.mul_assoc, ← Nat.pow_add]; congr 2; omega
          rw [this] at hv
          exact (Nat.eq_of_mul_eq_mul_right (Nat.two_pow_pos _) hv).symm
        have m0 : m ≠ 0 := fun h => n0 (by rw [eN, h, Nat.zero_mul])
        have hl := log2_shift m0 i.toNat
        rw [← eN] at hl
        have h2 := nearest_shift k.format s m0 0 i.toNat (by rw [hlp]; omega)
        rw [← eN] at h2
        rw [h2]
        congr 1
        omega
    rw [key]
    have := nearest_exact k s N 0 hN (by rw [hlp]; omega) (.inr (by omega))
    exact this

theorem wh_nearest (k : FloatKind) (s : Bool) (m : Nat) (i : Int) (n : Int) (hN : n.natAbs < 2 * k.format.binade) (e : Nat) (hi : 0 ≤ i + e) (hv : m * 2 ^ (i + e).toNat = n.natAbs * 2 ^ e) (hs : n ≠ 0 → s = decide (n < 0)) :
    Wh k (k.format.nearest s m i) n := by
  obtain ⟨h1, h2⟩ := nearest_whole k s m i n.natAbs hN e hi hv
  exact ⟨h1, h2, fun h => (neg_nearest _ _ _ _).trans (hs h)⟩

/-- What a whole number reads as. -/
theorem wh_read {k : FloatKind} {b : Nat} {n : Int} (h : Wh k b n) : ∃ m i, k.decode b = .number (neg k b) m i ∧ 0 ≤ i + (onu k : Int) ∧ m * 2 ^ (i + (onu k : Int)).toNat = n.natAbs * 2 ^ onu k ∧ m < 2 * k.format.binade := by
  obtain ⟨m, i, h1, h2, h3, h4⟩ := read_units k b h.1
  rw [least_onu] at h2 h3
  refine ⟨m, i, h1, by omega, ?_, h4⟩
  rw [h.2.1] at h3
  rw [show i + (onu k : Int) = i - -(onu k : Int) by omega]
  exact h3
theorem wh_vl {k : FloatKind} {b : Nat} {n : Int} (h : Wh k b n) : vl k b = some b := fin_vl h.1
theorem wh_signed {k : FloatKind} {b : Nat} {n : Int} (h : Wh k b n) {m : Nat} {i : Int} (hi : 0 ≤ i + (onu k : Int)) (hv : m * 2 ^ (i + (onu k : Int)).toNat = n.natAbs * 2 ^ onu k) : Ieee.signed (neg k b) m (i + (onu k : Int)).toNat = n * (2 ^ onu k : Nat) := by
  unfold Ieee.signed
  rw [Nat.shiftLeft_eq, hv]
  by_cases h0 : n = 0
  · subst h0; simp
  · rw [h.2.2 h0]
    by_cases hn : n < 0
    · rw [if_pos (by simp [hn])]
      have : (n.natAbs : Int) = -n := by omega
      rw [Int.natCast_mul, this, Int.neg_mul, Int.neg_neg]
    · rw [if_neg (by simp [hn])]
      have : (n.natAbs : Int) = n := by omega
      rw [Int.natCast_mul, this]
theorem wh_sv {k : FloatKind} {b : Nat} {n : Int} (h : Wh k b n) : sv k b = n * (un1 k : Nat) := by
  unfold sv
  rw [h.2.1]
  by_cases h0 : n = 0
  · subst h0; simp
  · rw [h.2.2 h0]
    by_cases hn : n < 0
    · rw [if_pos (by simp [hn])]
      have : (n.natAbs : Int) = -n := by omega
      rw [Int.natCast_mul, this, Int.neg_mul, Int.neg_neg]
    · rw [if_neg (by simp [hn])]
      have : (n.natAbs : Int) = n := by omega
      rw [Int.natCast_mul, this]
theorem wh_order {k : FloatKind} {a b : Nat} {n m : Int} (ha : Wh k a n) (hb : Wh k b m) : k.format.order a b = some (compare n m) := by
  rw [order_units k a b ha.1 hb.1, wh_sv ha, wh_sv hb, compare_scale _ _ _ (un1_pos k)]
theorem wh_ofInt (k : FloatKind) (n : Int) (hN : n.natAbs < 2 * k.format.binade) : Wh k (floatOfInt k n) n :=
  wh_nearest k (decide (n < 0)) n.natAbs 0 n hN 0 (by omega) (by simp) (fun _ => rfl)

/-- The value (up to which not-a-number) is the whole number n. -/
def WhV (k : FloatKind) (x : Option Nat) (n : Int) : Prop := ∃ b, x = some b ∧ Wh k b n
theorem WhV.of {k : FloatKind} {b : Nat} {n : Int} (h : Wh k b n) : WhV k (vl k b) n := ⟨b, wh_vl h, h⟩
theorem WhV.wh {k : FloatKind} {b : Nat} {n : Int} (h : WhV k (vl k b) n) : Wh k b n := by
  obtain ⟨c, h1, h2⟩ := h
  obtain rfl := vl_some h1
  exact h2

theorem mul_sign (n m : Int) (h : n * m ≠ 0) (a b : Bool) (ha : n ≠ 0 → a = decide (n < 0)) (hb : m ≠ 0 → b = decide (m < 0)) : (a ^^ b) = decide (n * m < 0) := by
  have hn : n ≠ 0 := fun e => h (by rw [e, Int.zero_mul])
  have hm : m ≠ 0 := fun e => h (by rw [e, Int.mul_zero])
  rw [ha hn, hb hm]
  rcases Int.lt_or_gt_of_ne hn with h1 | h1 <;> rcases Int.lt_or_gt_of_ne hm with h2 | h2
  · have := Int.mul_pos_of_neg_of_neg h1 h2
    rw [decide_eq_true h1, decide_eq_true h2, decide_eq_false (show ¬ n * m < 0 by omega)]; rfl
  · have := Int.mul_neg_of_neg_of_pos h1 h2
    rw [decide_eq_true h1, decide_eq_false (show ¬ m < 0 by omega), decide_eq_true this]; rfl
  · have := Int.mul_neg_of_pos_of_neg h1 h2
    rw [decide_eq_false (show ¬ n < 0 by omega), decide_eq_true h2, decide_eq_true this]; rfl
  · have := Int.mul_pos h1 h2
    rw [decide_eq_false (show ¬ n < 0 by omega), decide_eq_false (show ¬ m < 0 by omega), decide_eq_false (show ¬ n * m < 0 by omega)]; rfl

theorem WhV.mul {k : FloatKind} {x y : Option Nat} {n m : Int} (hx : WhV k x n) (hy : WhV k y m) (hN : (n * m).natAbs < 2 * k.format.binade) : WhV k (fop .mul k x y) (n * m) := by
  obtain ⟨a, rfl, ha⟩ := hx
  obtain ⟨b, rfl, hb⟩ := hy
  obtain ⟨p, i, r1, i1, v1, _⟩ := wh_read ha
  obtain ⟨q, j, r2, j1, v2, _⟩ := wh_read hb
  refine ⟨k.format.nearest (neg k a ^^ neg k b) (p * q) (i + j), ?_, wh_nearest k _ _ _ _ hN (onu k + onu k) (by omega) ?_ (fun h => mul_sign n m h _ _ ha.2.2 hb.2.2)⟩
  · simp only [fop, Option.bind_some, floatBits, Ieee.Format.mul]
    rw [show k.format.read a = _ from r1, show k.format.read b = _ from r2]
    rfl
  · rw [show (i + j + ((onu k + onu k : Nat) : Int)).toNat = (i + (onu k : Int)).toNat + (j + (onu k : Int)).toNat by omega, Nat.pow_add, Nat.pow_add, Int.natAbs_mul]
    rw [Nat.mul_mul_mul_comm, v1, v2, Nat.mul_mul_mul_comm]

theorem sum_whole (k : FloatKind) (s t : Bool) (p q : Nat) (i j : Int) (n m : Int) (i1 : 0 ≤ i + (onu k : Int)) (j1 : 0 ≤ j + (onu k : Int))
    (h1 : Ieee.signed s p (i + (onu k : Int)).toNat = n * (2 ^ onu k : Nat)) (h2 : Ieee.signed t q (j + (onu k : Int)).toNat = m * (2 ^ onu k : Nat)) (hN : (n + m).natAbs < 2 * k.format.binade) (z : Bool) :
    Wh k (k.format.nearest (if Ieee.signed s p (i - min i j).toNat + Ieee.signed t q (j - min i j).toNat = 0 then z else decide (Ieee.signed s p (i - min i j).toNat + Ieee.signed t q (j - min i j).toNat < 0))
      (Ieee.signed s p (i - min i j).toNat + Ieee.signed t q (j - min i j).toNat).natAbs (min i j)) (n + m) := by
  generalize hT : Ieee.signed s p (i - min i j).toNat + Ieee.signed t q (j - min i j).toNat = T
  have hval : T * (2 ^ (min i j + (onu k : Int)).toNat : Nat) = (n + m) * (2 ^ onu k : Nat) := by
    rw [Int.add_mul, ← h1, ← h2, ← hT, Int.add_mul]
    rw [show (i + (onu k : Int)).toNat = (i - min i j).toNat + (min i j + (onu k : Int)).toNat by omega, signed_scale]
    rw [show (j + (onu k : Int)).toNat = (j - min i j).toNat + (min i j + (onu k : Int)).toNat by omega, signed_scale]
  have hp1 : 0 < ((2 ^ (min i j + (onu k : Int)).toNat : Nat) : Int) := by have := Nat.two_pow_pos (min i j + (onu k : Int)).toNat; omega
  have hp2 : 0 < ((2 ^ onu k : Nat) : Int) := by have := Nat.two_pow_pos (onu k); omega
  refine wh_nearest k _ _ _ _ hN (onu k) (by omega) ?_ ?_
  · have := congrArg Int.natAbs hval
    rw [Int.natAbs_mul, Int.natAbs_mul, Int.natAbs_natCast, Int.natAbs_natCast] at this
    exact this
  · intro h
    have hT0 : T ≠ 0 := by
      intro e
      rw [e, Int.zero_mul] at hval
      rcases Int.mul_eq_zero.1 hval.symm with h3 | h3
      · exact h h3
      · omega
    rw [if_neg hT0]
    congr 1
    apply propext
    constructor
    · intro hn
      have : T * ((2 ^ (min i j + (onu k : Int)).toNat : Nat) : Int) < 0 := Int.mul_neg_of_neg_of_pos hn hp1
      rw [hval] at this
      by_cases h3 : n + m < 0
      · exact h3
      · have := Int.mul_nonneg (show 0 ≤ n + m by omega) (Int.le_of_lt hp2); omega
    · intro hn
      have : (n + m) * ((2 ^ onu k : Nat) : Int) < 0 := Int.mul_neg_of_neg_of_pos hn hp2
      rw [← hval] at this
      by_cases h3 : T < 0
      · exact h3
      · have := Int.mul_nonneg (show 0 ≤ T by omega) (Int.le_of_lt hp1); omega

theorem WhV.add {k : FloatKind} {x y : Option Nat} {n m : Int} (hx : WhV k x n) (hy : WhV k y m) (hN : (n + m).natAbs < 2 * k.format.binade) : WhV k (fop .add k x y) (n + m) := by
  obtain ⟨a, rfl, ha⟩ := hx
  obtain ⟨b, rfl, hb⟩ := hy
  obtain ⟨p, i, r1, i1, v1, _⟩ := wh_read ha
  obtain ⟨q, j, r2, j1, v2, _⟩ := wh_read hb
  refine ⟨_, ?_, sum_whole k (neg k a) (neg k b) p q i j n m i1 j1 (wh_signed ha i1 v1) (wh_signed hb j1 v2) hN (neg k a && neg k b)⟩
  simp only [fop, Option.bind_some, floatBits, Ieee.Format.add]
  rw [show k.format.read a = _ from r1, show k.format.read b = _ from r2]
  rfl
theorem signed_not (s : Bool) (x y : Nat) : Ieee.signed (!s) x y = - Ieee.signed s x y := by unfold Ieee.signed; cases s <;> simp
theorem WhV.sub {k : FloatKind} {x y : Option Nat} {n m : Int} (hx : WhV k x n) (hy : WhV k y m) (hN : (n - m).natAbs < 2 * k.format.binade) : WhV k (fop .sub k x y) (n - m) := by
  obtain ⟨a, rfl, ha⟩ := hx
  obtain ⟨b, rfl, hb⟩ := hy
  obtain ⟨p, i, r1, i1, v1, _⟩ := wh_read ha
  obtain ⟨q, j, r2, j1, v2, _⟩ := wh_read hb
  rw [Int.sub_eq_add_neg] at hN ⊢
  refine ⟨_, ?_, sum_whole k (neg k a) (!neg k b) p q i j n (-m) i1 j1 (wh_signed ha i1 v1) (by rw [signed_not, wh_signed hb j1 v2, Int.neg_mul]) hN (neg k a && !neg k b)⟩
  simp only [fop, Option.bind_some, floatBits, Ieee.Format.sub]
  rw [show k.format.read a = _ from r1, show k.format.read b = _ from r2]
  rfl

/-- A quotient that is a whole number (of less than 2^20) is told exactly. -/
theorem WhV.quo {x y : Option Nat} {n m q : Int} (hx : WhV .f64 x n) (hy : WhV .f64 y m) (hm : m ≠ 0) (he : n = q * m) (hq : q.natAbs < 1048576) : WhV .f64 (fop .quo .f64 x y) q := by
  obtain ⟨a, rfl, ha⟩ := hx
  obtain ⟨b, rfl, hb⟩ := hy
  obtain ⟨c, i, r1, i1, v1, b1⟩ := wh_read ha
  obtain ⟨d, j, r2, j1, v2, b2⟩ := wh_read hb
  have e6 : FloatKind.f64.format.binade = 4503599627370496 := by decide
  have e7 : FloatKind.f64.format.fractionBits = 52 := by decide
  have d0 : d ≠ 0 := by
    intro h
    rw [h, Nat.zero_mul] at v2
    rcases Nat.mul_eq_zero.1 v2.symm with h | h
    · omega
    · exact absurd h (Nat.ne_of_gt (Nat.two_pow_pos _))
  have hval : c * 2 ^ (i + (onu .f64 : Int)).toNat = q.natAbs * (d * 2 ^ (j + (onu .f64 : Int)).toNat) := by
    rw [v1, v2, he, Int.natAbs_mul, Nat.mul_assoc]
  have hc53 : c.log2 ≤ 53 := by
    by_cases c0 : c = 0
    · subst c0; decide
    · have := (Nat.log2_lt c0).2 (show c < 2 ^ 53 by rw [e6] at b1; omega)
      omega
  generalize hmore : FloatKind.f64.format.fractionBits + 2 + d.log2 - c.log2 = more
  rw [e7] at hmore
  have hex : ∃ D : Nat, c <<< more = (q.natAbs * 2 ^ D) * d ∧ (q.natAbs ≠ 0 → (D : Int) = j - i + more) := by
    by_cases q0 : q.natAbs = 0
    · refine ⟨0, ?_, fun h => absurd q0 h⟩
      have c0 : c = 0 := by
        rw [q0, Nat.zero_mul] at hval
        rcases Nat.mul_eq_zero.1 hval with h | h
        · exact h
        · exact absurd h (Nat.ne_of_gt (Nat.two_pow_pos _))
      rw [q0, c0]; simp
    · have hqd : q.natAbs * d ≠ 0 := Nat.mul_ne_zero q0 d0
      have hc0 : c ≠ 0 := by
        intro h
        rw [h, Nat.zero_mul, ← Nat.mul_assoc] at hval
        rcases Nat.mul_eq_zero.1 hval.symm with h | h
        · exact hqd h
        · exact absurd h (Nat.ne_of_gt (Nat.two_pow_pos _))
      have l1 := log2_shift hc0 (i + (onu .f64 : Int)).toNat
      rw [hval, ← Nat.mul_assoc, log2_shift hqd] at l1
      have l2 : (q.natAbs * d).log2 ≤ d.log2 + 20 := by
        have : q.natAbs * d < 2 ^ (d.log2 + 21) := by
          rw [show d.log2 + 21 = 20 + (d.log2 + 1) by omega, Nat.pow_add]
          exact Nat.mul_lt_mul_of_lt_of_le hq (Nat.le_of_lt Nat.lt_log2_self) (by have := Nat.two_pow_pos (d.log2 + 1); omega)
        have := (Nat.log2_lt hqd).2 this
        omega
      have hD : 0 ≤ j - i + more := by omega
      refine ⟨(j - i + more).toNat, ?_, fun _ => by omega⟩
      rw [Nat.shiftLeft_eq]
      have hE : c * 2 ^ more * 2 ^ (i + (onu .f64 : Int)).toNat = q.natAbs * 2 ^ (j - i + more).toNat * d * 2 ^ (i + (onu .f64 : Int)).toNat := by
        have e1 : c * 2 ^ more * 2 ^ (i + (onu .f64 : Int)).toNat = (c * 2 ^ (i + (onu .f64 : Int)).toNat) * 2 ^ more := by simp only [Nat.mul_assoc, Nat.mul_left_comm, Nat.mul_comm]
        have e2 : q.natAbs * 2 ^ (j - i + more).toNat * d * 2 ^ (i + (onu .f64 : Int)).toNat = q.natAbs * d * (2 ^ (j - i + more).toNat * 2 ^ (i + (onu .f64 : Int)).toNat) := by simp only [Nat.mul_assoc, Nat.mul_left_comm, Nat.mul_comm]
        rw [e1, hval, e2, ← Nat.pow_add, show (j - i + more).toNat + (i + (onu .f64 : Int)).toNat = (j + (onu .f64 : Int)).toNat + more by omega, Nat.pow_add]
        simp only [Nat.mul_assoc, Nat.mul_left_comm, Nat.mul_comm]
      exact Nat.eq_of_mul_eq_mul_right (Nat.two_pow_pos _) hE
  obtain ⟨D, hD1, hD2⟩ := hex
  refine ⟨FloatKind.f64.format.nearest (neg .f64 a ^^ neg .f64 b) (2 * (q.natAbs * 2 ^ D)) (i - j - more - 1), ?_, ?_⟩
  · simp only [fop, Option.bind_some, floatBits, Ieee.Format.div]
    rw [show FloatKind.f64.format.read a = _ from r1, show FloatKind.f64.format.read b = _ from r2]
    simp only [Ieee.Datum.quotient, d0, if_false, Option.map_some, Ieee.Format.write, e7, hmore, hD1, Nat.mul_div_cancel _ (Nat.pos_of_ne_zero d0), Nat.mul_mod_left]
    rfl
  · by_cases q0 : q.natAbs = 0
    · rw [q0]
      have hq0 : q = 0 := by omega
      subst hq0
      exact wh_nearest .f64 _ _ _ 0 (by rw [e6]; decide) ((j + more + 1 + (onu .f64 : Int) + (onu .f64 : Int)).toNat + i.natAbs + j.natAbs) (by omega) (by simp) (fun h => absurd rfl h)
    · have hDv := hD2 q0
      refine wh_nearest .f64 _ _ _ q (by rw [e6]; omega) (D + 1) (by omega) ?_ (fun h => ?_)
      · rw [show (i - j - more - 1 + ((D + 1 : Nat) : Int)).toNat = 0 by omega, Nat.pow_zero, Nat.mul_one, Nat.pow_succ]
        simp only [Nat.mul_assoc, Nat.mul_left_comm, Nat.mul_comm]
      · have hn : n ≠ 0 := by rw [he]; exact Int.mul_ne_zero h hm
        rw [ha.2.2 hn, hb.2.2 hm]
        have := mul_sign q m (by rw [← he]; exact hn) (decide (q < 0)) (decide (m < 0)) (fun _ => rfl) (fun _ => rfl)
        rw [← he] at this
        rw [← this]
        cases decide (q < 0) <;> cases decide (m < 0) <;> rfl

theorem WhV.widen {x : Option Nat} {n : Int} (hx : WhV .f32 x n) : WhV .f64 (fcv .f32 .f64 x) n := by
  obtain ⟨a, rfl, ha⟩ := hx
  obtain ⟨r, h1, h2, h3, h4⟩ := widen_fin a ha.1
  refine ⟨r, h1, h2, ?_, fun h => h3.trans (ha.2.2 h)⟩
  have hu : un1 .f32 * scaleW = un1 .f64 := by
    have e1 : onu .f64 = onu .f32 + gapW := by rw [gapW_eq]; decide
    unfold un1
    rw [scaleW_eq _ _ e1]
  rw [h4, ha.2.1, Nat.mul_assoc, hu]
theorem WhV.narrow {x : Option Nat} {n : Int} (hx : WhV .f64 x n) (hN : n.natAbs < 16777216) : WhV .f32 (fcv .f64 .f32 x) n ∧ over .f64 .f32 x = false := by
  obtain ⟨a, rfl, ha⟩ := hx
  obtain ⟨p, i, r1, i1, v1, _⟩ := wh_read ha
  have e5 : FloatKind.f32.format.binade = 8388608 := by decide
  have hw := wh_nearest .f32 (neg .f64 a) p i n (by rw [e5]; omega) (onu .f64) i1 v1 ha.2.2
  have hfin : (FloatKind.f32.decode (FloatKind.f32.encode (.number (neg .f64 a) p i))).isInfinity = false := by
    obtain ⟨p', i', r2, _⟩ := wh_read hw
    rw [show FloatKind.f32.encode (.number (neg .f64 a) p i) = FloatKind.f32.format.nearest (neg .f64 a) p i from rfl, r2]
    rfl
  refine ⟨⟨_, ?_, hw⟩, ?_⟩
  · simp only [fcv, Option.bind_some, floatToFloatBits, r1]
    rw [if_neg (by decide), hfin]
    rfl
  · simp only [over, Option.any_some, r1, hfin]
    rfl
theorem wh_toInt {b : Nat} {n : Int} (h : Wh .f32 b n) (hN : n.natAbs < 16777216) : floatToIntVal .f32 b .i64 = some n := by
  obtain ⟨p, i, r1, i1, v1, _⟩ := wh_read h
  have hcut : Ieee.Toward.zero.cut (neg .f32 b) (p <<< i.toNat) (-i).toNat = n.natAbs := by
    have hz : Ieee.Toward.zero.cut (neg .f32 b) (p <<< i.toNat) (-i).toNat = p <<< i.toNat / 2 ^ min (-i).toNat ((p <<< i.toNat).log2 + 2) := by
      unfold Ieee.Toward.cut
      simp [Nat.one_shiftLeft]
    rw [hz]
    by_cases h0 : i ≤ 0
    · have ep : p = n.natAbs * 2 ^ (-i).toNat := by
        have : n.natAbs * 2 ^ onu .f32 = n.natAbs * 2 ^ (-i).toNat * 2 ^ (i + (onu .f32 : Int)).toNat := by rw [Nat.mul_assoc, ← Nat.pow_add]; congr 2; omega
        rw [this] at v1
        exact Nat.eq_of_mul_eq_mul_right (Nat.two_pow_pos _) v1
      rw [show i.toNat = 0 by omega, Nat.shiftLeft_zero]
      by_cases n0 : n.natAbs = 0
      · rw [ep, n0]; simp
      · rw [ep, log2_shift n0, Nat.min_eq_left (by omega), Nat.mul_div_cancel _ (Nat.two_pow_pos _)]
    · rw [show (-i).toNat = 0 by omega, Nat.zero_min, Nat.pow_zero, Nat.div_one, Nat.shiftLeft_eq]
      have : p * 2 ^ (i + (onu .f32 : Int)).toNat = p * 2 ^ i.toNat * 2 ^ onu .f32 := by rw [Nat.mul_assoc, ← Nat.pow_add]; congr 2; omega
      rw [this] at v1
      exact Nat.eq_of_mul_eq_mul_right (Nat.two_pow_pos _) v1
  have ht : (FloatKind.f32.decode b).toInt .zero = some n := by
    rw [r1]
    show some (Ieee.signed (neg .f32 b) (Ieee.Toward.zero.cut (neg .f32 b) (p <<< i.toNat) (-i).toNat) 0) = some n
    rw [hcut]
    unfold Ieee.signed
    rw [Nat.shiftLeft_zero]
    by_cases h0 : n = 0
    · subst h0; simp
    · rw [h.2.2 h0]
      by_cases hn : n < 0
      · rw [if_pos (by simp [hn])]; congr 1; omega
      · rw [if_neg (by simp [hn])]; congr 1; omega
  unfold floatToIntVal
  rw [ht]
  simp only
  rw [if_pos]
  constructor
  · show (-9223372036854775808 : Int) ≤ _; omega
  · show _ ≤ (9223372036854775807 : Int); omega
/-- Two whole numbers of one value and no sign are one float. -/
theorem wh_same64 {a b : Nat} {n : Int} (la : a < 2 ^ 64) (lb : b < 2 ^ 64) (ha : Wh .f64 a n) (hb : Wh .f64 b n) (hs : neg .f64 a = neg .f64 b) : a = b := by
  have hU := U_inj (ha.2.1.trans hb.2.1.symm)
  unfold neg at hs
  unfold rung at hU
  rw [show FloatKind.f64.format.signWeight = 9223372036854775808 by decide] at hs hU
  have h1 : a / 9223372036854775808 = 0 ∨ a / 9223372036854775808 = 1 := by omega
  have h2 : b / 9223372036854775808 = 0 ∨ b / 9223372036854775808 = 1 := by omega
  rcases h1 with h1 | h1 <;> rcases h2 with h2 | h2 <;> rw [h1, h2] at hs <;> simp at hs <;> omega
end Go.Proofs.Ytbcjgjdkapdihaa.Fl
end

section
set_option linter.unusedSimpArgs false
set_option linter.unusedVariables false
namespace Go.Proofs.Ytbcjgjdkapdihaa.Fl
open Go Go.RowKit

/-- The float b is n units of 2^-d. -/
def Dy (k : FloatKind) (d : Nat) (b : Nat) (n : Int) : Prop := rung k b < k.format.infRung ∧ U k (rung k b) * 2 ^ d = n.natAbs * un1 k ∧ (n ≠ 0 → neg k b = decide (n < 0))
theorem onu_ge (k : FloatKind) : 100 ≤ onu k := by cases k <;> decide
theorem log_frac (k : FloatKind) {N : Nat} (hN : N < 2 * k.format.binade) (n0 : N ≠ 0) : N.log2 ≤ k.format.fractionBits := by
  have := (Nat.log2_lt n0).2 (show N < 2 ^ (k.format.fractionBits + 1) by rw [Nat.pow_succ, Nat.mul_comm]; exact hN)
  omega

theorem nearest_dy (k : FloatKind) (s : Bool) (m : Nat) (i : Int) (N d : Nat) (hd : d ≤ 60) (hN : N < 2 * k.format.binade) (e : Nat) (hi : 0 ≤ i + e) (hv : m * 2 ^ (i + e).toNat * 2 ^ d = N * 2 ^ e) :
    rung k (k.format.nearest s m i) < k.format.infRung ∧ U k (rung k (k.format.nearest s m i)) * 2 ^ d = N * un1 k := by
  have hlp := least_onu k
  have hfr := frac_onu k
  have hon := onu_ge k
  have hB : 0 < k.format.binade := Nat.two_pow_pos _
  have hpos := Nat.two_pow_pos
  by_cases n0 : N = 0
  · subst n0
    have m0 : m = 0 := by
      rw [Nat.zero_mul] at hv
      rcases Nat.mul_eq_zero.1 hv with h | h
      · rcases Nat.mul_eq_zero.1 h with h | h
        · exact h
        · exact absurd h (Nat.ne_of_gt (hpos _))
      · exact absurd h (Nat.ne_of_gt (hpos _))
    subst m0
    have hr : rung k (k.format.nearest s 0 i) = 0 := by unfold rung; rw [nearest_rung, if_pos rfl]
    rw [hr]
    refine ⟨by cases k <;> decide, ?_⟩
    unfold U; rw [if_pos hB]; simp
  · have hlogN := log_frac k hN n0
    have key : k.format.nearest s m i = k.format.nearest s N (-(d : Int)) := by
      by_cases h0 : i ≤ -(d : Int)
      · have em : m = N * 2 ^ (-(d : Int) - i).toNat := by
          have : N * 2 ^ e = N * 2 ^ (-(d : Int) - i).toNat * 2 ^ ((i + e).toNat + d) := by rw [Nat.mul_assoc, ← Nat.pow_add]; congr 2; omega
          rw [this, Nat.mul_assoc, ← Nat.pow_add] at hv
          exact Nat.eq_of_mul_eq_mul_right (hpos _) hv
        rw [em, nearest_shift _ _ n0 _ _ (by rw [hlp]; omega)]
        congr 1
        omega
      · have eN : N = m * 2 ^ (i + d).toNat := by
          have : m * 2 ^ (i + e).toNat * 2 ^ d = m * 2 ^ (i + d).toNat * 2 ^ e := by rw [Nat.mul_assoc, Nat.mul_assoc, ← Nat.pow_add, ← Nat.pow_add]; congr 2; omega
          rw [this] at hv
          exact (Nat.eq_of_mul_eq_mul_right (hpos _) hv).symm
        have m0 : m ≠ 0 := fun h => n0 (by rw [eN, h, Nat.zero_mul])
        have hl := log2_shift m0 (i + d).toNat
        rw [← eN] at hl
        have h2 := nearest_shift k.format s m0 (-(d : Int)) (i + d).toNat (by rw [hlp]; omega)
        rw [← eN] at h2
        rw [h2]
        congr 1
        omega
    rw [key]
    obtain ⟨x1, x2⟩ := nearest_exact k s N (-(d : Int)) hN (by rw [hlp]; omega) (.inr (by omega))
    refine ⟨x1, ?_⟩
    rw [x2, Nat.mul_assoc, ← Nat.pow_add]
    unfold un1
    congr 2
    rw [hlp]; omega
theorem dy_nearest (k : FloatKind) (s : Bool) (m : Nat) (i : Int) (d : Nat) (n : Int) (hd : d ≤ 60) (hN : n.natAbs < 2 * k.format.binade) (e : Nat) (hi : 0 ≤ i + e) (hv : m * 2 ^ (i + e).toNat * 2 ^ d = n.natAbs * 2 ^ e) (hs : n ≠ 0 → s = decide (n < 0)) :
    Dy k d (k.format.nearest s m i) n := by
  obtain ⟨h1, h2⟩ := nearest_dy k s m i n.natAbs d hd hN e hi hv
  exact ⟨h1, h2, fun h => (neg_nearest _ _ _ _).trans (hs h)⟩

/-- What it reads as. -/
theorem dy_read {k : FloatKind} {d b : Nat} {n : Int} (h : Dy k d b n) : ∃ m i, k.decode b = .number (neg k b) m i ∧ 0 ≤ i + (onu k : Int) ∧ m * 2 ^ (i + (onu k : Int)).toNat * 2 ^ d = n.natAbs * 2 ^ onu k ∧ m < 2 * k.format.binade := by
  obtain ⟨m, i, h1, h2, h3, h4⟩ := read_units k b h.1
  rw [least_onu] at h2 h3
  refine ⟨m, i, h1, by omega, ?_, h4⟩
  have := h.2.1
  rw [← h3] at this
  rw [show i + (onu k : Int) = i - -(onu k : Int) by omega]
  exact this
theorem dy_vl {k : FloatKind} {d b : Nat} {n : Int} (h : Dy k d b n) : vl k b = some b := fin_vl h.1
theorem dy_wh {k : FloatKind} {b : Nat} {n : Int} (h : Dy k 0 b n) : Wh k b n := ⟨h.1, by have := h.2.1; rwa [Nat.pow_zero, Nat.mul_one] at this, h.2.2⟩
theorem wh_dy {k : FloatKind} {b : Nat} {n : Int} (h : Wh k b n) : Dy k 0 b n := ⟨h.1, by rw [Nat.pow_zero, Nat.mul_one]; exact h.2.1, h.2.2⟩
/-- A finer unit. -/
theorem Dy.finer {k : FloatKind} {d b : Nat} {n : Int} (h : Dy k d b n) (e : Nat) : Dy k (d + e) b (n * (2 ^ e : Nat)) := by
  have hp := Nat.two_pow_pos e
  refine ⟨h.1, ?_, fun h0 => ?_⟩
  · rw [Nat.pow_add, ← Nat.mul_assoc, h.2.1, Int.natAbs_mul, Int.natAbs_natCast]
    simp only [Nat.mul_assoc, Nat.mul_comm, Nat.mul_left_comm]
  · have hn : n ≠ 0 := fun e1 => h0 (by rw [e1, Int.zero_mul])
    rw [h.2.2 hn]
    congr 1
    apply propext
    constructor
    · intro h1; exact Int.mul_neg_of_neg_of_pos h1 (by omega)
    · intro h1
      by_cases h2 : n < 0
      · exact h2
      · have := Int.mul_nonneg (show 0 ≤ n by omega) (show (0 : Int) ≤ (2 ^ e : Nat) by omega); omega
theorem Dy.coarser {k : FloatKind} {d e b : Nat} {n m : Int} (h : Dy k (d + e) b m) (hm : m = n * (2 ^ e : Nat)) : Dy k d b n := by
  have hp := Nat.two_pow_pos e
  subst hm
  refine ⟨h.1, ?_, fun h0 => ?_⟩
  · have h1 := h.2.1
    rw [Nat.pow_add, ← Nat.mul_assoc, Int.natAbs_mul, Int.natAbs_natCast, Nat.mul_assoc n.natAbs, Nat.mul_comm (2 ^ e) (un1 k), ← Nat.mul_assoc] at h1
    exact Nat.eq_of_mul_eq_mul_right hp h1
  · have h0' : n * ((2 ^ e : Nat) : Int) ≠ 0 := Int.mul_ne_zero h0 (by omega)
    rw [h.2.2 h0']
    congr 1
    apply propext
    constructor
    · intro h1
      by_cases h2 : n < 0
      · exact h2
      · have := Int.mul_nonneg (show 0 ≤ n by omega) (show (0 : Int) ≤ (2 ^ e : Nat) by omega); omega
    · intro h1; exact Int.mul_neg_of_neg_of_pos h1 (by omega)
theorem dy_sv {k : FloatKind} {d b : Nat} {n : Int} (h : Dy k d b n) : sv k b * (2 ^ d : Nat) = n * (un1 k : Nat) := by
  unfold sv
  have h2 := h.2.1
  by_cases h0 : n = 0
  · subst h0
    have : U k (rung k b) = 0 := by
      rw [Int.natAbs_zero, Nat.zero_mul] at h2
      rcases Nat.mul_eq_zero.1 h2 with h | h
      · exact h
      · exact absurd h (Nat.ne_of_gt (Nat.two_pow_pos _))
    rw [this]; simp
  · rw [h.2.2 h0]
    have h3 : ((U k (rung k b) * 2 ^ d : Nat) : Int) = (n.natAbs * un1 k : Nat) := by rw [h2]
    rw [Int.natCast_mul, Int.natCast_mul] at h3
    by_cases hn : n < 0
    · have e : (n.natAbs : Int) = -n := by omega
      rw [if_pos (by simp [hn]), Int.neg_mul, h3, e, Int.neg_mul, Int.neg_neg]
    · have e : (n.natAbs : Int) = n := by omega
      rw [if_neg (by simp [hn]), h3, e]
theorem dy_order {k : FloatKind} {d a b : Nat} {n m : Int} (ha : Dy k d a n) (hb : Dy k d b m) : k.format.order a b = some (compare n m) := by
  rw [order_units k a b ha.1 hb.1, ← compare_scale _ _ _ (Nat.two_pow_pos d), dy_sv ha, dy_sv hb, compare_scale _ _ _ (un1_pos k)]

/-- The value (up to which not-a-number) is n units of 2^-d. -/
def DyV (k : FloatKind) (d : Nat) (x : Option Nat) (n : Int) : Prop := ∃ b, x = some b ∧ Dy k d b n
theorem DyV.of {k : FloatKind} {d b : Nat} {n : Int} (h : Dy k d b n) : DyV k d (vl k b) n := ⟨b, dy_vl h, h⟩
theorem DyV.finer {k : FloatKind} {d : Nat} {x : Option Nat} {n : Int} (h : DyV k d x n) (e : Nat) : DyV k (d + e) x (n * (2 ^ e : Nat)) := by
  obtain ⟨b, h1, h2⟩ := h
  exact ⟨b, h1, h2.finer e⟩

theorem DyV.mul {k : FloatKind} {d d' : Nat} {x y : Option Nat} {n m : Int} (hx : DyV k d x n) (hy : DyV k d' y m) (hd : d + d' ≤ 60) (hN : (n * m).natAbs < 2 * k.format.binade) : DyV k (d + d') (fop .mul k x y) (n * m) := by
  obtain ⟨a, rfl, ha⟩ := hx
  obtain ⟨b, rfl, hb⟩ := hy
  obtain ⟨p, i, r1, i1, v1, _⟩ := dy_read ha
  obtain ⟨q, j, r2, j1, v2, _⟩ := dy_read hb
  refine ⟨k.format.nearest (neg k a ^^ neg k b) (p * q) (i + j), ?_, dy_nearest k _ _ _ _ _ hd hN (onu k + onu k) (by omega) ?_ (fun h => mul_sign n m h _ _ ha.2.2 hb.2.2)⟩
  · simp only [fop, Option.bind_some, floatBits, Ieee.Format.mul]
    rw [show k.format.read a = _ from r1, show k.format.read b = _ from r2]
    rfl
  · rw [show (i + j + ((onu k + onu k : Nat) : Int)).toNat = (i + (onu k : Int)).toNat + (j + (onu k : Int)).toNat by omega, Nat.pow_add, Nat.pow_add, Nat.pow_add, Int.natAbs_mul]
    have e1 : p * q * (2 ^ (i + (onu k : Int)).toNat * 2 ^ (j + (onu k : Int)).toNat) * (2 ^ d * 2 ^ d') = (p * 2 ^ (i + (onu k : Int)).toNat * 2 ^ d) * (q * 2 ^ (j + (onu k : Int)).toNat * 2 ^ d') := by
      simp only [Nat.mul_assoc, Nat.mul_comm, Nat.mul_left_comm]
    rw [e1, v1, v2, Nat.mul_mul_mul_comm]

theorem sum_dy (k : FloatKind) (s t : Bool) (p q : Nat) (i j : Int) (d : Nat) (n m : Int) (hd : d ≤ 60) (i1 : 0 ≤ i + (onu k : Int)) (j1 : 0 ≤ j + (onu k : Int))
    (h1 : Ieee.signed s p (i + (onu k : Int)).toNat * (2 ^ d : Nat) = n * (2 ^ onu k : Nat)) (h2 : Ieee.signed t q (j + (onu k : Int)).toNat * (2 ^ d : Nat) = m * (2 ^ onu k : Nat)) (hN : (n + m).natAbs < 2 * k.format.binade) (z : Bool) :
    Dy k d (k.format.nearest (if Ieee.signed s p (i - min i j).toNat + Ieee.signed t q (j - min i j).toNat = 0 then z else decide (Ieee.signed s p (i - min i j).toNat + Ieee.signed t q (j - min i j).toNat < 0))
      (Ieee.signed s p (i - min i j).toNat + Ieee.signed t q (j - min i j).toNat).natAbs (min i j)) (n + m) := by
  generalize hT : Ieee.signed s p (i - min i j).toNat + Ieee.signed t q (j - min i j).toNat = T
  have hval : T * (2 ^ (min i j + (onu k : Int)).toNat * 2 ^ d : Nat) = (n + m) * (2 ^ onu k : Nat) := by
    rw [Int.add_mul, ← h1, ← h2, ← hT, Int.add_mul, Int.natCast_mul]
    rw [show (i + (onu k : Int)).toNat = (i - min i j).toNat + (min i j + (onu k : Int)).toNat by omega, signed_scale]
    rw [show (j + (onu k : Int)).toNat = (j - min i j).toNat + (min i j + (onu k : Int)).toNat by omega, signed_scale]
    rw [Int.mul_assoc, Int.mul_assoc]
  have hp1 : 0 < ((2 ^ (min i j + (onu k : Int)).toNat * 2 ^ d : Nat) : Int) := by have := Nat.mul_pos (Nat.two_pow_pos (min i j + (onu k : Int)).toNat) (Nat.two_pow_pos d); omega
  have hp2 : 0 < ((2 ^ onu k : Nat) : Int) := by have := Nat.two_pow_pos (onu k); omega
  refine dy_nearest k _ _ _ _ _ hd hN (onu k) (by omega) ?_ ?_
  · have := congrArg Int.natAbs hval
    rw [Int.natAbs_mul, Int.natAbs_mul, Int.natAbs_natCast, Int.natAbs_natCast, ← Nat.mul_assoc] at this
    exact this
  · intro h
    have hT0 : T ≠ 0 := by
      intro e
      rw [e, Int.zero_mul] at hval
      rcases Int.mul_eq_zero.1 hval.symm with h3 | h3
      · exact h h3
      · omega
    rw [if_neg hT0]
    congr 1
    apply propext
    constructor
    · intro hn
      have : T * ((2 ^ (min i j + (onu k : Int)).toNat * 2 ^ d : Nat) : Int) < 0 := Int.mul_neg_of_neg_of_pos hn hp1
      rw [hval] at this
      by_cases h3 : n + m < 0
      · exact h3
      · have := Int.mul_nonneg (show 0 ≤ n + m by omega) (Int.le_of_lt hp2); omega
    · intro hn
      have : (n + m) * ((2 ^ onu k : Nat) : Int) < 0 := Int.mul_neg_of_neg_of_pos hn hp2
      rw [← hval] at this
      by_cases h3 : T < 0
      · exact h3
      · have := Int.mul_nonneg (show 0 ≤ T by omega) (Int.le_of_lt hp1); omega
theorem dy_signed {k : FloatKind} {d b : Nat} {n : Int} (h : Dy k d b n) {m : Nat} {i : Int} (hv : m * 2 ^ (i + (onu k : Int)).toNat * 2 ^ d = n.natAbs * 2 ^ onu k) : Ieee.signed (neg k b) m (i + (onu k : Int)).toNat * (2 ^ d : Nat) = n * (2 ^ onu k : Nat) := by
  unfold Ieee.signed
  rw [Nat.shiftLeft_eq]
  have h3 : ((m * 2 ^ (i + (onu k : Int)).toNat : Nat) : Int) * (2 ^ d : Nat) = (n.natAbs : Int) * (2 ^ onu k : Nat) := by rw [← Int.natCast_mul, hv, Int.natCast_mul]
  by_cases h0 : n = 0
  · subst h0
    rw [Int.natAbs_zero, Int.natCast_zero, Int.zero_mul] at h3
    split
    · rw [Int.neg_mul, h3]; simp
    · rw [h3]; simp
  · rw [h.2.2 h0]
    by_cases hn : n < 0
    · have e : (n.natAbs : Int) = -n := by omega
      rw [if_pos (by simp [hn]), Int.neg_mul, h3, e, Int.neg_mul, Int.neg_neg]
    · have e : (n.natAbs : Int) = n := by omega
      rw [if_neg (by simp [hn]), h3, e]
theorem DyV.add {k : FloatKind} {d : Nat} {x y : Option Nat} {n m : Int} (hx : DyV k d x n) (hy : DyV k d y m) (hd : d ≤ 60) (hN : (n + m).natAbs < 2 * k.format.binade) : DyV k d (fop .add k x y) (n + m) := by
  obtain ⟨a, rfl, ha⟩ := hx
  obtain ⟨b, rfl, hb⟩ := hy
  obtain ⟨p, i, r1, i1, v1, _⟩ := dy_read ha
  obtain ⟨q, j, r2, j1, v2, _⟩ := dy_read hb
  refine ⟨_, ?_, sum_dy k (neg k a) (neg k b) p q i j d n m hd i1 j1 (dy_signed ha v1) (dy_signed hb v2) hN (neg k a && neg k b)⟩
  simp only [fop, Option.bind_some, floatBits, Ieee.Format.add]
  rw [show k.format.read a = _ from r1, show k.format.read b = _ from r2]
  rfl
theorem DyV.sub {k : FloatKind} {d : Nat} {x y : Option Nat} {n m : Int} (hx : DyV k d x n) (hy : DyV k d y m) (hd : d ≤ 60) (hN : (n - m).natAbs < 2 * k.format.binade) : DyV k d (fop .sub k x y) (n - m) := by
  obtain ⟨a, rfl, ha⟩ := hx
  obtain ⟨b, rfl, hb⟩ := hy
  obtain ⟨p, i, r1, i1, v1, _⟩ := dy_read ha
  obtain ⟨q, j, r2, j1, v2, _⟩ := dy_read hb
  rw [Int.sub_eq_add_neg] at hN ⊢
  refine ⟨_, ?_, sum_dy k (neg k a) (!neg k b) p q i j d n (-m) hd i1 j1 (dy_signed ha v1) (by rw [signed_not, Int.neg_mul, dy_signed hb v2, Int.neg_mul]) hN (neg k a && !neg k b)⟩
  simp only [fop, Option.bind_some, floatBits, Ieee.Format.sub]
  rw [show k.format.read a = _ from r1, show k.format.read b = _ from r2]
  rfl
theorem DyV.widen {d : Nat} {x : Option Nat} {n : Int} (hx : DyV .f32 d x n) : DyV .f64 d (fcv .f32 .f64 x) n := by
  obtain ⟨a, rfl, ha⟩ := hx
  obtain ⟨r, h1, h2, h3, h4⟩ := widen_fin a ha.1
  refine ⟨r, h1, h2, ?_, fun h => h3.trans (ha.2.2 h)⟩
  have hu : un1 .f32 * scaleW = un1 .f64 := by
    have e1 : onu .f64 = onu .f32 + gapW := by rw [gapW_eq]; decide
    unfold un1
    rw [scaleW_eq _ _ e1]
  rw [h4, Nat.mul_right_comm, ha.2.1, Nat.mul_assoc, hu]
theorem DyV.narrow {d : Nat} {x : Option Nat} {n : Int} (hx : DyV .f64 d x n) (hd : d ≤ 60) (hN : n.natAbs < 16777216) : DyV .f32 d (fcv .f64 .f32 x) n ∧ over .f64 .f32 x = false := by
  obtain ⟨a, rfl, ha⟩ := hx
  obtain ⟨p, i, r1, i1, v1, _⟩ := dy_read ha
  have e5 : FloatKind.f32.format.binade = 8388608 := by decide
  have hw := dy_nearest .f32 (neg .f64 a) p i d n hd (by rw [e5]; omega) (onu .f64) i1 v1 ha.2.2
  have hfin : (FloatKind.f32.decode (FloatKind.f32.encode (.number (neg .f64 a) p i))).isInfinity = false := by
    obtain ⟨p', i', r2, _⟩ := dy_read hw
    rw [show FloatKind.f32.encode (.number (neg .f64 a) p i) = FloatKind.f32.format.nearest (neg .f64 a) p i from rfl, r2]
    rfl
  refine ⟨⟨_, ?_, hw⟩, ?_⟩
  · simp only [fcv, Option.bind_some, floatToFloatBits, r1]
    rw [if_neg (by decide), hfin]
    rfl
  · simp only [over, Option.any_some, r1, hfin]
    rfl
end Go.Proofs.Ytbcjgjdkapdihaa.Fl
end

section
set_option linter.unusedVariables false
set_option linter.unusedSimpArgs false
set_option maxRecDepth 8000
namespace Go.Proofs.Ytbcjgjdkapdihaa.Fl
open Go Go.RowKit

/-- A float32 as a float64. -/
def Wd (a : Nat) : Option Nat := fcv .f32 .f64 (vl .f32 a)
/-- The parts of a product that are not narrowed, and a power. -/
def wpR (a b c d : Nat) : Option Nat := fop .sub .f64 (fop .mul .f64 (Wd a) (Wd c)) (fop .mul .f64 (Wd b) (Wd d))
def wpI (a b c d : Nat) : Option Nat := fop .add .f64 (fop .mul .f64 (Wd a) (Wd d)) (fop .mul .f64 (Wd b) (Wd c))
def pwW (a b : Nat) : Option Nat := fop .add .f64 (fop .mul .f64 (Wd a) (Wd a)) (fop .mul .f64 (Wd b) (Wd b))
/-- A 64-bit value that is narrowed to r. -/
def NarV (x : Option Nat) (r : Nat) : Prop := over .f64 .f32 x = false ∧ fcv .f64 .f32 x = some r
/-- (r, s) is the product. -/
def MulV (a b c d r s : Nat) : Prop := NarV (wpR a b c d) r ∧ NarV (wpI a b c d) s
/-- (r, s) is the quotient. -/
def QuoV (a b c d r s : Nat) : Prop := NarV (fop .quo .f64 (wpR a b c (Op.negFloat .f32 d)) (pwW c d)) r ∧ NarV (fop .quo .f64 (wpI a b c (Op.negFloat .f32 d)) (pwW c d)) s

theorem nar_lt {b r : Nat} (h : NarV (vl .f64 b) r) : vl .f32 r = some r := by
  have h2 := h.2
  unfold fcv at h2
  cases hv : vl .f64 b with
  | none => rw [hv] at h2; cases h2
  | some c =>
    rw [hv, Option.bind_some] at h2
    unfold floatToFloatBits at h2
    rw [if_neg (by decide)] at h2
    split at h2
    · cases h2
    · cases h2; exact vl_write .f32 _ rfl
    · split at h2
      · cases h2
      · cases h2; exact vl_write .f32 _ rfl

theorem wideP_any (a b c d : Nat) (w : World) : Calls Try.prog 88 #[.complex .f32 a b, .complex .f32 c d] w fun e w' => ∃ x y n, e = .returned (.complex .f64 x y) ∧
    vl .f64 x = wpR a b c d ∧ vl .f64 y = wpI a b c d ∧ x < 2 ^ 64 ∧ y < 2 ^ 64 ∧ w' = w.drewN n := by
  have hadd := fun x y w => run_fov (P := Try.prog) .add rfl 27 .f64 x y w
  have hsub := fun x y w => run_fov (P := Try.prog) .sub rfl 27 .f64 x y w
  have hmul := fun x y w => run_fov (P := Try.prog) .mul rfl 27 .f64 x y w
  have hv1 := run_cv a
  have hv2 := run_cv b
  have hv3 := run_cv c
  have hv4 := run_cv d
  go_enter Try.func88, Try.ntmps88
  go_wp2
  go_ret
  unfold wpR wpI Wd
  refine ⟨_, _, _, rfl, ?_, ?_, fov_lt _ _ _ _ _, fov_lt _ _ _ _ _, rfl⟩
  · rw [vl_fov, vl_fov, vl_fov, vl_cvv, vl_cvv, vl_cvv, vl_cvv]
  · rw [vl_fov, vl_fov, vl_fov, vl_cvv, vl_cvv, vl_cvv, vl_cvv]
theorem wideW_any (a b : Nat) (w : World) : Calls Try.prog 87 #[.complex .f32 a b] w (FRet .f64 (pwW a b) w) := by
  have hadd := fun x y w => run_fov (P := Try.prog) .add rfl 27 .f64 x y w
  have hmul := fun x y w => run_fov (P := Try.prog) .mul rfl 27 .f64 x y w
  have hv1 := run_cv a
  have hv2 := run_cv b
  go_enter Try.func87, Try.ntmps87
  go_wp2
  go_ret
  unfold pwW Wd
  refine ⟨_, _, rfl, ?_, fov_lt _ _ _ _ _, rfl⟩
  rw [vl_fov, vl_fov, vl_fov, vl_cvv, vl_cvv]
theorem narrC_any (a b r s : Nat) (ha : a < 2 ^ 64) (hb : b < 2 ^ 64) (na : NarV (vl .f64 a) r) (nb : NarV (vl .f64 b) s) (w : World) :
    Calls Try.prog 79 #[.complex .f64 a b] w (RB (.complex .f32 r s) w) := by
  have hA := fun w' => narrow_any a ha na.1 w'
  have hB := fun w' => narrow_any b hb nb.1 w'
  rw [na.2] at hA
  rw [nb.2] at hB
  clear na nb
  go_enter Try.func79, Try.ntmps79
  go_wp2_with fail
  refine (hA _).mono ?_
  rintro e w' ⟨q1, m1, rfl, h1, h2, rfl⟩
  obtain rfl := vl_some h1
  clear h1
  go_wp2_with fail
  refine (hB _).mono ?_
  rintro e w' ⟨q2, m2, rfl, h3, h4, rfl⟩
  obtain rfl := vl_some h3
  clear h3
  go_wp2_with fail
  go_ret
  exact ⟨rfl, rfl, rfl, rfl, Nat.le_refl _, fun _ _ => rfl⟩
theorem mulV_any {a b c d r s : Nat} (h : MulV a b c d r s) (w : World) : Calls Try.prog 19 #[.complex .f32 a b, .complex .f32 c d] w (RB (.complex .f32 r s) w) := by
  have hP := fun w' => wideP_any a b c d w'
  obtain ⟨h1, h2⟩ := h
  have N1 := Lib.hid h1
  have N2 := Lib.hid h2
  clear h1 h2
  go_enter Try.func19, Try.ntmps19
  go_wp2_with fail
  refine (hP _).mono ?_
  rintro e w' ⟨x, y, n, rfl, hx, hy, lx, ly, rfl⟩
  clear hP
  rw [← hx] at N1
  rw [← hy] at N2
  clear hx hy
  go_wp2_with fail
  refine (narrC_any x y r s lx ly N1.out N2.out _).mono ?_
  rintro e w' ⟨rfl, hb⟩
  have Hb := Lib.hid hb
  clear hb
  go_wp2_with fail
  go_ret
  exact ⟨rfl, (Grown.drawn w n).2.trans Hb.out⟩
theorem conjC_any (a b : Nat) (w : World) : Calls Try.prog 191 #[.complex .f32 a b] w (RB (.complex .f32 a (Op.negFloat .f32 b)) w) := by
  have hn : ∀ w : World, (Op.unary UnOp.neg (.float .f32 b)).run Try.prog w = .ok (.float .f32 (Op.negFloat .f32 b)) w := fun w => rfl
  go_enter Try.func191, Try.ntmps191
  go_wp2
  go_ret
  exact ⟨rfl, Below.refl _ _⟩
theorem quoV_any {a b c d r s : Nat} (h : QuoV a b c d r s) (w : World) : Calls Try.prog 139 #[.complex .f32 a b, .complex .f32 c d] w (RB (.complex .f32 r s) w) := by
  obtain ⟨h1, h2⟩ := h
  have n1 := Lib.hid h1
  have n2 := Lib.hid h2
  clear h1 h2
  have hW := fun w' => wideP_any a b c (Op.negFloat .f32 d) w'
  have hV := fun w' => wideW_any c d w'
  have hJ := fun w' => conjC_any c d w'
  have hq := fun x y (w : World) => run_fov (P := Try.prog) .quo rfl 27 .f64 x y w
  go_enter Try.func139, Try.ntmps139
  go_wp2_with fail
  refine (hJ _).mono ?_
  rintro e w' ⟨rfl, hb⟩
  have H0 := Lib.hid hb
  clear hb
  go_wp2_with fail
  refine (hW _).mono ?_
  rintro e w2 ⟨u, v, m1, rfl, hu, hv, lu, lv, rfl⟩
  rw [← hu] at n1
  rw [← hv] at n2
  clear hu hv hW hJ
  go_wp2_with fail
  refine (hV _).mono ?_
  rintro e w2 ⟨s', m2, rfl, hs, ls, rfl⟩
  rw [← hs] at n1 n2
  clear hs hV
  have f1 := fun w' => vl_fov .quo .f64 u s' w'
  have f2 := fun w' => vl_fov .quo .f64 v s' w'
  have F1 := Lib.hid f1
  have F2 := Lib.hid f2
  clear f1 f2
  go_wp2_with fail
  refine (narrC_any _ _ r s (fov_lt _ _ _ _ _) (fov_lt _ _ _ _ _) (by rw [F1.out]; exact n1.out) (by rw [F2.out]; exact n2.out) _).mono ?_
  rintro e w3 ⟨rfl, hb⟩
  have Hb := Lib.hid hb
  clear hb
  go_wp2_with fail
  go_ret
  exact ⟨rfl, H0.out.trans ((Grown.drawn w' _).2.mono H0.out.size |>.trans (Hb.out.mono H0.out.size))⟩
/-- Numbers of units of 2^-d: their products are exact. -/
theorem bin64 : FloatKind.f64.format.binade = 4503599627370496 := by decide
theorem bin32 : FloatKind.f32.format.binade = 8388608 := by decide
theorem natAbs_mul_le {A C : Int} {x y : Nat} (h : A.natAbs ≤ x) (h2 : C.natAbs ≤ y) : (A * C).natAbs ≤ x * y := by
  rw [Int.natAbs_mul]; exact Nat.mul_le_mul h h2
theorem dy_mulV {a b c d i j : Nat} {A B C D : Int} (ha : Dy .f32 i a A) (hb : Dy .f32 i b B) (hc : Dy .f32 j c C) (hd : Dy .f32 j d D) (hij : i + j ≤ 60) (hA : A.natAbs ≤ 2048) (hB : B.natAbs ≤ 2048) (hC : C.natAbs ≤ 2048) (hD : D.natAbs ≤ 2048) :
    ∃ r s, MulV a b c d r s ∧ Dy .f32 (i + j) r (A * C - B * D) ∧ Dy .f32 (i + j) s (A * D + B * C) := by
  have p1 := natAbs_mul_le hA hC
  have p2 := natAbs_mul_le hB hD
  have p3 := natAbs_mul_le hA hD
  have p4 := natAbs_mul_le hB hC
  have va := (DyV.of ha).widen
  have vb := (DyV.of hb).widen
  have vc := (DyV.of hc).widen
  have vd := (DyV.of hd).widen
  have x1 := (va.mul vc hij (by rw [bin64]; omega)).sub (vb.mul vd hij (by rw [bin64]; omega)) hij (by rw [bin64]; omega)
  have x2 := (va.mul vd hij (by rw [bin64]; omega)).add (vb.mul vc hij (by rw [bin64]; omega)) hij (by rw [bin64]; omega)
  obtain ⟨⟨r, e1, y1⟩, o1⟩ := x1.narrow hij (by omega)
  obtain ⟨⟨s, e2, y2⟩, o2⟩ := x2.narrow hij (by omega)
  exact ⟨r, s, ⟨⟨o1, e1⟩, ⟨o2, e2⟩⟩, y1, y2⟩
end Go.Proofs.Ytbcjgjdkapdihaa.Fl
end

section
set_option linter.unusedVariables false
set_option linter.unusedSimpArgs false
set_option maxRecDepth 8000
namespace Go.Proofs.Ytbcjgjdkapdihaa
open Go Go.RowKit Go.Deep Go.Proofs.Ytbcjgjdkapdihaa.Fl

/-- The cells of a bus, and its value. -/
def BL (par : Int) (o0 o1 s0 s1 : Nat) (kind : Int) (l : Nat → Nat) (cust : Int) : List Value := [.int .i64 par, .complex .f32 o0 o1, .complex .f32 s0 s1, .int .i64 kind, .complex .f32 (l 0) (l 1), .complex .f32 (l 2) (l 3), .complex .f32 (l 4) (l 5), .int .i64 cust]
def BusL (par : Int) (o0 o1 s0 s1 : Nat) (kind : Int) (l : Nat → Nat) (cust : Int) : Value := .agg (BL par o0 o1 s0 s1 kind l cust).toArray
/-- (r, s) is what one phase loses: a + b i its own current, c + d i and e + f i those of the others. -/
def DropAt (o0 o1 s0 s1 a b c d e f r s : Nat) : Prop := ∃ t0 t1 m0 m1 n0 n1, fop .add .f32 (vl .f32 c) (vl .f32 e) = some t0 ∧ fop .add .f32 (vl .f32 d) (vl .f32 f) = some t1 ∧ MulV o0 o1 a b m0 m1 ∧ MulV s0 s1 t0 t1 n0 n1 ∧
  fop .add .f32 (vl .f32 m0) (vl .f32 n0) = some r ∧ fop .add .f32 (vl .f32 m1) (vl .f32 n1) = some s

/-- What the loop of DropOf holds: k results. -/
def dropL (r : Nat → Nat) (k : Nat) : List Value := [if 0 < k then .complex .f32 (r 0) (r 1) else .complex .f32 0 0, if 1 < k then .complex .f32 (r 2) (r 3) else .complex .f32 0 0, if 2 < k then .complex .f32 (r 4) (r 5) else .complex .f32 0 0]
structure DropSt (w wr : World) (B : List Value) (x r : Nat → Nat) (k : Nat) : Prop where
  bus : RL wr w.heap.size 89 B
  res : RL wr (w.heap.size + 1 + 1) 37 [.complex .f32 0 0, .complex .f32 0 0, .complex .f32 0 0]
  cur : RL wr (w.heap.size + 1 + 1 + 1) 218 [.complex .f32 (x 0) (x 1), .complex .f32 (x 2) (x 3), .complex .f32 (x 4) (x 5)]
  acc : RL wr (w.heap.size + 1 + 1 + 1 + 1) 218 (dropL r k)
  below : Below w.heap.size w wr

theorem dropSt0 (w : World) (B : List Value) (x r : Nat → Nat) : DropSt w (((((w.alloc (.cells B.toArray 89)).alloc (.cells #[.complex .f32 (x 0) (x 1), .complex .f32 (x 2) (x 3), .complex .f32 (x 4) (x 5)] 37)).alloc (.cells #[.complex .f32 0 0, .complex .f32 0 0, .complex .f32 0 0] 37)).alloc (.cells #[.complex .f32 (x 0) (x 1), .complex .f32 (x 2) (x 3), .complex .f32 (x 4) (x 5)] 218)).alloc (.cells #[.complex .f32 0 0, .complex .f32 0 0, .complex .f32 0 0] 218)) B x r 0 := by
  obtain ⟨h1, h2, h3, h4⟩ := box3 w B [.complex .f32 (x 0) (x 1), .complex .f32 (x 2) (x 3), .complex .f32 (x 4) (x 5)] [.complex .f32 0 0, .complex .f32 0 0, .complex .f32 0 0] 89 37 37
  generalize hW : (((w.alloc (.cells B.toArray 89)).alloc (.cells #[.complex .f32 (x 0) (x 1), .complex .f32 (x 2) (x 3), .complex .f32 (x 4) (x 5)] 37)).alloc (.cells #[.complex .f32 0 0, .complex .f32 0 0, .complex .f32 0 0] 37)) = W at *
  have hs : W.heap.size = w.heap.size + 1 + 1 + 1 := by rw [← hW]; simp
  obtain ⟨g1, g2, g3⟩ := box2 W [.complex .f32 (x 0) (x 1), .complex .f32 (x 2) (x 3), .complex .f32 (x 4) (x 5)] [.complex .f32 0 0, .complex .f32 0 0, .complex .f32 0 0] 218 218
  rw [hs] at g1 g2
  exact ⟨(h1.allocd _).allocd _, (h3.allocd _).allocd _, g1, g2, h4.trans (g3.mono h4.size)⟩
theorem DropSt.grown {w wr : World} {B : List Value} {x r : Nat → Nat} {k : Nat} (h : DropSt w wr B x r k) (y : Grown wr) : DropSt w y.1 B x r k :=
  ⟨y.rl h.bus, y.rl h.res, y.rl h.cur, y.rl h.acc, h.below.trans (y.2.mono h.below.size)⟩
theorem DropSt.step {w wr : World} {B : List Value} {x r : Nat → Nat} {k : Nat} (h : DropSt w wr B x r k) (hk : k < 3) : DropSt w (wr.setCell ⟨w.heap.size + 1 + 1 + 1 + 1, k, none⟩ (.complex .f32 (r (2 * k)) (r (2 * k + 1)))) B x r (k + 1) := by
  refine ⟨h.bus.other (by omega) _ _, h.res.other (by omega) _ _, h.cur.other (by omega) _ _, ?_, h.below.setCell (by simp; omega) _⟩
  have h2 := h.acc.set k (.complex .f32 (r (2 * k)) (r (2 * k + 1)))
  obtain rfl | rfl | rfl : k = 0 ∨ k = 1 ∨ k = 2 := by omega
  · exact h2
  · exact h2
  · exact h2
set_option maxHeartbeats 4000000 in
theorem dropV_any (par : Int) (o0 o1 s0 s1 : Nat) (kind : Int) (l : Nat → Nat) (cust : Int) (x r : Nat → Nat) (h0 : DropAt o0 o1 s0 s1 (x 0) (x 1) (x 2) (x 3) (x 4) (x 5) (r 0) (r 1))
    (h1 : DropAt o0 o1 s0 s1 (x 2) (x 3) (x 4) (x 5) (x 0) (x 1) (r 2) (r 3)) (h2 : DropAt o0 o1 s0 s1 (x 4) (x 5) (x 0) (x 1) (x 2) (x 3) (r 4) (r 5)) (w : World) :
    Calls Try.prog 204 #[BusL par o0 o1 s0 s1 kind l cust, PV x] w (RB (PV r) w) := by
  have hst := fun (a : Addr) (x y : Nat) (m : Mode) (w : World) => run_store Try.prog w a (.complex .f32 x y) m rfl
  have Hh := Lib.hid (And.intro h0 (And.intro h1 h2))
  clear h0 h1 h2
  unfold BusL BL PV
  have T := dropSt0 w (BL par o0 o1 s0 s1 kind l cust) x r
  unfold BL at T
  go_enter Try.func204, Try.ntmps204
  go_wp2_with fail
  generalize (((((w.alloc (.cells #[.int .i64 par, .complex .f32 o0 o1, .complex .f32 s0 s1, .int .i64 kind, .complex .f32 (l 0) (l 1), .complex .f32 (l 2) (l 3), .complex .f32 (l 4) (l 5), .int .i64 cust] 89)).alloc (.cells #[.complex .f32 (x 0) (x 1), .complex .f32 (x 2) (x 3), .complex .f32 (x 4) (x 5)] 37)).alloc (.cells #[.complex .f32 0 0, .complex .f32 0 0, .complex .f32 0 0] 37)).alloc (.cells #[.complex .f32 (x 0) (x 1), .complex .f32 (x 2) (x 3), .complex .f32 (x 4) (x 5)] 218)).alloc (.cells #[.complex .f32 0 0, .complex .f32 0 0, .complex .f32 0 0] 218)) = W5 at *
  have T5 := Lib.hid T
  clear T
  go_loopw [18] (fun I wr => ∃ (k : Nat) (K : Int), K = k ∧ k ≤ 3 ∧ I = .int .i64 K ∧ Hid (DropSt w wr [.int .i64 par, .complex .f32 o0 o1, .complex .f32 s0 s1, .int .i64 kind, .complex .f32 (l 0) (l 1), .complex .f32 (l 2) (l 3), .complex .f32 (l 4) (l 5), .int .i64 cust] x r k)) (fun I _ => 3 - (intOf I).toNat)
  case atStart => exact ⟨0, 0, rfl, by omega, rfl, T5⟩
  case round =>
    obtain ⟨k, K, hK, hk, rfl, Hw⟩ := hrel
    clear T5
    obtain rfl | rfl | rfl | rfl : k = 0 ∨ k = 1 ∨ k = 2 ∨ k = 3 := by omega
    · obtain rfl : K = 0 := by omega
      clear hK hk
      have c0 := fun y : Grown wr => y.cell (Hw.out.cur.cell 0 (by simp))
      have c1 := fun y : Grown wr => y.cell (Hw.out.cur.cell 1 (by simp))
      have c2 := fun y : Grown wr => y.cell (Hw.out.cur.cell 2 (by simp))
      simp only [List.getD_cons_zero, List.getD_cons_succ] at c0 c1 c2
      obtain ⟨t0, t1, m0, m1, n0, n1, e1, e2, M1, M2, e3, e4⟩ := Hh.out.1
      have hc := run_csum .add (.inl rfl) 25 e1 e2
      have hd := run_csum .add (.inl rfl) 25 e3 e4
      have MM := Lib.hid (And.intro M1 M2)
      clear e1 e2 e3 e4 M1 M2
      have hix : ∀ w : World, (Instr.index 218 (.agg #[.complex .f32 (x 0) (x 1), .complex .f32 (x 2) (x 3), .complex .f32 (x 4) (x 5)]) (.int .i64 0)).run Try.prog w = .ok (.complex .f32 (x 0) (x 1)) w := fun _ => by kernel_rfl
      go_wp2_with fail
      refine wp_grown (by kernel_rfl) (by kernel_rfl) ?_
      repeat (go_big_quiet_step (fail))
      refine wpQuiet_nil ?_
      rintro _ ⟨y, rfl⟩
      have Hy := Lib.hid (Hw.out.grown y)
      clear Hw c0 c1 c2 hc
      generalize y.1 = w7 at *
      have b1 := fun y : Grown w7 => y.cell (Hy.out.bus.cell 1 (by simp))
      have b2 := fun y : Grown w7 => y.cell (Hy.out.bus.cell 2 (by simp))
      simp only [List.getD_cons_zero, List.getD_cons_succ] at b1 b2
      go_wp2_with fail
      refine wp_grown_tail 11 (by kernel_rfl) (by kernel_rfl) ?_
      simp only [List.take_succ_cons, List.take_zero, List.drop_succ_cons, List.drop_zero]
      repeat (go_big_quiet_step (first | exact Grown.calls _ (mulV_any MM.out.1 _) | exact Grown.calls _ (mulV_any MM.out.2 _)))
      refine wpQuiet_nil ?_
      rintro _ ⟨y2, rfl⟩
      have Hz := Lib.hid (Hy.out.grown y2)
      clear Hy b1 b2 hd MM hst hix
      have hst := fun (a : Addr) (x y : Nat) (m : Mode) (w : World) => run_store Try.prog w a (.complex .f32 x y) m rfl
      generalize y2.1 = w8 at *
      have k0 := Hz.out.acc.cell 0 (by simp [dropL])
      have z0 := Hz.out.acc.frozen 0
      simp only [dropL, List.getD_cons_zero, List.getD_cons_succ] at k0
      have Hn := Lib.hid (Hz.out.step (k := 0) (by omega))
      go_wp2_with fail
      exact ⟨⟨1, 1, rfl, by omega, rfl, Hn⟩, by simp [intOf]⟩
    · obtain rfl : K = 1 := by omega
      clear hK hk
      have c0 := fun y : Grown wr => y.cell (Hw.out.cur.cell 0 (by simp))
      have c1 := fun y : Grown wr => y.cell (Hw.out.cur.cell 1 (by simp))
      have c2 := fun y : Grown wr => y.cell (Hw.out.cur.cell 2 (by simp))
      simp only [List.getD_cons_zero, List.getD_cons_succ] at c0 c1 c2
      obtain ⟨t0, t1, m0, m1, n0, n1, e1, e2, M1, M2, e3, e4⟩ := Hh.out.2.1
      have hc := run_csum .add (.inl rfl) 25 e1 e2
      have hd := run_csum .add (.inl rfl) 25 e3 e4
      have MM := Lib.hid (And.intro M1 M2)
      clear e1 e2 e3 e4 M1 M2
      have hix : ∀ w : World, (Instr.index 218 (.agg #[.complex .f32 (x 0) (x 1), .complex .f32 (x 2) (x 3), .complex .f32 (x 4) (x 5)]) (.int .i64 1)).run Try.prog w = .ok (.complex .f32 (x 2) (x 3)) w := fun _ => by kernel_rfl
      go_wp2_with fail
      refine wp_grown (by kernel_rfl) (by kernel_rfl) ?_
      repeat (go_big_quiet_step (fail))
      refine wpQuiet_nil ?_
      rintro _ ⟨y, rfl⟩
      have Hy := Lib.hid (Hw.out.grown y)
      clear Hw c0 c1 c2 hc
      generalize y.1 = w7 at *
      have b1 := fun y : Grown w7 => y.cell (Hy.out.bus.cell 1 (by simp))
      have b2 := fun y : Grown w7 => y.cell (Hy.out.bus.cell 2 (by simp))
      simp only [List.getD_cons_zero, List.getD_cons_succ] at b1 b2
      go_wp2_with fail
      refine wp_grown_tail 11 (by kernel_rfl) (by kernel_rfl) ?_
      simp only [List.take_succ_cons, List.take_zero, List.drop_succ_cons, List.drop_zero]
      repeat (go_big_quiet_step (first | exact Grown.calls _ (mulV_any MM.out.1 _) | exact Grown.calls _ (mulV_any MM.out.2 _)))
      refine wpQuiet_nil ?_
      rintro _ ⟨y2, rfl⟩
      have Hz := Lib.hid (Hy.out.grown y2)
      clear Hy b1 b2 hd MM hst hix
      have hst := fun (a : Addr) (x y : Nat) (m : Mode) (w : World) => run_store Try.prog w a (.complex .f32 x y) m rfl
      generalize y2.1 = w8 at *
      have k1 := Hz.out.acc.cell 1 (by simp [dropL])
      have z1 := Hz.out.acc.frozen 1
      simp only [dropL, List.getD_cons_zero, List.getD_cons_succ] at k1
      have Hn := Lib.hid (Hz.out.step (k := 1) (by omega))
      go_wp2_with fail
      exact ⟨⟨2, 2, rfl, by omega, rfl, Hn⟩, by simp [intOf]⟩
    · obtain rfl : K = 2 := by omega
      clear hK hk
      have c0 := fun y : Grown wr => y.cell (Hw.out.cur.cell 0 (by simp))
      have c1 := fun y : Grown wr => y.cell (Hw.out.cur.cell 1 (by simp))
      have c2 := fun y : Grown wr => y.cell (Hw.out.cur.cell 2 (by simp))
      simp only [List.getD_cons_zero, List.getD_cons_succ] at c0 c1 c2
      obtain ⟨t0, t1, m0, m1, n0, n1, e1, e2, M1, M2, e3, e4⟩ := Hh.out.2.2
      have hc := run_csum .add (.inl rfl) 25 e1 e2
      have hd := run_csum .add (.inl rfl) 25 e3 e4
      have MM := Lib.hid (And.intro M1 M2)
      clear e1 e2 e3 e4 M1 M2
      have hix : ∀ w : World, (Instr.index 218 (.agg #[.complex .f32 (x 0) (x 1), .complex .f32 (x 2) (x 3), .complex .f32 (x 4) (x 5)]) (.int .i64 2)).run Try.prog w = .ok (.complex .f32 (x 4) (x 5)) w := fun _ => by kernel_rfl
      go_wp2_with fail
      refine wp_grown (by kernel_rfl) (by kernel_rfl) ?_
      repeat (go_big_quiet_step (fail))
      refine wpQuiet_nil ?_
      rintro _ ⟨y, rfl⟩
      have Hy := Lib.hid (Hw.out.grown y)
      clear Hw c0 c1 c2 hc
      generalize y.1 = w7 at *
      have b1 := fun y : Grown w7 => y.cell (Hy.out.bus.cell 1 (by simp))
      have b2 := fun y : Grown w7 => y.cell (Hy.out.bus.cell 2 (by simp))
      simp only [List.getD_cons_zero, List.getD_cons_succ] at b1 b2
      go_wp2_with fail
      refine wp_grown_tail 11 (by kernel_rfl) (by kernel_rfl) ?_
      simp only [List.take_succ_cons, List.take_zero, List.drop_succ_cons, List.drop_zero]
      repeat (go_big_quiet_step (first | exact Grown.calls _ (mulV_any MM.out.1 _) | exact Grown.calls _ (mulV_any MM.out.2 _)))
      refine wpQuiet_nil ?_
      rintro _ ⟨y2, rfl⟩
      have Hz := Lib.hid (Hy.out.grown y2)
      clear Hy b1 b2 hd MM hst hix
      have hst := fun (a : Addr) (x y : Nat) (m : Mode) (w : World) => run_store Try.prog w a (.complex .f32 x y) m rfl
      generalize y2.1 = w8 at *
      have k2 := Hz.out.acc.cell 2 (by simp [dropL])
      have z2 := Hz.out.acc.frozen 2
      simp only [dropL, List.getD_cons_zero, List.getD_cons_succ] at k2
      have Hn := Lib.hid (Hz.out.step (k := 2) (by omega))
      go_wp2_with fail
      exact ⟨⟨3, 3, rfl, by omega, rfl, Hn⟩, by simp [intOf]⟩
    · obtain rfl : K = 3 := by omega
      clear hK hk
      have k0 := Hw.out.acc.cell 0 (by simp [dropL])
      have k1 := Hw.out.acc.cell 1 (by simp [dropL])
      have k2 := Hw.out.acc.cell 2 (by simp [dropL])
      have l0 := Hw.out.res.cell 0 (by simp)
      have l1 := Hw.out.res.cell 1 (by simp)
      have l2 := Hw.out.res.cell 2 (by simp)
      have y0 := Hw.out.res.frozen 0
      have y1 := Hw.out.res.frozen 1
      have y2 := Hw.out.res.frozen 2
      simp only [dropL, List.getD_cons_zero, List.getD_cons_succ] at k0 k1 k2 l0 l1 l2
      rw [if_pos (by omega)] at k0 k1 k2
      have R2 := ((Hw.out.res.set 0 (.complex .f32 (r 0) (r 1))).set 1 (.complex .f32 (r 2) (r 3))).set 2 (.complex .f32 (r 4) (r 5))
      have v0 := R2.cell 0 (by simp)
      have v1 := R2.cell 1 (by simp)
      have v2 := R2.cell 2 (by simp)
      simp only [List.set_cons_zero, List.set_cons_succ, List.getD_cons_zero, List.getD_cons_succ] at v0 v1 v2
      have HB := Lib.hid Hw.out.below
      clear R2 Hw
      go_wp2_with fail
      try simp only [Exit.inBlock, Exit.then]
      refine bodyPost_ret (by simp [results, Try.results204, go_sem, v0, v1, v2]; try rfl) rfl ?_
      exact ⟨rfl, ((HB.out.setCell (by simp; omega) _).setCell (by simp; omega) _).setCell (by simp; omega) _⟩
end Go.Proofs.Ytbcjgjdkapdihaa
end

section
set_option linter.unusedVariables false
set_option linter.unusedSimpArgs false
set_option maxRecDepth 8000
namespace Go.Proofs.Ytbcjgjdkapdihaa
open Go Go.RowKit Go.Deep Go.Proofs.Ytbcjgjdkapdihaa.Fl

theorem subC_any {a b c d r s : Nat} (h1 : fop .sub .f32 (vl .f32 a) (vl .f32 c) = some r) (h2 : fop .sub .f32 (vl .f32 b) (vl .f32 d) = some s) (w : World) :
    Calls Try.prog 184 #[.complex .f32 a b, .complex .f32 c d] w (RB (.complex .f32 r s) w) := by
  have hc := run_csum .sub (.inr rfl) 25 h1 h2
  clear h1 h2
  go_enter Try.func184, Try.ntmps184
  go_wp2
  go_ret
  exact ⟨rfl, Below.refl _ _⟩
set_option maxHeartbeats 1000000 in
theorem pairLess_any (p q r : Nat → Nat) (h : ∀ j, j < 6 → fop .sub .f32 (vl .f32 (p j)) (vl .f32 (q j)) = some (r j)) (w : World) :
    Calls Try.prog 183 #[PV p, PV q, .func (.func 184) #[] #[]] w (RB (PV r) w) := by
  unfold PV
  have hA := fun w' => subC_any (h 0 (by omega)) (h 1 (by omega)) w'
  have hB := fun w' => subC_any (h 2 (by omega)) (h 3 (by omega)) w'
  have hC := fun w' => subC_any (h 4 (by omega)) (h 5 (by omega)) w'
  clear h
  have hst := fun (a : Addr) (x y : Nat) (m : Mode) (w : World) => run_store Try.prog w a (.complex .f32 x y) m rfl
  have T := box3 w [.complex .f32 (p 0) (p 1), .complex .f32 (p 2) (p 3), .complex .f32 (p 4) (p 5)] [.complex .f32 (q 0) (q 1), .complex .f32 (q 2) (q 3), .complex .f32 (q 4) (q 5)] [.complex .f32 0 0, .complex .f32 0 0, .complex .f32 0 0] 37 37 37
  go_enter Try.func183, Try.ntmps183
  go_wp2_with fail
  generalize hW3 : (((w.alloc (.cells #[.complex .f32 (p 0) (p 1), .complex .f32 (p 2) (p 3), .complex .f32 (p 4) (p 5)] 37)).alloc (.cells #[.complex .f32 (q 0) (q 1), .complex .f32 (q 2) (q 3), .complex .f32 (q 4) (q 5)] 37)).alloc (.cells #[.complex .f32 0 0, .complex .f32 0 0, .complex .f32 0 0] 37)) = W3 at *
  clear hW3
  obtain ⟨T1, T2, T3, TB⟩ := T
  have c0 := fun x : Grown W3 => x.cell (T1.cell 0 (by simp))
  have c1 := fun x : Grown W3 => x.cell (T1.cell 1 (by simp))
  have c2 := fun x : Grown W3 => x.cell (T1.cell 2 (by simp))
  have d0 := fun x : Grown W3 => x.cell (T2.cell 0 (by simp))
  have d1 := fun x : Grown W3 => x.cell (T2.cell 1 (by simp))
  have d2 := fun x : Grown W3 => x.cell (T2.cell 2 (by simp))
  simp only [List.getD_cons_zero, List.getD_cons_succ] at c0 c1 c2 d0 d1 d2
  have H1 := Lib.hid T1
  have H2 := Lib.hid T2
  have H3 := Lib.hid T3
  have HB := Lib.hid TB
  clear T1 T2 T3 TB
  refine wp_grown_tail 19 (by kernel_rfl) (by kernel_rfl) ?_
  simp only [List.take_succ_cons, List.take_zero, List.drop_succ_cons, List.drop_zero]
  repeat (go_big_quiet_step (first | (go_at_call_of 184 (Value.complex .f32 (p 0) (p 1)); exact Grown.calls _ (hA _)) | (go_at_call_of 184 (Value.complex .f32 (p 2) (p 3)); exact Grown.calls _ (hB _)) | (go_at_call_of 184 (Value.complex .f32 (p 4) (p 5)); exact Grown.calls _ (hC _))))
  refine wpQuiet_nil ?_
  rintro _ ⟨x, rfl⟩
  have R := x.rl H3.out
  have hB5 := Lib.hid ((HB.out.trans (x.2.mono HB.out.size)))
  generalize x.1 = w5 at *
  clear c0 c1 c2 d0 d1 d2 hA hB hC H1 H2 H3 HB
  have k0 := R.cell 0 (by simp)
  have k1 := R.cell 1 (by simp)
  have k2 := R.cell 2 (by simp)
  have z0 := R.frozen 0
  have z1 := R.frozen 1
  have z2 := R.frozen 2
  simp only [List.getD_cons_zero, List.getD_cons_succ] at k0 k1 k2
  go_wp2_with fail
  have R2 := ((R.set 0 (.complex .f32 (r 0) (r 1))).set 1 (.complex .f32 (r 2) (r 3))).set 2 (.complex .f32 (r 4) (r 5))
  have v0 := R2.cell 0 (by simp)
  have v1 := R2.cell 1 (by simp)
  have v2 := R2.cell 2 (by simp)
  simp only [List.set_cons_zero, List.set_cons_succ, List.getD_cons_zero, List.getD_cons_succ] at v0 v1 v2
  try simp only [Exit.inBlock, Exit.then]
  refine bodyPost_ret (by simp [results, Try.results183, go_sem, v0, v1, v2]; try rfl) rfl ?_
  exact ⟨rfl, ((hB5.out.setCell (by simp; omega) _).setCell (by simp; omega) _).setCell (by simp; omega) _⟩

set_option maxHeartbeats 1000000 in
theorem pairLoad_any (B : Value) (p q r : Nat → Nat) (h0 : ∀ w, Calls Try.prog 222 #[B, .complex .f32 (p 0) (p 1), .complex .f32 (q 0) (q 1)] w (RB (.complex .f32 (r 0) (r 1)) w)) (h1 : ∀ w, Calls Try.prog 222 #[B, .complex .f32 (p 2) (p 3), .complex .f32 (q 2) (q 3)] w (RB (.complex .f32 (r 2) (r 3)) w)) (h2 : ∀ w, Calls Try.prog 222 #[B, .complex .f32 (p 4) (p 5), .complex .f32 (q 4) (q 5)] w (RB (.complex .f32 (r 4) (r 5)) w)) (w : World) :
    Calls Try.prog 183 #[PV p, PV q, .func (.func 222) #[B] #[]] w (RB (PV r) w) := by
  unfold PV
  have hA := fun w' => h0 w'
  have hB := fun w' => h1 w'
  have hC := fun w' => h2 w'
  clear h0 h1 h2
  have hst := fun (a : Addr) (x y : Nat) (m : Mode) (w : World) => run_store Try.prog w a (.complex .f32 x y) m rfl
  have T := box3 w [.complex .f32 (p 0) (p 1), .complex .f32 (p 2) (p 3), .complex .f32 (p 4) (p 5)] [.complex .f32 (q 0) (q 1), .complex .f32 (q 2) (q 3), .complex .f32 (q 4) (q 5)] [.complex .f32 0 0, .complex .f32 0 0, .complex .f32 0 0] 37 37 37
  go_enter Try.func183, Try.ntmps183
  go_wp2_with fail
  generalize hW3 : (((w.alloc (.cells #[.complex .f32 (p 0) (p 1), .complex .f32 (p 2) (p 3), .complex .f32 (p 4) (p 5)] 37)).alloc (.cells #[.complex .f32 (q 0) (q 1), .complex .f32 (q 2) (q 3), .complex .f32 (q 4) (q 5)] 37)).alloc (.cells #[.complex .f32 0 0, .complex .f32 0 0, .complex .f32 0 0] 37)) = W3 at *
  clear hW3
  obtain ⟨T1, T2, T3, TB⟩ := T
  have c0 := fun x : Grown W3 => x.cell (T1.cell 0 (by simp))
  have c1 := fun x : Grown W3 => x.cell (T1.cell 1 (by simp))
  have c2 := fun x : Grown W3 => x.cell (T1.cell 2 (by simp))
  have d0 := fun x : Grown W3 => x.cell (T2.cell 0 (by simp))
  have d1 := fun x : Grown W3 => x.cell (T2.cell 1 (by simp))
  have d2 := fun x : Grown W3 => x.cell (T2.cell 2 (by simp))
  simp only [List.getD_cons_zero, List.getD_cons_succ] at c0 c1 c2 d0 d1 d2
  have H1 := Lib.hid T1
  have H2 := Lib.hid T2
  have H3 := Lib.hid T3
  have HB := Lib.hid TB
  clear T1 T2 T3 TB
  refine wp_grown_tail 19 (by kernel_rfl) (by kernel_rfl) ?_
  simp only [List.take_succ_cons, List.take_zero, List.drop_succ_cons, List.drop_zero]
  repeat (go_big_quiet_step (first | (go_at_call_of 222 (Value.complex .f32 (p 0) (p 1)); exact Grown.calls _ (hA _)) | (go_at_call_of 222 (Value.complex .f32 (p 2) (p 3)); exact Grown.calls _ (hB _)) | (go_at_call_of 222 (Value.complex .f32 (p 4) (p 5)); exact Grown.calls _ (hC _))))
  refine wpQuiet_nil ?_
  rintro _ ⟨x, rfl⟩
  have R := x.rl H3.out
  have hB5 := Lib.hid ((HB.out.trans (x.2.mono HB.out.size)))
  generalize x.1 = w5 at *
  clear c0 c1 c2 d0 d1 d2 hA hB hC H1 H2 H3 HB
  have k0 := R.cell 0 (by simp)
  have k1 := R.cell 1 (by simp)
  have k2 := R.cell 2 (by simp)
  have z0 := R.frozen 0
  have z1 := R.frozen 1
  have z2 := R.frozen 2
  simp only [List.getD_cons_zero, List.getD_cons_succ] at k0 k1 k2
  go_wp2_with fail
  have R2 := ((R.set 0 (.complex .f32 (r 0) (r 1))).set 1 (.complex .f32 (r 2) (r 3))).set 2 (.complex .f32 (r 4) (r 5))
  have v0 := R2.cell 0 (by simp)
  have v1 := R2.cell 1 (by simp)
  have v2 := R2.cell 2 (by simp)
  simp only [List.set_cons_zero, List.set_cons_succ, List.getD_cons_zero, List.getD_cons_succ] at v0 v1 v2
  try simp only [Exit.inBlock, Exit.then]
  refine bodyPost_ret (by simp [results, Try.results183, go_sem, v0, v1, v2]; try rfl) rfl ?_
  exact ⟨rfl, ((hB5.out.setCell (by simp; omega) _).setCell (by simp; omega) _).setCell (by simp; omega) _⟩

theorem addP_any (p q r : Nat → Nat) (h : ∀ j, j < 6 → fop .add .f32 (vl .f32 (p j)) (vl .f32 (q j)) = some (r j)) (w : World) : Calls Try.prog 201 #[PV p, PV q] w (RB (PV r) w) := by
  have hP := fun w' => pairAdd_any p q r h w'
  have T := fun M => box3 w [.complex .f32 (p 0) (p 1), .complex .f32 (p 2) (p 3), .complex .f32 (p 4) (p 5)] [.complex .f32 (q 0) (q 1), .complex .f32 (q 2) (q 3), .complex .f32 (q 4) (q 5)] M 37 37 37
  have T := T [.complex .f32 0 0, .complex .f32 0 0, .complex .f32 0 0]
  have hst := fun (a : Addr) (x y : Nat) (m : Mode) (w : World) => run_store Try.prog w a (.complex .f32 x y) m rfl
  clear h
  unfold PV at *
  go_enter Try.func201, Try.ntmps201
  go_wp2_with fail
  generalize hW3 : (((w.alloc (.cells #[.complex .f32 (p 0) (p 1), .complex .f32 (p 2) (p 3), .complex .f32 (p 4) (p 5)] 37)).alloc (.cells #[.complex .f32 (q 0) (q 1), .complex .f32 (q 2) (q 3), .complex .f32 (q 4) (q 5)] 37)).alloc (.cells #[.complex .f32 0 0, .complex .f32 0 0, .complex .f32 0 0] 37)) = W3 at *
  clear hW3
  refine (hP _).mono ?_
  rintro e w2 ⟨rfl, hb⟩
  have R := T.2.2.1.below hb T.2.2.1.lt
  have HB := Lib.hid (T.2.2.2.trans (hb.mono T.2.2.2.size))
  clear T hb hP
  have k0 := R.cell 0 (by simp)
  have k1 := R.cell 1 (by simp)
  have k2 := R.cell 2 (by simp)
  have z0 := R.frozen 0
  have z1 := R.frozen 1
  have z2 := R.frozen 2
  simp only [List.getD_cons_zero, List.getD_cons_succ] at k0 k1 k2
  have R2 := ((R.set 0 (.complex .f32 (r 0) (r 1))).set 1 (.complex .f32 (r 2) (r 3))).set 2 (.complex .f32 (r 4) (r 5))
  have v0 := R2.cell 0 (by simp)
  have v1 := R2.cell 1 (by simp)
  have v2 := R2.cell 2 (by simp)
  simp only [List.set_cons_zero, List.set_cons_succ, List.getD_cons_zero, List.getD_cons_succ] at v0 v1 v2
  clear R R2
  go_wp2_with fail
  try simp only [Exit.inBlock, Exit.then]
  refine bodyPost_ret (by simp [results, Try.results201, go_sem, v0, v1, v2]; try rfl) rfl ?_
  exact ⟨rfl, ((HB.out.setCell (by simp; omega) _).setCell (by simp; omega) _).setCell (by simp; omega) _⟩

theorem lessP_any (p q r : Nat → Nat) (h : ∀ j, j < 6 → fop .sub .f32 (vl .f32 (p j)) (vl .f32 (q j)) = some (r j)) (w : World) : Calls Try.prog 126 #[PV p, PV q] w (RB (PV r) w) := by
  have hP := fun w' => pairLess_any p q r h w'
  have T := fun M => box3 w [.complex .f32 (p 0) (p 1), .complex .f32 (p 2) (p 3), .complex .f32 (p 4) (p 5)] [.complex .f32 (q 0) (q 1), .complex .f32 (q 2) (q 3), .complex .f32 (q 4) (q 5)] M 37 37 37
  have T := T [.complex .f32 0 0, .complex .f32 0 0, .complex .f32 0 0]
  have hst := fun (a : Addr) (x y : Nat) (m : Mode) (w : World) => run_store Try.prog w a (.complex .f32 x y) m rfl
  clear h
  unfold PV at *
  go_enter Try.func126, Try.ntmps126
  go_wp2_with fail
  generalize hW3 : (((w.alloc (.cells #[.complex .f32 (p 0) (p 1), .complex .f32 (p 2) (p 3), .complex .f32 (p 4) (p 5)] 37)).alloc (.cells #[.complex .f32 (q 0) (q 1), .complex .f32 (q 2) (q 3), .complex .f32 (q 4) (q 5)] 37)).alloc (.cells #[.complex .f32 0 0, .complex .f32 0 0, .complex .f32 0 0] 37)) = W3 at *
  clear hW3
  refine (hP _).mono ?_
  rintro e w2 ⟨rfl, hb⟩
  have R := T.2.2.1.below hb T.2.2.1.lt
  have HB := Lib.hid (T.2.2.2.trans (hb.mono T.2.2.2.size))
  clear T hb hP
  have k0 := R.cell 0 (by simp)
  have k1 := R.cell 1 (by simp)
  have k2 := R.cell 2 (by simp)
  have z0 := R.frozen 0
  have z1 := R.frozen 1
  have z2 := R.frozen 2
  simp only [List.getD_cons_zero, List.getD_cons_succ] at k0 k1 k2
  have R2 := ((R.set 0 (.complex .f32 (r 0) (r 1))).set 1 (.complex .f32 (r 2) (r 3))).set 2 (.complex .f32 (r 4) (r 5))
  have v0 := R2.cell 0 (by simp)
  have v1 := R2.cell 1 (by simp)
  have v2 := R2.cell 2 (by simp)
  simp only [List.set_cons_zero, List.set_cons_succ, List.getD_cons_zero, List.getD_cons_succ] at v0 v1 v2
  clear R R2
  go_wp2_with fail
  try simp only [Exit.inBlock, Exit.then]
  refine bodyPost_ret (by simp [results, Try.results126, go_sem, v0, v1, v2]; try rfl) rfl ?_
  exact ⟨rfl, ((HB.out.setCell (by simp; omega) _).setCell (by simp; omega) _).setCell (by simp; omega) _⟩
end Go.Proofs.Ytbcjgjdkapdihaa
end

section
set_option linter.unusedVariables false
set_option linter.unusedSimpArgs false
set_option maxRecDepth 8000
namespace Go.Proofs.Ytbcjgjdkapdihaa
open Go Go.RowKit Go.Deep Go.Proofs.Ytbcjgjdkapdihaa.Fl

def isZ (b : Nat) : Bool := FloatKind.f32.format.order b 0 == some .eq
theorem bus_alloc (w : World) (par : Int) (o0 o1 s0 s1 : Nat) (kind : Int) (l : Nat → Nat) (cust : Int) : Below w.heap.size w (w.alloc (.cells (BL par o0 o1 s0 s1 kind l cust).toArray 89)) := bel_alloc w _

theorem curZ_any (par : Int) (o0 o1 s0 s1 : Nat) (kind : Int) (l : Nat → Nat) (cust : Int) (a b c d : Nat) (ha : isZ a = true) (hb : isZ b = true) (w : World) :
    Calls Try.prog 222 #[BusL par o0 o1 s0 s1 kind l cust, .complex .f32 a b, .complex .f32 c d] w (RB (.complex .f32 0 0) w) := by
  unfold isZ at ha hb
  have hW := bus_alloc w par o0 o1 s0 s1 kind l cust
  unfold BusL
  unfold BL at *
  go_enter Try.func222, Try.ntmps222
  go_wp2
  go_ret
  exact ⟨rfl, hW⟩
theorem curC_any (par : Int) (o0 o1 s0 s1 : Nat) (l : Nat → Nat) (cust : Int) (a b c d : Nat) (hz : (isZ a && isZ b) = false) (w : World) :
    Calls Try.prog 222 #[BusL par o0 o1 s0 s1 1 l cust, .complex .f32 a b, .complex .f32 c d] w (RB (.complex .f32 a b) w) := by
  have hW := bus_alloc w par o0 o1 s0 s1 1 l cust
  unfold isZ at hz
  unfold BusL
  unfold BL at *
  have hy : ∀ w : World, (binOp .eql 25 (.complex .f32 a b) (.complex .f32 0 0)).run Try.prog w = .ok (.bool false) w := by
    intro w; rw [← hz]; simp [go_sem]
  go_enter Try.func222, Try.ntmps222
  go_wp2
  go_ret
  exact ⟨rfl, hW⟩
theorem curP_any (par : Int) (o0 o1 s0 s1 : Nat) (l : Nat → Nat) (cust : Int) (a b c d r s : Nat) (hz : (isZ a && isZ b) = false) (hq : QuoV a b c d r s) (w : World) :
    Calls Try.prog 222 #[BusL par o0 o1 s0 s1 0 l cust, .complex .f32 a b, .complex .f32 c d] w (RB (.complex .f32 r (Op.negFloat .f32 s)) w) := by
  have hW := Lib.hid (bus_alloc w par o0 o1 s0 s1 0 l cust)
  have hQ := fun w' => quoV_any hq w'
  have hC := fun w' => conjC_any r s w'
  unfold isZ at hz
  unfold BusL
  unfold BL at *
  have hy : ∀ w : World, (binOp .eql 25 (.complex .f32 a b) (.complex .f32 0 0)).run Try.prog w = .ok (.bool false) w := by
    intro w; rw [← hz]; simp [go_sem]
  go_enter Try.func222, Try.ntmps222
  go_wp2_with fail
  refine (hQ _).mono ?_
  rintro e w1 ⟨rfl, hb⟩
  have H1 := Lib.hid (bel_then hW.out hb)
  clear hb hQ
  go_wp2_with fail
  refine (hC _).mono ?_
  rintro e w2 ⟨rfl, hb⟩
  have H2 := Lib.hid (bel_then H1.out hb)
  clear hb hC
  go_wp2_with fail
  go_ret
  exact ⟨rfl, H2.out⟩
theorem curI_any (par : Int) (o0 o1 s0 s1 : Nat) (l : Nat → Nat) (cust : Int) (a b c d r s : Nat) (hz : (isZ a && isZ b) = false) (hq : QuoV c d a b r s) (w : World) :
    Calls Try.prog 222 #[BusL par o0 o1 s0 s1 2 l cust, .complex .f32 a b, .complex .f32 c d] w (RB (.complex .f32 r s) w) := by
  have hW := Lib.hid (bus_alloc w par o0 o1 s0 s1 2 l cust)
  have hQ := fun w' => quoV_any hq w'
  unfold isZ at hz
  unfold BusL
  unfold BL at *
  have hy : ∀ w : World, (binOp .eql 25 (.complex .f32 a b) (.complex .f32 0 0)).run Try.prog w = .ok (.bool false) w := by
    intro w; rw [← hz]; simp [go_sem]
  go_enter Try.func222, Try.ntmps222
  go_wp2_with fail
  refine (hQ _).mono ?_
  rintro e w1 ⟨rfl, hb⟩
  have H1 := Lib.hid (bel_then hW.out hb)
  clear hb hQ
  go_wp2_with fail
  go_ret
  exact ⟨rfl, H1.out⟩
/-- (r, s) is the current of a load a + b i at a voltage c + d i. -/
def CurAt (kind : Int) (a b c d r s : Nat) : Prop := ((isZ a && isZ b) = true ∧ r = 0 ∧ s = 0) ∨ ((isZ a && isZ b) = false ∧ (kind = 1 ∧ r = a ∧ s = b ∨ kind = 2 ∧ QuoV c d a b r s ∨ kind = 0 ∧ ∃ s', QuoV a b c d r s' ∧ s = Op.negFloat .f32 s'))
theorem cur_any (par : Int) (o0 o1 s0 s1 : Nat) (kind : Int) (l : Nat → Nat) (cust : Int) (a b c d r s : Nat) (h : CurAt kind a b c d r s) (w : World) :
    Calls Try.prog 222 #[BusL par o0 o1 s0 s1 kind l cust, .complex .f32 a b, .complex .f32 c d] w (RB (.complex .f32 r s) w) := by
  rcases h with ⟨hz, rfl, rfl⟩ | ⟨hz, ⟨rfl, rfl, rfl⟩ | ⟨rfl, hq⟩ | ⟨rfl, s', hq, rfl⟩⟩
  · rw [Bool.and_eq_true] at hz
    exact curZ_any par o0 o1 s0 s1 kind l cust a b c d hz.1 hz.2 w
  · exact curC_any par o0 o1 s0 s1 l cust r s c d hz w
  · exact curI_any par o0 o1 s0 s1 l cust a b c d r s hz hq w
  · exact curP_any par o0 o1 s0 s1 l cust a b c d r s' hz hq w
set_option maxHeartbeats 1000000 in
theorem loadV_any (par : Int) (o0 o1 s0 s1 : Nat) (kind : Int) (l : Nat → Nat) (cust : Int) (v r : Nat → Nat) (h0 : CurAt kind (l 0) (l 1) (v 0) (v 1) (r 0) (r 1)) (h1 : CurAt kind (l 2) (l 3) (v 2) (v 3) (r 2) (r 3)) (h2 : CurAt kind (l 4) (l 5) (v 4) (v 5) (r 4) (r 5)) (w : World) :
    Calls Try.prog 203 #[BusL par o0 o1 s0 s1 kind l cust, PV v] w (RB (PV r) w) := by
  have hP := fun w' => pairLoad_any (BusL par o0 o1 s0 s1 kind l cust) l v r (fun w => cur_any par o0 o1 s0 s1 kind l cust _ _ _ _ _ _ h0 w) (fun w => cur_any par o0 o1 s0 s1 kind l cust _ _ _ _ _ _ h1 w) (fun w => cur_any par o0 o1 s0 s1 kind l cust _ _ _ _ _ _ h2 w) w'
  have T := box3 w (BL par o0 o1 s0 s1 kind l cust) [.complex .f32 (v 0) (v 1), .complex .f32 (v 2) (v 3), .complex .f32 (v 4) (v 5)] [.complex .f32 0 0, .complex .f32 0 0, .complex .f32 0 0] 89 37 37
  have hst := fun (a : Addr) (x y : Nat) (m : Mode) (w : World) => run_store Try.prog w a (.complex .f32 x y) m rfl
  clear h0 h1 h2
  unfold BusL PV BL at *
  go_enter Try.func203, Try.ntmps203
  go_wp2_with fail
  generalize hW3 : (((w.alloc (.cells #[.int .i64 par, .complex .f32 o0 o1, .complex .f32 s0 s1, .int .i64 kind, .complex .f32 (l 0) (l 1), .complex .f32 (l 2) (l 3), .complex .f32 (l 4) (l 5), .int .i64 cust] 89)).alloc (.cells #[.complex .f32 (v 0) (v 1), .complex .f32 (v 2) (v 3), .complex .f32 (v 4) (v 5)] 37)).alloc (.cells #[.complex .f32 0 0, .complex .f32 0 0, .complex .f32 0 0] 37)) = W3 at *
  clear hW3
  refine (hP _).mono ?_
  rintro e w2 ⟨rfl, hb⟩
  have R := T.2.2.1.below hb T.2.2.1.lt
  have HB := Lib.hid (T.2.2.2.trans (hb.mono T.2.2.2.size))
  clear T hb hP
  have k0 := R.cell 0 (by simp)
  have k1 := R.cell 1 (by simp)
  have k2 := R.cell 2 (by simp)
  have z0 := R.frozen 0
  have z1 := R.frozen 1
  have z2 := R.frozen 2
  simp only [List.getD_cons_zero, List.getD_cons_succ] at k0 k1 k2
  have R2 := ((R.set 0 (.complex .f32 (r 0) (r 1))).set 1 (.complex .f32 (r 2) (r 3))).set 2 (.complex .f32 (r 4) (r 5))
  have v0 := R2.cell 0 (by simp)
  have v1 := R2.cell 1 (by simp)
  have v2 := R2.cell 2 (by simp)
  simp only [List.set_cons_zero, List.set_cons_succ, List.getD_cons_zero, List.getD_cons_succ] at v0 v1 v2
  clear R R2
  go_wp2_with fail
  try simp only [Exit.inBlock, Exit.then]
  refine bodyPost_ret (by simp [results, Try.results203, go_sem, v0, v1, v2]; try rfl) rfl ?_
  exact ⟨rfl, ((HB.out.setCell (by simp; omega) _).setCell (by simp; omega) _).setCell (by simp; omega) _⟩
end Go.Proofs.Ytbcjgjdkapdihaa
end

section
set_option linter.unusedVariables false
namespace Go.Proofs.Ytbcjgjdkapdihaa
open Go Go.RowKit

section
variable {P : Program} {ops : Array Oper} {md : Region.Mode} {Q : Exit → Act → World → Prop}

theorem upon_then {o : Oper} {a : Act} {J : Act → World → Prop} {N : Act → World → Prop} {r : Result Next} (h : o.upon P a N (Exit.then J Q) r) : o.upon P a N Q r := by
  unfold Oper.upon at *
  split at h <;> first | exact h | (exfalso; exact h)
theorem wpOp_of_list {i : Nat} {o : Oper} {a : Act} {w : World} {J : Act → World → Prop} (ho : ops[i]? = some o) (h : wpList P ops (Exit.then J Q) [o] a w) : wpOp P ops Q i J a w := by
  unfold wpOp
  simp only [ho]
  unfold wpList at h
  split
  · rename_i hw
    rw [if_pos hw] at h
    rcases h with h | ⟨h1, h2⟩
    · exact .inl (upon_then h)
    · exact .inr ⟨h1, h2⟩
  · rename_i hw
    rw [if_neg hw] at h
    exact h

/-- How many operations have not come up. -/
def open' (s : Array Bool) : Nat := s.toList.count false
theorem open_set {s : Array Bool} {i : Nat} (h : s.getD i true = false) : open' (s.setIfInBounds i true) + 1 = open' s := by
  unfold open'
  have hi : i < s.size := by
    rcases Nat.lt_or_ge i s.size with h' | h'
    · exact h'
    · simp [Array.getElem?_eq_none h'] at h
  have hv : s.toList[i]'(by simpa using hi) = false := by simpa [hi] using h
  have hm : false ∈ s.toList := hv ▸ List.getElem_mem _
  have hpos : 0 < s.toList.count false := List.count_pos_iff.2 hm
  rw [Array.toList_setIfInBounds, List.count_set (by simpa using hi)]
  rw [hv]
  rw [if_pos (by rfl), if_neg (by decide)]
  omega
theorem open_zero {s : Array Bool} {i : Nat} (h : s.getD i true = false) : 0 < open' s := by have := open_set h; omega

theorem any_of_inv (I : Array Bool → Act → World → Prop)
    (hstep : ∀ s a w i o, ops[i]? = some o → i ∈ Region.ready md ops s → I s a w → wpList P ops (Exit.then (I (s.setIfInBounds i true)) Q) [o] a w)
    (hend : ∀ s a w, I s a w → Region.ready md ops s = [] → Q .normal a w) (f : Nat) : ∀ s a w, open' s ≤ f → I s a w → wpAny P md ops Q f s a w := by
  induction f with
  | zero =>
    intro s a w hf hI
    have hr : Region.ready md ops s = [] := by
      rcases hR : Region.ready md ops s with _ | ⟨i, l⟩
      · rfl
      · have hi : i ∈ Region.ready md ops s := by rw [hR]; exact List.mem_cons_self
        have := open_zero (mem_ready.1 hi).1
        omega
    exact ⟨hr, hend s a w hI hr⟩
  | succ f ih =>
    intro s a w hf hI
    refine ⟨hend s a w hI, fun i hi => ?_⟩
    obtain ⟨h0, o, ho, _⟩ := mem_ready.1 hi
    have := open_set h0
    exact wpOp_mono (fun a' w' hI' => ih _ a' w' (by omega) hI') (wpOp_of_list ho (hstep s a w i o ho hi hI))

/-- **A region by an invariant.** -/
theorem wp_region_inv {id : Nat} {a : Act} {w : World} (I : Array Bool → Act → World → Prop) (hm : P.follows .mixedOrders = true) (h0 : I (Array.replicate ops.size false) a (w.drewN 1))
    (hstep : ∀ s a w i o, ops[i]? = some o → i ∈ Region.ready .any ops s → I s a w → wpList P ops (Exit.then (I (s.setIfInBounds i true)) Q) [o] a w)
    (hend : ∀ s a w, I s a w → Region.ready .any ops s = [] → Q .normal a w) : (Code.region id ops true).wp P Q a w :=
  wp_region_any hm (any_of_inv I hstep hend ops.size _ a _ (by unfold open'; simp) h0)
end
end Go.Proofs.Ytbcjgjdkapdihaa
end

section
set_option linter.unusedVariables false
set_option linter.unusedSimpArgs false
set_option maxRecDepth 8000
namespace Go.Proofs.Ytbcjgjdkapdihaa
open Go Go.RowKit Go.Deep Go.Proofs.Ytbcjgjdkapdihaa.Fl

theorem run_farith {P : Program} (op : BinOp) (hop : arith op = true) (k : FloatKind) (x y : Nat) (w : World) : (Op.floatArith op k x y).run P w = .ok (.float k (fov op k x y w)) (w.drewN (fon op k x y)) := by
  have h := run_fov (P := P) op hop 0 k x y w
  cases op <;> first | (cases hop; done) | (simpa [binOp] using h)
/-- Sums and differences of complex numbers, any ones. -/
theorem run_cov {P : Program} (op : BinOp) (hop : op = .add ∨ op = .sub) (t : TypeId) (k : FloatKind) (a b c d : Nat) (w : World) :
    (binOp op t (.complex k a b) (.complex k c d)).run P w = .ok (.complex k (fov op k a c w) (fov op k b d (w.drewN (fon op k a c)))) (w.drewN (fon op k a c + fon op k b d)) := by
  rcases hop with rfl | rfl
  · simp [binOp, Op.complexOp, Op.Complex.arith, run_farith (P := P) .add rfl, World.drewN_drewN]
  · simp [binOp, Op.complexOp, Op.Complex.arith, run_farith (P := P) .sub rfl, World.drewN_drewN]

theorem three_any (p : Nat → Nat) (w : World) : Calls Try.prog 202 #[PV p] w (RB (PV p) w) := by
  have hst := fun (a : Addr) (x y : Nat) (m : Mode) (w : World) => run_store Try.prog w a (.complex .f32 x y) m rfl
  unfold PV
  go_enter Try.func202, Try.ntmps202
  go_wp2_with fail
  have T := box2 w [.complex .f32 (p 0) (p 1), .complex .f32 (p 2) (p 3), .complex .f32 (p 4) (p 5)] [.complex .f32 (p 0) (p 1), .complex .f32 (p 2) (p 3), .complex .f32 (p 4) (p 5)] 37 219
  have v0 := T.2.1.cell 0 (by simp)
  have v1 := T.2.1.cell 1 (by simp)
  have v2 := T.2.1.cell 2 (by simp)
  simp only [List.getD_cons_zero, List.getD_cons_succ] at v0 v1 v2
  try simp only [Exit.inBlock, Exit.then]
  refine bodyPost_ret (by simp [results, Try.results202, go_sem, v0, v1, v2]; try rfl) rfl ?_
  exact ⟨rfl, T.2.2⟩
/-- Three complex numbers lie in block g. -/
def C3 (w : World) (g : Nat) (x : Nat → Nat) : Prop := g < w.heap.size ∧ w.cell? ⟨g, 0, none⟩ = some (.complex .f32 (x 0) (x 1)) ∧ w.cell? ⟨g, 1, none⟩ = some (.complex .f32 (x 2) (x 3)) ∧ w.cell? ⟨g, 2, none⟩ = some (.complex .f32 (x 4) (x 5))
theorem C3.below {w w' : World} {g B : Nat} {x : Nat → Nat} (h : C3 w g x) (hb : Below B w w') (hB : g < B) : C3 w' g x :=
  ⟨Nat.lt_of_lt_of_le h.1 hb.size, (hb.cell (p := ⟨g, 0, none⟩) hB).trans h.2.1, (hb.cell (p := ⟨g, 1, none⟩) hB).trans h.2.2.1, (hb.cell (p := ⟨g, 2, none⟩) hB).trans h.2.2.2⟩
/-- The sum of products, one part, behind k of them. -/
def dotS (p : Nat → Nat) : Nat → Option Nat
  | 0 => some 0
  | k + 1 => fop .add .f32 (dotS p k) (vl .f32 (p k))
/-- What the two boxes of PowerBetween hold. -/
def PowS (w W : World) (v x : Nat → Nat) : Prop := W.cell? ⟨w.heap.size, 0, none⟩ = some (.complex .f32 (v 0) (v 1)) ∧ W.cell? ⟨w.heap.size, 1, none⟩ = some (.complex .f32 (v 2) (v 3)) ∧ W.cell? ⟨w.heap.size, 2, none⟩ = some (.complex .f32 (v 4) (v 5)) ∧
  W.cell? ⟨w.heap.size + 1, 0, none⟩ = some (.complex .f32 (x 0) (x 1)) ∧ W.cell? ⟨w.heap.size + 1, 1, none⟩ = some (.complex .f32 (x 2) (x 3)) ∧ W.cell? ⟨w.heap.size + 1, 2, none⟩ = some (.complex .f32 (x 4) (x 5))
theorem PowS.call {w W W' : World} {v x : Nat → Nat} (h : PowS w W v x) (hb : Below W.heap.size W W') : PowS w W' v x := by
  have k := fun (p : Addr) (c : Value) (e : W.cell? p = some c) => (hb.cell (World.block_lt_of_cell? W p e)).trans e
  exact ⟨k _ _ h.1, k _ _ h.2.1, k _ _ h.2.2.1, k _ _ h.2.2.2.1, k _ _ h.2.2.2.2.1, k _ _ h.2.2.2.2.2⟩
theorem PowS.alloc {w W : World} {v x : Nat → Nat} (h : PowS w W v x) (o : Obj) : PowS w (W.alloc o) v x := h.call (bel_alloc W o)
theorem PowS.set {w W : World} {v x : Nat → Nat} (h : PowS w W v x) (a : Addr) (ha : w.heap.size + 1 < a.block) (u : Value) : PowS w (W.setCell a u) v x := by
  have k := fun (i o : Nat) (c : Value) (hi : i ≤ w.heap.size + 1) (e : W.cell? ⟨i, o, none⟩ = some c) => (World.cell?_of_block (w := W) (w' := W.setCell a u) (a := ⟨i, o, none⟩) (Below.heap_setCell W a u i (by omega))).trans e
  exact ⟨k _ _ _ (by omega) h.1, k _ _ _ (by omega) h.2.1, k _ _ _ (by omega) h.2.2.1, k _ _ _ (by omega) h.2.2.2.1, k _ _ _ (by omega) h.2.2.2.2.1, k _ _ _ (by omega) h.2.2.2.2.2⟩
def PowH (w W : World) (v x : Nat → Nat) (b4 b5 b6 b7 : Bool) (g h : Nat) : Prop := PowS w W v x ∧ Below w.heap.size w W ∧ w.heap.size + 1 < W.heap.size ∧
    (b4 = true → w.heap.size + 1 < g ∧ RL W g 219 (if b6 = true then [.complex .f32 (v 0) (v 1), .complex .f32 (v 2) (v 3), .complex .f32 (v 4) (v 5)] else [.complex .f32 0 0, .complex .f32 0 0, .complex .f32 0 0])) ∧
    (b5 = true → w.heap.size + 1 < h ∧ RL W h 219 (if b7 = true then [.complex .f32 (x 0) (x 1), .complex .f32 (x 2) (x 3), .complex .f32 (x 4) (x 5)] else [.complex .f32 0 0, .complex .f32 0 0, .complex .f32 0 0])) ∧ (b4 = true → b5 = true → g ≠ h) ∧ (b4 = false → b6 = false) ∧ (b5 = false → b7 = false)
theorem PowH.call {w W W' : World} {v x : Nat → Nat} {b4 b5 b6 b7 : Bool} {g h : Nat} (H : PowH w W v x b4 b5 b6 b7 g h) (hb : Below W.heap.size W W') : PowH w W' v x b4 b5 b6 b7 g h := by
  obtain ⟨h1, h2, h3, h4, h5, h6⟩ := H
  refine ⟨h1.call hb, h2.trans (hb.mono h2.size), Nat.lt_of_lt_of_le h3 hb.size, fun e => ⟨(h4 e).1, (h4 e).2.below hb (h4 e).2.lt⟩, fun e => ⟨(h5 e).1, (h5 e).2.below hb (h5 e).2.lt⟩, h6⟩
/-- A slot that is set if an operation has come up. -/
def sl (b : Bool) (v : Value) : Value := match b with | true => v | false => undef
theorem sl_true (v : Value) : sl true v = v := rfl
/-- What holds while the region of PowerBetween goes on: which operations have come up, and what they have left. -/
def PowI (w : World) (v x : Nat → Nat) (s : Array Bool) (a : Act) (W : World) : Prop := ∃ (b0 b1 b2 b3 b4 b5 b6 b7 : Bool) (g h : Nat), s = #[b0, b1, b2, b3, b4, b5, b6, b7] ∧
  a = { tmps := #[.agg #[.complex .f32 (v 0) (v 1), .complex .f32 (v 2) (v 3), .complex .f32 (v 4) (v 5)], .agg #[.complex .f32 (x 0) (x 1), .complex .f32 (x 2) (x 3), .complex .f32 (x 4) (x 5)], .pointer (some ⟨w.heap.size, 0, none⟩), .pointer (some ⟨w.heap.size + 1, 0, none⟩), .complex .f32 0 0,
      sl b4 (.pointer (some ⟨g, 0, none⟩)), sl b5 (.pointer (some ⟨h, 0, none⟩)), undef, undef,
      sl b0 (.agg #[.complex .f32 (v 0) (v 1), .complex .f32 (v 2) (v 3), .complex .f32 (v 4) (v 5)]), sl b1 (.agg #[.complex .f32 (v 0) (v 1), .complex .f32 (v 2) (v 3), .complex .f32 (v 4) (v 5)]),
      sl b2 (.agg #[.complex .f32 (x 0) (x 1), .complex .f32 (x 2) (x 3), .complex .f32 (x 4) (x 5)]), sl b3 (.agg #[.complex .f32 (x 0) (x 1), .complex .f32 (x 2) (x 3), .complex .f32 (x 4) (x 5)]),
      undef, undef, undef, undef, undef, undef, undef], defers := [] } ∧
  Hid (PowH w W v x b4 b5 b6 b7 g h)
end Go.Proofs.Ytbcjgjdkapdihaa
end
