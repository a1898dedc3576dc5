/-
  Plain facts on floats, no program: how two finite floats stand to each other, in whole units of the least place; finiteness. No theorem of a claim stands here.
-/
import Derived.Test.YthkjikennlaelaaFw
import Derived.Test.YthkjikennlaelaaFm
set_option linter.unusedSimpArgs false
namespace Go.Proofs.Ythkjikennlaelaa.Fl
open Go Go.RowKit

/-- The magnitude of a rung in units of the least place. -/
def U (k : FloatKind) (r : Nat) : Nat := if r < k.format.binade then r else (k.format.binade + r % k.format.binade) * 2 ^ (r / k.format.binade - 1)

theorem U_lt (k : FloatKind) {a b : Nat} (h : a < b) : U k a < U k b := by
  have hB : 0 < k.format.binade := Nat.two_pow_pos _
  unfold U
  generalize k.format.binade = B at *
  by_cases hb : b < B
  · rw [if_pos hb, if_pos (by omega)]; exact h
  · rw [if_neg hb]
    have hqb : 1 ≤ b / B := (Nat.le_div_iff_mul_le hB).2 (by omega)
    have lb : B ≤ (B + b % B) * 2 ^ (b / B - 1) :=
      Nat.le_trans (Nat.le_add_right _ _) (Nat.le_mul_of_pos_right _ (Nat.two_pow_pos _))
    by_cases ha : a < B
    · rw [if_pos ha]; omega
    · rw [if_neg ha]
      have hqa : 1 ≤ a / B := (Nat.le_div_iff_mul_le hB).2 (by omega)
      have ma : a % B < B := Nat.mod_lt _ hB
      have hq : a / B ≤ b / B := Nat.div_le_div_right (Nat.le_of_lt h)
      by_cases he : a / B = b / B
      · rw [he]
        have e1 := Nat.div_add_mod a B
        have e2 := Nat.div_add_mod b B
        rw [he] at e1
        exact Nat.mul_lt_mul_of_pos_right (by omega) (Nat.two_pow_pos _)
      · have e : 2 ^ (b / B - 1) = 2 ^ (a / B - 1) * 2 ^ (b / B - a / B) := by rw [← Nat.pow_add]; congr 1; omega
        have h2 : 2 ≤ 2 ^ (b / B - a / B) := by
          have := Nat.pow_le_pow_right (n := 2) (by omega) (show 1 ≤ b / B - a / B by omega)
          simpa using this
        have s1 : (B + a % B) * 2 ^ (a / B - 1) < (2 * B) * 2 ^ (a / B - 1) := Nat.mul_lt_mul_of_pos_right (by omega) (Nat.two_pow_pos _)
        have s2 : (2 * B) * 2 ^ (a / B - 1) ≤ B * 2 ^ (b / B - 1) := by
          rw [e, Nat.mul_comm 2 B, Nat.mul_assoc, Nat.mul_comm 2 _]
          exact Nat.mul_le_mul_left _ (Nat.mul_le_mul_left _ h2)
        have s3 : B * 2 ^ (b / B - 1) ≤ (B + b % B) * 2 ^ (b / B - 1) := Nat.mul_le_mul_right _ (Nat.le_add_right _ _)
        omega

theorem U_le (k : FloatKind) {a b : Nat} (h : a ≤ b) : U k a ≤ U k b := by
  rcases Nat.lt_or_eq_of_le h with h | rfl
  · exact Nat.le_of_lt (U_lt k h)
  · exact Nat.le_refl _

theorem U_lt_iff (k : FloatKind) {a b : Nat} : U k a < U k b ↔ a < b :=
  ⟨fun h => by rcases Nat.lt_or_ge a b with h' | h'; exact h'; have := U_le k h'; omega, U_lt k⟩

def rung (k : FloatKind) (w : Nat) : Nat := w % k.format.signWeight
def neg (k : FloatKind) (w : Nat) : Bool := w / k.format.signWeight % 2 == 1
/-- A finite float's value in units of the least place. -/
def sv (k : FloatKind) (w : Nat) : Int := if neg k w then -(U k (rung k w) : Int) else U k (rung k w)

theorem read_units (k : FloatKind) (w : Nat) (h : rung k w < k.format.infRung) :
    ∃ m i, k.decode w = .number (neg k w) m i ∧ k.format.leastPlace ≤ i ∧ m * 2 ^ (i - k.format.leastPlace).toNat = U k (rung k w) ∧ m < 2 * k.format.binade := by
  have hB : 0 < k.format.binade := Nat.two_pow_pos _
  show ∃ m i, k.format.read w = .number (neg k w) m i ∧ _
  unfold Ieee.Format.read U
  unfold rung at *
  simp only
  by_cases h1 : w % k.format.signWeight < k.format.binade
  · rw [if_pos h1, if_pos h1]
    exact ⟨_, _, rfl, Int.le_refl _, by simp, by omega⟩
  · rw [if_neg h1, if_neg h1, if_pos h]
    have ma : w % k.format.signWeight % k.format.binade < k.format.binade := Nat.mod_lt _ hB
    refine ⟨_, _, rfl, by omega, ?_, by omega⟩
    congr 2
    omega

theorem compare_scale (x y : Int) (c : Nat) (hc : 0 < c) : compare (x * c) (y * c) = compare x y := by
  have hc' : (0 : Int) < c := by omega
  show compareOfLessAndEq _ _ = compareOfLessAndEq _ _
  unfold compareOfLessAndEq
  rcases Int.lt_trichotomy x y with h | h | h
  · rw [if_pos h, if_pos (Int.mul_lt_mul_of_pos_right h hc')]
  · subst h; simp
  · have h' := Int.mul_lt_mul_of_pos_right h hc'
    rw [if_neg (by omega), if_neg (by omega), if_neg (by omega), if_neg (by omega)]

theorem signed_scale (s : Bool) (m a b : Nat) : Ieee.signed s m (a + b) = Ieee.signed s m a * (2 ^ b : Nat) := by
  unfold Ieee.signed
  rw [Nat.shiftLeft_eq, Nat.shiftLeft_eq, Nat.pow_add, ← Nat.mul_assoc]
  split
  · rw [Int.neg_mul]; simp
  · simp

theorem sv_signed (k : FloatKind) (w m : Nat) (i : Int) (h : m * 2 ^ (i - k.format.leastPlace).toNat = U k (rung k w)) :
    sv k w = Ieee.signed (neg k w) m (i - k.format.leastPlace).toNat := by
  unfold sv Ieee.signed
  rw [← h, Nat.shiftLeft_eq]

/-- Two finite floats stand to each other as their values do. -/
theorem order_units (k : FloatKind) (a b : Nat) (ha : rung k a < k.format.infRung) (hb : rung k b < k.format.infRung) : k.format.order a b = some (compare (sv k a) (sv k b)) := by
  obtain ⟨m, i, h1, hi, hu, _⟩ := read_units k a ha
  obtain ⟨n, j, h2, hj, hv, _⟩ := read_units k b hb
  rw [sv_signed k a m i hu, sv_signed k b n j hv]
  unfold Ieee.Format.order
  rw [show k.format.read a = _ from h1, show k.format.read b = _ from h2]
  simp only [Ieee.Datum.order]
  congr 1
  have e1 : (i - k.format.leastPlace).toNat = (i - min i j).toNat + (min i j - k.format.leastPlace).toNat := by omega
  have e2 : (j - k.format.leastPlace).toNat = (j - min i j).toNat + (min i j - k.format.leastPlace).toNat := by omega
  rw [e1, e2, signed_scale, signed_scale, compare_scale _ _ _ (Nat.two_pow_pos _)]

/-- Is it finite? -/
def fin (k : FloatKind) (x : Option Nat) : Bool := x.any fun b => decide (rung k b < k.format.infRung)

theorem num_rung {k : FloatKind} {b : Nat} (h : vl k b = some b) : rung k b ≤ k.format.infRung := by
  unfold vl at h
  have hd : (k.format.read b).isNaN = false := by
    cases hn : (k.decode b).isNaN
    · exact hn
    · rw [hn] at h; simp at h
  rw [isNaN_read] at hd
  unfold rung
  simpa using hd

theorem read_inf {k : FloatKind} {b : Nat} (h : rung k b = k.format.infRung) : k.decode b = .infinity (neg k b) := by
  have hb := binade_le k
  show k.format.read b = _
  unfold Ieee.Format.read neg
  unfold rung at h
  simp only [h]
  rw [if_neg (by omega), if_neg (by omega), if_pos trivial]

theorem vl_zero (k : FloatKind) : vl k 0 = some 0 := by cases k <;> decide

theorem sub_self (k : FloatKind) (b : Nat) : (ford k (fop .sub k (vl k b) (vl k b)) (vl k 0) == some .eq) = fin k (vl k b) := by
  rw [vl_zero]
  cases hv : vl k b with
  | none => rfl
  | some c =>
    obtain rfl := vl_some hv
    have hr := num_rung hv
    by_cases hf : rung k b < k.format.infRung
    · obtain ⟨m, i, h1, _, _, _⟩ := read_units k b hf
      have e : fop .sub k (some b) (some b) = some 0 := by
        simp only [fop, Option.bind_some, floatBits, Ieee.Format.sub]
        rw [show k.format.read b = _ from h1]
        simp only [Ieee.Datum.opposite, Ieee.Datum.sum, Int.min_self, Int.sub_self, Option.map_some, Ieee.Format.write]
        have hz : Ieee.signed (neg k b) m (Int.toNat 0) + Ieee.signed (!neg k b) m (Int.toNat 0) = 0 := by
          unfold Ieee.signed; cases neg k b <;> simp <;> omega
        rw [hz]
        simp [Ieee.Format.nearest, Ieee.Format.word]
      rw [e]
      have h0 : k.format.order 0 0 = some .eq := by cases k <;> decide
      simp [ford, h0, fin, hf]
    · have hi : rung k b = k.format.infRung := by omega
      have e : fop .sub k (some b) (some b) = none := by
        simp only [fop, Option.bind_some, floatBits, Ieee.Format.sub]
        rw [show k.format.read b = _ from read_inf hi]
        simp [Ieee.Datum.opposite, Ieee.Datum.sum]
      rw [e]
      simp [ford, fin, hf]

theorem max_fin : rung .f64 9218868437227405311 < FloatKind.f64.format.infRung := by
  have e2 : FloatKind.f64.format.infRung = 9218868437227405312 := by decide
  have e3 : FloatKind.f64.format.signWeight = 9223372036854775808 := by decide
  unfold rung; rw [e2, e3]; omega
theorem max_pos : neg .f64 9218868437227405311 = false := by
  have e3 : FloatKind.f64.format.signWeight = 9223372036854775808 := by decide
  unfold neg; rw [e3, Nat.div_eq_of_lt (by omega)]; rfl
theorem rung_abs (b : Nat) : rung .f64 (b % 9223372036854775808) = rung .f64 b := by
  have e3 : FloatKind.f64.format.signWeight = 9223372036854775808 := by decide
  unfold rung; rw [e3, Nat.mod_mod]
theorem neg_abs (b : Nat) : neg .f64 (b % 9223372036854775808) = false := by
  have e3 : FloatKind.f64.format.signWeight = 9223372036854775808 := by decide
  unfold neg; rw [e3, Nat.div_eq_of_lt (Nat.mod_lt _ (by omega))]; rfl
theorem sv_abs (b : Nat) : sv .f64 (b % 9223372036854775808) = U .f64 (rung .f64 b) := by
  unfold sv; rw [neg_abs, rung_abs]; simp
theorem max_rung : rung .f64 9218868437227405311 = 9218868437227405311 := by
  have e3 : FloatKind.f64.format.signWeight = 9223372036854775808 := by decide
  unfold rung; rw [e3]
theorem sv_max : sv .f64 9218868437227405311 = U .f64 9218868437227405311 := by
  unfold sv; rw [max_pos, max_rung]; simp
theorem fin_le (b : Nat) (hf : rung .f64 b < FloatKind.f64.format.infRung) : U .f64 (rung .f64 b) ≤ U .f64 9218868437227405311 := by
  have e2 : FloatKind.f64.format.infRung = 9218868437227405312 := by decide
  rw [e2] at hf
  exact U_le _ (by omega)
theorem not_gt (x y : Nat) (h : x ≤ y) : compare (x : Int) (y : Int) ≠ .gt := by
  show compareOfLessAndEq _ _ ≠ _
  unfold compareOfLessAndEq
  split
  · decide
  · split
    · decide
    · omega

theorem order_inf_fin (k : FloatKind) (a b : Nat) (ha : rung k a = k.format.infRung) (hb : rung k b < k.format.infRung) : k.format.order a b = some (if neg k a then .lt else .gt) := by
  obtain ⟨m, i, hm, _, _, _⟩ := read_units k b hb
  unfold Ieee.Format.order
  rw [show k.format.read a = _ from read_inf ha, show k.format.read b = _ from hm]
  rfl

theorem g4 (b x : Nat) (h1 : rung .f64 (b % 9223372036854775808) < FloatKind.f64.format.infRung) (h2 : rung .f64 x < FloatKind.f64.format.infRung) (hxs : sv .f64 x = U .f64 9218868437227405311) : FloatKind.f64.format.order (b % 9223372036854775808) x = some (compare (U .f64 (rung .f64 b) : Int) (U .f64 9218868437227405311 : Int)) := by
  rw [order_units .f64 _ _ h1 h2, sv_abs, hxs]
theorem g5 (c : Ordering) (hle : c ≠ .gt) : (some c == some Ordering.gt) = false := by
  simp [hle]
theorem g6 (b x : Nat) (hi : rung .f64 (b % 9223372036854775808) = FloatKind.f64.format.infRung) (hxf : rung .f64 x < FloatKind.f64.format.infRung) : FloatKind.f64.format.order (b % 9223372036854775808) x = some .gt := by
  rw [order_inf_fin _ _ _ hi hxf, neg_abs]; rfl
theorem g2 (x : Nat) (hx : x = 9218868437227405311) : rung .f64 x < FloatKind.f64.format.infRung := by rw [hx]; exact max_fin
theorem g3 (x : Nat) (hx : x = 9218868437227405311) : sv .f64 x = U .f64 9218868437227405311 := by rw [hx]; exact sv_max
theorem fin_some_true {k : FloatKind} {b : Nat} (h : rung k b < k.format.infRung) : fin k (some b) = true := by simp [fin, h]
theorem fin_some_false {k : FloatKind} {b : Nat} (h : ¬ rung k b < k.format.infRung) : fin k (some b) = false := by simp [fin, h]

/-- 'Abs(b)' against the greatest finite float64. -/
theorem gt_max (b x : Nat) (hx : x = 9218868437227405311) (hv : vl .f64 b = some b) : (FloatKind.f64.format.order (b % 9223372036854775808) x == some .gt) = !fin .f64 (some b) := by
  have hr := num_rung hv
  by_cases hf : rung .f64 b < FloatKind.f64.format.infRung
  · rw [g4 b x (by rw [rung_abs]; exact hf) (g2 x hx) (g3 x hx), g5 _ (not_gt _ _ (fin_le b hf)), fin_some_true hf]; rfl
  · rw [g6 b x (by rw [rung_abs]; exact Nat.le_antisymm hr (Nat.le_of_not_lt hf)) (g2 x hx), fin_some_false hf]; rfl
end Go.Proofs.Ythkjikennlaelaa.Fl
