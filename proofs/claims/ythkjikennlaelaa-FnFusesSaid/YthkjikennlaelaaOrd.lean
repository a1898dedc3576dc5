/-
  Plain facts on floats, no program: any two floats that are not NaNs stand to each other as two integers do. No theorem of a claim stands here.
-/
import Derived.Test.YthkjikennlaelaaSame
import Derived.Test.YthkjikennlaelaaFe
set_option linter.unusedSimpArgs false
set_option linter.unusedVariables false
namespace Go.Proofs.Ythkjikennlaelaa.Fl
open Go Go.RowKit

theorem cmp_lt {x y : Int} (h : x < y) : compare x y = .lt := by
  show compareOfLessAndEq _ _ = _
  unfold compareOfLessAndEq
  rw [if_pos h]
theorem cmp_gt {x y : Int} (h : y < x) : compare x y = .gt := by
  show compareOfLessAndEq _ _ = _
  unfold compareOfLessAndEq
  rw [if_neg (by omega), if_neg (by omega)]
theorem cmp_eq (x : Int) : compare x x = .eq := by
  show compareOfLessAndEq _ _ = _
  unfold compareOfLessAndEq
  rw [if_neg (by omega), if_pos rfl]
theorem U_inf_pos (k : FloatKind) : 0 < U k k.format.infRung := by
  have h : (0 : Nat) < k.format.infRung := by cases k <;> decide
  have := U_lt k h
  omega
theorem sv_in {k : FloatKind} {b : Nat} (h : rung k b < k.format.infRung) : -(U k k.format.infRung : Int) < sv k b ∧ sv k b < U k k.format.infRung := by
  have := U_lt k h
  unfold sv
  split <;> constructor <;> omega
theorem sv_at_inf {k : FloatKind} {b : Nat} (h : rung k b = k.format.infRung) : sv k b = if neg k b then -(U k k.format.infRung : Int) else U k k.format.infRung := by
  unfold sv; rw [h]
/-- Any two floats that are not NaNs. -/
theorem order_all {k : FloatKind} {a b : Nat} (ha : vl k a = some a) (hb : vl k b = some b) : k.format.order a b = some (compare (sv k a) (sv k b)) := by
  have hp := U_inf_pos k
  rcases Nat.lt_or_eq_of_le (num_rung ha) with fa | ia
  · rcases Nat.lt_or_eq_of_le (num_rung hb) with fb | ib
    · exact order_units k a b fa fb
    · obtain ⟨m, i, hm, _, _, _⟩ := read_units k a fa
      have h := sv_in fa
      rw [sv_at_inf ib]
      unfold Ieee.Format.order
      rw [show k.format.read a = _ from hm, show k.format.read b = _ from read_inf ib]
      show some _ = _
      cases neg k b
      · rw [if_neg (by simp), if_neg (by simp), cmp_lt (by omega)]
      · rw [if_pos rfl, if_pos rfl, cmp_gt (by omega)]
  · rcases Nat.lt_or_eq_of_le (num_rung hb) with fb | ib
    · have h := sv_in fb
      rw [order_inf_fin k a b ia fb, sv_at_inf ia]
      cases neg k a
      · rw [if_neg (by simp), if_neg (by simp), cmp_gt (by omega)]
      · rw [if_pos rfl, if_pos rfl, cmp_lt (by omega)]
    · rw [sv_at_inf ia, sv_at_inf ib]
      unfold Ieee.Format.order
      rw [show k.format.read a = _ from read_inf ia, show k.format.read b = _ from read_inf ib]
      show some (compare (neg k b).toNat (neg k a).toNat) = _
      cases neg k a <;> cases neg k b
      · simp only [if_neg (show ¬ (false = true) by simp)]; rw [cmp_eq]; rfl
      · rw [if_neg (by simp), if_pos rfl, cmp_gt (by omega)]; rfl
      · rw [if_pos rfl, if_neg (by simp), cmp_lt (by omega)]; rfl
      · simp only [if_pos]; rw [cmp_eq]; rfl
theorem order_nanL {k : FloatKind} {a b : Nat} (h : vl k a = none) : k.format.order a b = none := by rw [order_vl, h]; rfl
theorem order_nanR {k : FloatKind} {a b : Nat} (h : vl k b = none) : k.format.order a b = none := by rw [order_vl, h]; cases vl k a <;> rfl

/-- The four comparisons, as the program asks them. -/
def gtF (k : FloatKind) (a b : Nat) : Bool := k.format.order a b == some .gt
def ltF (k : FloatKind) (a b : Nat) : Bool := k.format.order a b == some .lt
def geF (k : FloatKind) (a b : Nat) : Bool := k.format.order a b == some .gt || k.format.order a b == some .eq
def leF (k : FloatKind) (a b : Nat) : Bool := k.format.order a b == some .lt || k.format.order a b == some .eq
section
variable {k : FloatKind} {a b : Nat} (ha : vl k a = some a) (hb : vl k b = some b)
include ha hb
theorem cmp_cases : (k.format.order a b = some .lt ∧ sv k a < sv k b) ∨ (k.format.order a b = some .eq ∧ sv k a = sv k b) ∨ (k.format.order a b = some .gt ∧ sv k b < sv k a) := by
  rw [order_all ha hb]
  rcases Int.lt_trichotomy (sv k a) (sv k b) with h | h | h
  · exact .inl ⟨by rw [cmp_lt h], h⟩
  · exact .inr (.inl ⟨by rw [h, cmp_eq], h⟩)
  · exact .inr (.inr ⟨by rw [cmp_gt h], h⟩)
theorem gtF_sv : gtF k a b = decide (sv k b < sv k a) := by
  unfold gtF
  rcases cmp_cases ha hb with ⟨h, g⟩ | ⟨h, g⟩ | ⟨h, g⟩
  · rw [h, decide_eq_false (by omega)]; rfl
  · rw [h, decide_eq_false (by omega)]; rfl
  · rw [h, decide_eq_true (by omega)]; rfl
theorem ltF_sv : ltF k a b = decide (sv k a < sv k b) := by
  unfold ltF
  rcases cmp_cases ha hb with ⟨h, g⟩ | ⟨h, g⟩ | ⟨h, g⟩
  · rw [h, decide_eq_true (by omega)]; rfl
  · rw [h, decide_eq_false (by omega)]; rfl
  · rw [h, decide_eq_false (by omega)]; rfl
theorem geF_sv : geF k a b = decide (sv k b ≤ sv k a) := by
  unfold geF
  rcases cmp_cases ha hb with ⟨h, g⟩ | ⟨h, g⟩ | ⟨h, g⟩
  · rw [h, decide_eq_false (by omega)]; rfl
  · rw [h, decide_eq_true (by omega)]; rfl
  · rw [h, decide_eq_true (by omega)]; rfl
theorem leF_sv : leF k a b = decide (sv k a ≤ sv k b) := by
  unfold leF
  rcases cmp_cases ha hb with ⟨h, g⟩ | ⟨h, g⟩ | ⟨h, g⟩
  · rw [h, decide_eq_true (by omega)]; rfl
  · rw [h, decide_eq_true (by omega)]; rfl
  · rw [h, decide_eq_false (by omega)]; rfl
end
theorem gtF_nan {k : FloatKind} {a b : Nat} (h : vl k a = none ∨ vl k b = none) : gtF k a b = false := by
  unfold gtF; rcases h with h | h
  · rw [order_nanL h]; rfl
  · rw [order_nanR h]; rfl
theorem ltF_nan {k : FloatKind} {a b : Nat} (h : vl k a = none ∨ vl k b = none) : ltF k a b = false := by
  unfold ltF; rcases h with h | h
  · rw [order_nanL h]; rfl
  · rw [order_nanR h]; rfl
theorem geF_nan {k : FloatKind} {a b : Nat} (h : vl k a = none ∨ vl k b = none) : geF k a b = false := by
  unfold geF; rcases h with h | h
  · rw [order_nanL h]; rfl
  · rw [order_nanR h]; rfl
theorem leF_nan {k : FloatKind} {a b : Nat} (h : vl k a = none ∨ vl k b = none) : leF k a b = false := by
  unfold leF; rcases h with h | h
  · rw [order_nanL h]; rfl
  · rw [order_nanR h]; rfl
theorem geF_flip (k : FloatKind) (a b : Nat) : geF k a b = leF k b a := by
  rcases vl_cases k a with ha | ha
  · rw [geF_nan (.inl ha), leF_nan (.inr ha)]
  rcases vl_cases k b with hb | hb
  · rw [geF_nan (.inr hb), leF_nan (.inl hb)]
  rw [geF_sv ha hb, leF_sv hb ha]
theorem gtF_flip (k : FloatKind) (a b : Nat) : gtF k a b = ltF k b a := by
  rcases vl_cases k a with ha | ha
  · rw [gtF_nan (.inl ha), ltF_nan (.inr ha)]
  rcases vl_cases k b with hb | hb
  · rw [gtF_nan (.inr hb), ltF_nan (.inl hb)]
  rw [gtF_sv ha hb, ltF_sv hb ha]
/-- Is it finite and greater than 0? At least 0? -/
def posB (b : Nat) : Bool := fin .f32 (vl .f32 b) && gtF .f32 b 0
def amtB (b : Nat) : Bool := fin .f32 (vl .f32 b) && geF .f32 b 0
theorem sv_zero (k : FloatKind) : sv k 0 = 0 := by cases k <;> decide
theorem posB_true {b : Nat} (h : posB b = true) : rung .f32 b < FloatKind.f32.format.infRung ∧ vl .f32 b = some b ∧ 0 < sv .f32 b := by
  unfold posB at h
  simp only [Bool.and_eq_true] at h
  have f := fin_iff.1 h.1
  have v := fin_vl f
  have g := h.2
  rw [gtF_sv v (vl_zero _), sv_zero] at g
  exact ⟨f, v, of_decide_eq_true g⟩
theorem amtB_true {b : Nat} (h : amtB b = true) : rung .f32 b < FloatKind.f32.format.infRung ∧ vl .f32 b = some b ∧ 0 ≤ sv .f32 b := by
  unfold amtB at h
  simp only [Bool.and_eq_true] at h
  have f := fin_iff.1 h.1
  have v := fin_vl f
  have g := h.2
  rw [geF_sv v (vl_zero _), sv_zero] at g
  exact ⟨f, v, of_decide_eq_true g⟩
theorem posB_of {b : Nat} (f : rung .f32 b < FloatKind.f32.format.infRung) (h : 0 < sv .f32 b) : posB b = true := by
  unfold posB
  rw [fin_iff.2 f, gtF_sv (fin_vl f) (vl_zero _), sv_zero, decide_eq_true h]
  rfl
theorem amtB_of {b : Nat} (f : rung .f32 b < FloatKind.f32.format.infRung) (h : 0 ≤ sv .f32 b) : amtB b = true := by
  unfold amtB
  rw [fin_iff.2 f, geF_sv (fin_vl f) (vl_zero _), sv_zero, decide_eq_true h]
  rfl
end Go.Proofs.Ythkjikennlaelaa.Fl
