/-
  The phasors of a third of a turn, forth and back, reckoned out. No theorem of a claim stands here.
-/
import Derived.Test.YtljclagfplildaaPhasS
import Derived.Test.YtljclagfplildaaMul
set_option linter.unusedVariables false
set_option maxRecDepth 8000
namespace Go.Proofs.Ytljclagfplildaa.Fl
open Go Go.RowKit

theorem ph_third : PhOf 4599676419421066581 (some 3204448256) (some 1063105495) := by
  unfold PhOf
  rw [if_pos (by kernel_rfl), if_neg (by decide)]
  refine ⟨1, ⟨fun i hi => ?_, by kernel_rfl⟩, by kernel_rfl, by kernel_rfl⟩
  obtain rfl : i = 0 := by omega
  kernel_rfl
theorem ph_dthird : PhOf 13823048456275842389 (some 3204448256) (some 3210589143) := by
  unfold PhOf
  rw [if_pos (by kernel_rfl), if_neg (by decide)]
  refine ⟨2, ⟨fun i hi => ?_, by kernel_rfl⟩, by kernel_rfl, by kernel_rfl⟩
  obtain rfl | rfl : i = 0 ∨ i = 1 := by omega
  · kernel_rfl
  · kernel_rfl

theorem bd_lit {x : Option Nat} {E c : Nat} (h : x = some c) (hc : c % FloatKind.f64.format.signWeight ≤ (E + bias .f64) * FloatKind.f64.format.binade) : Bd .f64 E x := by
  intro b hb
  rw [h] at hb
  cases hb
  exact hc

/-- The parts of the phasor of a third are at most 1. -/
theorem third_bd {x y : Nat} (h : PhOf 4599676419421066581 (vl .f32 x) (vl .f32 y)) : Bd .f64 0 (fcv .f32 .f64 (vl .f32 x)) ∧ Bd .f64 0 (fcv .f32 .f64 (vl .f32 y)) := by
  obtain ⟨e1, e2⟩ := phOf_unique h ph_third
  rw [e1, e2]
  exact ⟨bd_lit (c := 13826050856027422720) (by kernel_rfl) (by decide), bd_lit (c := 4605975682776825856) (by kernel_rfl) (by decide)⟩
theorem dthird_bd {x y : Nat} (h : PhOf 13823048456275842389 (vl .f32 x) (vl .f32 y)) : Bd .f64 0 (fcv .f32 .f64 (vl .f32 x)) ∧ Bd .f64 0 (fcv .f32 .f64 (vl .f32 y)) := by
  obtain ⟨e1, e2⟩ := phOf_unique h ph_dthird
  rw [e1, e2]
  exact ⟨bd_lit (c := 13826050856027422720) (by kernel_rfl) (by decide), bd_lit (c := 13829347719631601664) (by kernel_rfl) (by decide)⟩
/-- A source of 8 to 15 is below 16. -/
theorem source_bd (n : Nat) (h0 : 8 ≤ n) (h1 : n ≤ 15) : Bd .f64 4 (fcv .f32 .f64 (vl .f32 (floatOfInt .f32 (n : Int)))) := by
  have : ∀ n : Nat, n < 16 → 8 ≤ n → (fcv .f32 .f64 (vl .f32 (floatOfInt .f32 (n : Int)))).all (fun c => decide (c % FloatKind.f64.format.signWeight ≤ (4 + bias .f64) * FloatKind.f64.format.binade)) = true := by
    intro n h1 h0
    obtain rfl | rfl | rfl | rfl | rfl | rfl | rfl | rfl : n = 8 ∨ n = 9 ∨ n = 10 ∨ n = 11 ∨ n = 12 ∨ n = 13 ∨ n = 14 ∨ n = 15 := by omega
    all_goals kernel_rfl
  intro b hb
  have h := this n (by omega) h0
  rw [hb] at h
  simpa using h
theorem source_lt (n : Nat) (h0 : 8 ≤ n) (h1 : n ≤ 15) : floatOfInt .f32 (n : Int) < 2 ^ 32 := by
  obtain rfl | rfl | rfl | rfl | rfl | rfl | rfl | rfl : n = 8 ∨ n = 9 ∨ n = 10 ∨ n = 11 ∨ n = 12 ∨ n = 13 ∨ n = 14 ∨ n = 15 := by omega
  all_goals decide
theorem zero_bd : Bd .f64 4 (fcv .f32 .f64 (vl .f32 0)) := bd_lit (c := 0) (by kernel_rfl) (by decide)
end Go.Proofs.Ytljclagfplildaa.Fl
