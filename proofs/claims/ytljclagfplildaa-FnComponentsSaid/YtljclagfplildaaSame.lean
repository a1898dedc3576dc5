/-
  Walks: the laws' own test whether two floats are the same value. No theorem of a claim stands here.
-/
import Derived.Test.YtljclagfplildaaBits
set_option linter.unusedVariables false
namespace Go.Proofs.Ytljclagfplildaa.Fl
open Go Go.RowKit

theorem vl_cases (k : FloatKind) (b : Nat) : vl k b = none ∨ vl k b = some b := by
  cases h : vl k b with
  | none => exact .inl rfl
  | some c => obtain rfl := vl_some h; exact .inr rfl

theorem order_self_nan {k : FloatKind} {b : Nat} (h : vl k b = none) : (k.format.order b b != some .eq) = true := by rw [order_self, h]; rfl
theorem order_self_num {k : FloatKind} {b c : Nat} (h : vl k b = some c) : (k.format.order b b != some .eq) = false := by rw [order_self, h]; rfl
theorem order_self_num' {k : FloatKind} {b c : Nat} (h : vl k b = some c) : (k.format.order b b == some .eq) = true := by rw [order_self, h]; rfl

end Go.Proofs.Ytljclagfplildaa.Fl
