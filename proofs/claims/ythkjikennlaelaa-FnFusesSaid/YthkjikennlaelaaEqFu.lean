/-
  Two fuses compared. No theorem of a claim stands here.
-/
import Derived.Test.YthkjikennlaelaaFuseT
set_option linter.unusedVariables false
set_option linter.unusedSimpArgs false
set_option maxRecDepth 8000
namespace Go.Proofs.Ythkjikennlaelaa
open Go Go.RowKit Go.Deep Go.Proofs.Ythkjikennlaelaa.Fl

theorem eqFl_d (d : Nat) (a b : Nat) (w : World) : (Op.equalIn (d + 1) 28 (.float .f32 a) (.float .f32 b)).run Try.prog w = .ok (FloatKind.f32.format.order a b == some .eq) w := by
  simp [Op.equalIn, run_underlying Try.underlying28]
  rfl
theorem eqFu (x y z x' y' z' : Nat) (w : World) : (Op.equalIn 10000 39 (.agg #[.float .f32 x, .float .f32 y, .float .f32 z]) (.agg #[.float .f32 x', .float .f32 y', .float .f32 z'])).run Try.prog w = .ok ((FloatKind.f32.format.order x x' == some .eq) && (FloatKind.f32.format.order y y' == some .eq) && (FloatKind.f32.format.order z z' == some .eq)) w := by
  have u3 := Try.underlying28
  have a3 := Try.isAgg28
  have z3 := Try.sizeOf28
  have hd := fun a b w => eqFl_d 9998 a b w
  rw [show (10000 : Nat) = 9999 + 1 from rfl, run_equalIn_agg w 9999 _ _ _ Try.underlying39 (by kernel_rfl)]
  go_simp
  by_cases h1 : FloatKind.f32.format.order x x' = some .eq <;> by_cases h2 : FloatKind.f32.format.order y y' = some .eq <;> by_cases h3 : FloatKind.f32.format.order z z' = some .eq <;> simp [h1, h2, h3]
theorem cmpFu (x y z x' y' z' : Nat) (w : World) : (binOp .eql 39 (.agg #[.float .f32 x, .float .f32 y, .float .f32 z]) (.agg #[.float .f32 x', .float .f32 y', .float .f32 z'])).run Try.prog w = .ok (.bool ((FloatKind.f32.format.order x x' == some .eq) && (FloatKind.f32.format.order y y' == some .eq) && (FloatKind.f32.format.order z z' == some .eq))) w := by
  rw [run_eql_struct, eqFu]; rfl
theorem cmpFuN (x y z x' y' z' : Nat) (w : World) : (binOp .neq 39 (.agg #[.float .f32 x, .float .f32 y, .float .f32 z]) (.agg #[.float .f32 x', .float .f32 y', .float .f32 z'])).run Try.prog w = .ok (.bool (!((FloatKind.f32.format.order x x' == some .eq) && (FloatKind.f32.format.order y y' == some .eq) && (FloatKind.f32.format.order z z' == some .eq)))) w := by
  rw [run_neq_struct, eqFu]; rfl
end Go.Proofs.Ythkjikennlaelaa
