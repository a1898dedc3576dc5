/-
  The walk of the law on finite numbers.
-/
import Derived.Test.YtceeeeggehlglaaFin
set_option linter.unusedVariables false
namespace Go.Proofs.Ytceeeeggehlglaa.fnExactIsFinite
open Go Go.RowKit Go.Proofs.Ytceeeeggehlglaa.Fl

theorem walk (a0 : Nat) (w0 : (Lit.float .f32 a0).wf = true) (w : World) :
    Calls Try.prog 6 #[.float .f32 a0] w fun e w' => e = .returned (.bool true) ∧ Below w.heap.size w w' := by
  have hb : a0 < 2 ^ 32 := lt_of_wf w0
  have hz : (fin .f32 (vl .f32 a0) != fin .f32 (vl .f32 a0)) = false := by simp
  go_enter Try.func6, Try.ntmps6
  go_wp2_with (first | (go_at_call 59; refine (l01Finite_any _ hb _).mono ?_; rintro e w' ⟨m, rfl, rfl⟩) | (go_at_call 30; refine (isFinite_any _ hb _).mono ?_; rintro e w' ⟨m, rfl, rfl⟩) | (go_at_call 29; go_in))
  go_ret
  exact ⟨rfl, below_drawn _ _⟩
end Go.Proofs.Ytceeeeggehlglaa.fnExactIsFinite
