/-
  The walk of the law on subnormal numbers.
-/
import Derived.Test.YtceeeeggehlglacSubn
set_option linter.unusedVariables false
namespace Go.Proofs.Ytceeeeggehlglac.fnExactIsSubnormal
open Go Go.RowKit Go.Proofs.Ytceeeeggehlglac.Fl

theorem walk (a0 : Nat) (w0 : (Lit.float .f32 a0).wf = true) (w : World) :
    Calls Try.prog 6 #[.float .f32 a0] w fun e w' => e = .returned (.bool true) ∧ Below w.heap.size w w' := by
  have hb : a0 < 2 ^ 32 := lt_of_wf w0
  have hz : (subB a0 != subB a0) = false := by simp
  go_enter Try.func6, Try.ntmps6
  go_wp2_with (first | (go_at_call 15; refine (specSub_any _ hb _).mono ?_; rintro e w' ⟨m, rfl, rfl⟩) | (go_at_call 16; refine (implSub_any _ hb _).mono ?_; rintro e w' ⟨m, rfl, rfl⟩))
  go_ret
  exact ⟨rfl, below_drawn _ _⟩
end Go.Proofs.Ytceeeeggehlglac.fnExactIsSubnormal
