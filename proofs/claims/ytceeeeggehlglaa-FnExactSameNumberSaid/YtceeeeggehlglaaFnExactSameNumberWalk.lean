/-
  The walk of the law on numbers that are the same.
-/
import Derived.Test.YtceeeeggehlglaaBits
set_option linter.unusedVariables false
namespace Go.Proofs.Ytceeeeggehlglaa.fnExactSameNumber
open Go Go.RowKit Go.Proofs.Ytceeeeggehlglaa.Fl

theorem walk (a0 a1 : Nat) (w0 : (Lit.float .f32 a0).wf = true) (w1 : (Lit.float .f32 a1).wf = true) (w : World) :
    Calls Try.prog 5 #[.float .f32 a0, .float .f32 a1] w fun e w' => e = .returned (.bool true) ∧ Below w.heap.size w w' := by
  have hb : a0 < 2 ^ 32 := lt_of_wf w0
  have hb1 : a1 < 2 ^ 32 := lt_of_wf w1
  have hz : ((bitsV (vl .f32 a0) == bitsV (vl .f32 a1)) != (bitsV (vl .f32 a0) == bitsV (vl .f32 a1))) = false := by simp
  go_enter Try.func5, Try.ntmps5
  go_wp2_with (first | (go_at_call 60; refine (l01Bits_any _ (by assumption) _).mono ?_; rintro e w' ⟨m, rfl, rfl⟩) | (go_at_call 32; refine (bitsOf_any _ (by assumption) _).mono ?_; rintro e w' ⟨m, rfl, rfl⟩) | (go_at_call 18; go_in) | (go_at_call 49; go_in) | (go_at_call 28; go_in))
  go_ret
  exact ⟨rfl, below_drawn _ _⟩
end Go.Proofs.Ytceeeeggehlglaa.fnExactSameNumber
