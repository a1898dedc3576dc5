/-
  The walk of the law on the bits of a number.
-/
import Derived.Test.YtceeeeggehlglaaBits
set_option linter.unusedVariables false
namespace Go.Proofs.Ytceeeeggehlglaa.fnExactBitsOf
open Go Go.RowKit Go.Proofs.Ytceeeeggehlglaa.Fl

theorem walk (a0 : Nat) (w0 : (Lit.float .f32 a0).wf = true) (w : World) :
    Calls Try.prog 7 #[.float .f32 a0] w fun e w' => e = .returned (.bool true) ∧ Below w.heap.size w w' := by
  have hb : a0 < 2 ^ 32 := lt_of_wf w0
  have hz : (bitsV (vl .f32 a0) != bitsV (vl .f32 a0)) = false := by simp
  go_enter Try.func7, Try.ntmps7
  go_wp2_with (first | (go_at_call 60; refine (l01Bits_any _ hb _).mono ?_; rintro e w' ⟨m, rfl, rfl⟩) | (go_at_call 32; refine (bitsOf_any _ hb _).mono ?_; rintro e w' ⟨m, rfl, rfl⟩) | (go_at_call 31; go_in))
  go_ret
  exact ⟨rfl, below_drawn _ _⟩
end Go.Proofs.Ytceeeeggehlglaa.fnExactBitsOf
