/-
  The walk of the law on sines.
-/
import Derived.Test.YtceeeeggehlgladSine
set_option linter.unusedVariables false
namespace Go.Proofs.Ytceeeeggehlglad.fnExactSineTurns
open Go Go.RowKit Go.Proofs.Ytceeeeggehlglad.Fl

theorem walk (a0 : Nat) (w0 : (Lit.float .f32 a0).wf = true) (w : World) :
    Calls Try.prog 3 #[.float .f32 a0] w fun e w' => e = .returned (.bool true) ∧ Below w.heap.size w w' := by
  have hb : a0 < 2 ^ 32 := lt_of_wf w0
  go_enter Try.func3, Try.ntmps3
  go_wp2_with (first | (go_at_call 18; refine (l01Sine_any _ hb _).mono ?_; rintro e w' ⟨x1, m1, rfl, hx1, hl1, rfl⟩; have H1 := Lib.hid hx1; clear hx1) | (go_at_call 8; refine (sineTurns_any _ hb _).mono ?_; rintro e w' ⟨x2, m2, rfl, hx2, hl2, rfl⟩; have H2 := Lib.hid hx2; clear hx2) | (go_at_call 7; go_in) | (refine wpList_fcv_g (o := ⟨some 10, _, _, _, _, _⟩) (by rfl) 22 25 _ (by rfl) .f32 .f64 isSome_f32 Try.underlying25 _ (by rfl) hl2 (over_widen' _) ?_; intro r1 n1 hr1 hv1) | (refine wpList_fcv_g (o := ⟨some 12, _, _, _, _, _⟩) (by rfl) 22 25 _ (by rfl) .f32 .f64 isSome_f32 Try.underlying25 _ (by rfl) hl1 (over_widen' _) ?_; intro r2 n2 hr2 hv2) | (go_at_call 9; refine (sameFloat_any _ _ (by rw [hv1.out, hv2.out, H1.out, H2.out]) _).mono ?_; rintro e w' ⟨m, rfl, rfl⟩))
  go_ret
  exact ⟨rfl, below_drawn _ _⟩
end Go.Proofs.Ytceeeeggehlglad.fnExactSineTurns
