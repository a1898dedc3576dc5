/-
  The walk of the law on the reading of decimal texts.
-/
import Derived.Test.YtbidjhpllnabkaaDoorDecVars
set_option linter.unusedVariables false
namespace Go.Proofs.YtbidjhpllnabkaaDoor
open Go Go.RowKit

namespace fnExactReadDecimal
theorem walk (s : ByteArray) (hs : s.size ≤ maxLen) (w : World) (hv : Vars w) :
    Calls Tryd.prog 3 #[.string s] w fun e w' => e = .returned (.bool true) ∧ Below w.heap.size w w' := by
  unfold maxLen at hs
  by_cases hb : s.size ≤ 1048576
  · have hS := l01Value_any s hb w
    have hI := fun w' (h : Below w.heap.size w w') => implRead_any s hb w' (hv.stays h (Nat.le_refl _))
    cases hr : readDec s.data.toList with
    | none =>
      rw [hr] at hS
      simp only [hr] at hI
      clear hr
      unfold resInt at hS hI
      simp only at hS hI
      go_enter Tryd.func3, Tryd.ntmps3
      go_wp2_with (first | (go_at_call 6; go_in) | (go_at_call 16; refine hS.mono ?_; rintro e W1 ⟨rfl, hb1⟩; have Hb := Lib.hid hb1; clear hb1) | (go_at_call 7; refine (hI _ Hb.out).mono ?_; rintro e W2 ⟨rfl, hb1⟩; have Hb2 := Lib.hid hb1; clear hb1))
      go_ret
      exact ⟨rfl, Hb.out.trans (Hb2.out.mono Hb.out.size)⟩
    | some n =>
      rw [hr] at hS
      simp only [hr] at hI
      clear hr
      unfold resInt at hS hI
      simp only at hS hI
      go_enter Tryd.func3, Tryd.ntmps3
      go_wp2_with (first | (go_at_call 6; go_in) | (go_at_call 16; refine hS.mono ?_; rintro e W1 ⟨rfl, hb1⟩; have Hb := Lib.hid hb1; clear hb1) | (go_at_call 7; refine (hI _ Hb.out).mono ?_; rintro e W2 ⟨rfl, hb1⟩; have Hb2 := Lib.hid hb1; clear hb1))
      go_ret
      exact ⟨rfl, Hb.out.trans (Hb2.out.mono Hb.out.size)⟩
  · have hs' : 1048576 < (s.size : Int) := by omega
    go_enter Tryd.func3, Tryd.ntmps3
    go_wp2
    go_ret
    exact ⟨rfl, Below.refl _ _⟩
end fnExactReadDecimal
end Go.Proofs.YtbidjhpllnabkaaDoor
