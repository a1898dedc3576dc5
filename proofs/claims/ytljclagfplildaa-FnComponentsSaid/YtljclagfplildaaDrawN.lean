/-
  Complex numbers and phases that are drawn. No theorem of a claim stands here.
-/
import Derived.Test.YtljclagfplildaaDrawF
set_option linter.unusedVariables false
namespace Go.Proofs.Ytljclagfplildaa
open Go Go.RowKit Go.Deep Go.Proofs.Ytljclagfplildaa.Fl

def DC (p : Nat) (a : Option Addr) (len cap i c : Nat) (w : World) (e : Ending) (w' : World) : Prop :=
  ∃ (re im j : Nat), e = .returned (.complex .f32 re im) ∧ re < 2 ^ 32 ∧ im < 2 ^ 32 ∧ j ≤ i + c ∧ Src w' p a len cap j ∧ w.grownBy w' (some p)

end Go.Proofs.Ytljclagfplildaa
