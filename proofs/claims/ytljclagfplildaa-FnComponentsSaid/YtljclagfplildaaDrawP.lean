/-
  Phases that are drawn. No theorem of a claim stands here.
-/
import Derived.Test.YtljclagfplildaaDrawN
import Derived.Deep.QuietTactic
set_option linter.unusedVariables false
namespace Go.Proofs.Ytljclagfplildaa
open Go Go.RowKit Go.Deep Go.Proofs.Ytljclagfplildaa.Fl

def three (x y z : Value) : Nat → Value := fun j => if j = 0 then x else if j = 1 then y else z
theorem new3 (w : World) (x y z : Value) (t : TypeId) : (w.alloc (.cells #[x, y, z] t)).rowIs w.heap.size t 3 (three x y z) :=
  World.rowIs_alloc w #[x, y, z] t _ (fun i hi => by
    match i, hi with
    | 0, _ => rfl
    | 1, _ => rfl
    | 2, _ => rfl)
theorem set3a {w : World} {g t : Nat} {x y z : Value} (h : w.rowIs g t 3 (three x y z)) (u : Value) : (w.setCell ⟨g, 0, none⟩ u).rowIs g t 3 (three u y z) :=
  (h.set 0 u).congr fun j hj => by
    match j, hj with
    | 0, _ => rfl
    | 1, _ => rfl
    | 2, _ => rfl
theorem set3b {w : World} {g t : Nat} {x y z : Value} (h : w.rowIs g t 3 (three x y z)) (u : Value) : (w.setCell ⟨g, 1, none⟩ u).rowIs g t 3 (three x u z) :=
  (h.set 1 u).congr fun j hj => by
    match j, hj with
    | 0, _ => rfl
    | 1, _ => rfl
    | 2, _ => rfl
theorem set3c {w : World} {g t : Nat} {x y z : Value} (h : w.rowIs g t 3 (three x y z)) (u : Value) : (w.setCell ⟨g, 2, none⟩ u).rowIs g t 3 (three x y u) :=
  (h.set 2 u).congr fun j hj => by
    match j, hj with
    | 0, _ => rfl
    | 1, _ => rfl
    | 2, _ => rfl
end Go.Proofs.Ytljclagfplildaa
