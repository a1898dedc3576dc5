/-
  What the library's functions without a body give at this program: bits of floats, square roots, floors. No theorem of a claim stands here.
-/
import Derived.Test.YtbcjgjdkapdihabRows
import Derived.Test.YtbcjgjdkapdihabFw
import Derived.Test.YtbcjgjdkapdihabFm
import Derived.Test.YtbcjgjdkapdihabOpen
import Derived.Lib.Hide
import Derived.Outline
import Derived.OwnWalk
set_option linter.unusedVariables false
namespace Go.Proofs.Ytbcjgjdkapdihab.Fl
open Go Go.RowKit




end Go.Proofs.Ytbcjgjdkapdihab.Fl
