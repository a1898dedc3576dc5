/-
  What the library's functions without a body give at this program: bits of floats, square roots, floors. No theorem of a claim stands here.
-/
import Derived.Test.YtilebahnfbepgaaDoorRows
import Derived.Test.YtilebahnfbepgaaDoorFw
import Derived.Test.YtilebahnfbepgaaDoorFm
import Derived.Test.YtilebahnfbepgaaDoorOpen
import Derived.Lib.Hide
import Derived.Outline
import Derived.OwnWalk
set_option linter.unusedVariables false
namespace Go.Proofs.YtilebahnfbepgaaDoor.Fl
open Go Go.RowKit

theorem run_f32bits (b : Nat) (w : World) : (callFunc 49 #[.float .f32 b]).run Tryd.prog w = .ok (.value (.int .u32 b)) w := by
  rw [run_callFunc_extern (e := Extern.MathFloatBits.float32bits) Tryd.func49 (by kernel_rfl) (by kernel_rfl) (by kernel_rfl) (by kernel_rfl)]; rfl

theorem run_f32frombits (n : Int) (w : World) : (callFunc 42 #[.int .u32 n]).run Tryd.prog w = .ok (.value (.float .f32 n.toNat)) w := by
  rw [run_callFunc_extern (e := Extern.MathFloatBits.float32frombits) Tryd.func42 (by kernel_rfl) (by kernel_rfl) (by kernel_rfl) (by kernel_rfl)]; rfl


end Go.Proofs.YtilebahnfbepgaaDoor.Fl
