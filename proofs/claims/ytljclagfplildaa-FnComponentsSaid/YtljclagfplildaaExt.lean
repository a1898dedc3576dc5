/-
  What the library's functions without a body give at this program: bits of floats, square roots, floors. No theorem of a claim stands here.
-/
import Derived.Test.YtljclagfplildaaRows
import Derived.Test.YtljclagfplildaaFw
import Derived.Test.YtljclagfplildaaFm
import Derived.Test.YtljclagfplildaaOpen
import Derived.Lib.Hide
import Derived.Outline
import Derived.OwnWalk
set_option linter.unusedVariables false
namespace Go.Proofs.Ytljclagfplildaa.Fl
open Go Go.RowKit

theorem run_f32bits (b : Nat) (w : World) : (callFunc 203 #[.float .f32 b]).run Try.prog w = .ok (.value (.int .u32 b)) w := by
  rw [run_callFunc_extern (e := Extern.MathFloatBits.float32bits) Try.func203 (by kernel_rfl) (by kernel_rfl) (by kernel_rfl) (by kernel_rfl)]; rfl

theorem run_f32frombits (n : Int) (w : World) : (callFunc 225 #[.int .u32 n]).run Try.prog w = .ok (.value (.float .f32 n.toNat)) w := by
  rw [run_callFunc_extern (e := Extern.MathFloatBits.float32frombits) Try.func225 (by kernel_rfl) (by kernel_rfl) (by kernel_rfl) (by kernel_rfl)]; rfl

theorem run_f64bits (b : Nat) (w : World) : (callFunc 155 #[.float .f64 b]).run Try.prog w = .ok (.value (.int .u64 b)) w := by
  rw [run_callFunc_extern (e := Extern.MathFloatBits.float64bits) Try.func155 (by kernel_rfl) (by kernel_rfl) (by kernel_rfl) (by kernel_rfl)]; rfl

theorem run_f64frombits (n : Int) (w : World) : (callFunc 154 #[.int .u64 n]).run Try.prog w = .ok (.value (.float .f64 n.toNat)) w := by
  rw [run_callFunc_extern (e := Extern.MathFloatBits.float64frombits) Try.func154 (by kernel_rfl) (by kernel_rfl) (by kernel_rfl) (by kernel_rfl)]; rfl
end Go.Proofs.Ytljclagfplildaa.Fl
