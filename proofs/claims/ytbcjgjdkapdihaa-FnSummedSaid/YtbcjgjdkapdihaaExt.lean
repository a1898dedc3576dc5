/-
  What the library's functions without a body give at this program: bits of floats, square roots, floors. No theorem of a claim stands here.
-/
import Derived.Test.YtbcjgjdkapdihaaRows
import Derived.Test.YtbcjgjdkapdihaaFw
import Derived.Test.YtbcjgjdkapdihaaFm
import Derived.Test.YtbcjgjdkapdihaaOpen
import Derived.Lib.Hide
import Derived.Outline
import Derived.OwnWalk
set_option linter.unusedVariables false
namespace Go.Proofs.Ytbcjgjdkapdihaa.Fl
open Go Go.RowKit

theorem run_f32bits (b : Nat) (w : World) : (callFunc 197 #[.float .f32 b]).run Try.prog w = .ok (.value (.int .u32 b)) w := by
  rw [run_callFunc_extern (e := Extern.MathFloatBits.float32bits) Try.func197 (by kernel_rfl) (by kernel_rfl) (by kernel_rfl) (by kernel_rfl)]; rfl

theorem run_f32frombits (n : Int) (w : World) : (callFunc 224 #[.int .u32 n]).run Try.prog w = .ok (.value (.float .f32 n.toNat)) w := by
  rw [run_callFunc_extern (e := Extern.MathFloatBits.float32frombits) Try.func224 (by kernel_rfl) (by kernel_rfl) (by kernel_rfl) (by kernel_rfl)]; rfl

theorem run_f64bits (b : Nat) (w : World) : (callFunc 154 #[.float .f64 b]).run Try.prog w = .ok (.value (.int .u64 b)) w := by
  rw [run_callFunc_extern (e := Extern.MathFloatBits.float64bits) Try.func154 (by kernel_rfl) (by kernel_rfl) (by kernel_rfl) (by kernel_rfl)]; rfl

theorem run_f64frombits (n : Int) (w : World) : (callFunc 153 #[.int .u64 n]).run Try.prog w = .ok (.value (.float .f64 n.toNat)) w := by
  rw [run_callFunc_extern (e := Extern.MathFloatBits.float64frombits) Try.func153 (by kernel_rfl) (by kernel_rfl) (by kernel_rfl) (by kernel_rfl)]; rfl
end Go.Proofs.Ytbcjgjdkapdihaa.Fl
