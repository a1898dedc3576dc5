/-
  What the library's functions without a body give at this program: bits of floats, square roots, floors. No theorem of a claim stands here.
-/
import Derived.Test.YtceeeeggehlglaaRows
import Derived.Test.YtceeeeggehlglaaFw
import Derived.Test.YtceeeeggehlglaaFm
import Derived.Test.YtceeeeggehlglaaOpen
import Derived.Lib.Hide
import Derived.Outline
import Derived.OwnWalk
set_option linter.unusedVariables false
namespace Go.Proofs.Ytceeeeggehlglaa.Fl
open Go Go.RowKit

theorem run_f32bits (b : Nat) (w : World) : (callFunc 62 #[.float .f32 b]).run Try.prog w = .ok (.value (.int .u32 b)) w := by
  rw [run_callFunc_extern (e := Extern.MathFloatBits.float32bits) Try.func62 (by kernel_rfl) (by kernel_rfl) (by kernel_rfl) (by kernel_rfl)]; rfl

theorem run_f32frombits (n : Int) (w : World) : (callFunc 65 #[.int .u32 n]).run Try.prog w = .ok (.value (.float .f32 n.toNat)) w := by
  rw [run_callFunc_extern (e := Extern.MathFloatBits.float32frombits) Try.func65 (by kernel_rfl) (by kernel_rfl) (by kernel_rfl) (by kernel_rfl)]; rfl

theorem run_f64bits (b : Nat) (w : World) : (callFunc 68 #[.float .f64 b]).run Try.prog w = .ok (.value (.int .u64 b)) w := by
  rw [run_callFunc_extern (e := Extern.MathFloatBits.float64bits) Try.func68 (by kernel_rfl) (by kernel_rfl) (by kernel_rfl) (by kernel_rfl)]; rfl

theorem run_f64frombits (n : Int) (w : World) : (callFunc 67 #[.int .u64 n]).run Try.prog w = .ok (.value (.float .f64 n.toNat)) w := by
  rw [run_callFunc_extern (e := Extern.MathFloatBits.float64frombits) Try.func67 (by kernel_rfl) (by kernel_rfl) (by kernel_rfl) (by kernel_rfl)]; rfl
end Go.Proofs.Ytceeeeggehlglaa.Fl
