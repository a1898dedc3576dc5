/-
  What the library's functions without a body give at this program: bits of floats, square roots, floors. No theorem of a claim stands here.
-/
import Derived.Test.YthkjikennlaelaaRows
import Derived.Test.YthkjikennlaelaaFw
import Derived.Test.YthkjikennlaelaaFm
import Derived.Test.YthkjikennlaelaaOpen
import Derived.Lib.Hide
import Derived.Outline
import Derived.OwnWalk
set_option linter.unusedVariables false
namespace Go.Proofs.Ythkjikennlaelaa.Fl
open Go Go.RowKit

theorem run_f32bits (b : Nat) (w : World) : (callFunc 77 #[.float .f32 b]).run Try.prog w = .ok (.value (.int .u32 b)) w := by
  rw [run_callFunc_extern (e := Extern.MathFloatBits.float32bits) Try.func77 (by kernel_rfl) (by kernel_rfl) (by kernel_rfl) (by kernel_rfl)]; rfl


theorem run_f64bits (b : Nat) (w : World) : (callFunc 82 #[.float .f64 b]).run Try.prog w = .ok (.value (.int .u64 b)) w := by
  rw [run_callFunc_extern (e := Extern.MathFloatBits.float64bits) Try.func82 (by kernel_rfl) (by kernel_rfl) (by kernel_rfl) (by kernel_rfl)]; rfl

theorem run_f64frombits (n : Int) (w : World) : (callFunc 81 #[.int .u64 n]).run Try.prog w = .ok (.value (.float .f64 n.toNat)) w := by
  rw [run_callFunc_extern (e := Extern.MathFloatBits.float64frombits) Try.func81 (by kernel_rfl) (by kernel_rfl) (by kernel_rfl) (by kernel_rfl)]; rfl
end Go.Proofs.Ythkjikennlaelaa.Fl
