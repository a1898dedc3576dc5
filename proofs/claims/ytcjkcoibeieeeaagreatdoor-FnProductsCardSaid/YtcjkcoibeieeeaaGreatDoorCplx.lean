/-
  Complex numbers: widened, compared; 8 digits read in the model. No theorem of a claim stands here.
-/
import Derived.Test.YtcjkcoibeieeeaaGreatDoorReadJ
import Derived.Test.YtcjkcoibeieeeaaGreatDoorOwnF
set_option linter.unusedVariables false
namespace Go.Proofs.YtcjkcoibeieeeaaGreatDoor
open Go Go.RowKit Go.Deep Go.Proofs.YtcjkcoibeieeeaaGreatDoor.Fl

theorem cv_f (b : Nat) (w : World) : (Conv.floatToFloat .f32 b .f64).run Tryz.prog w = .ok (.float .f64 (cvv b w)) (w.drewN (cvn b)) := by
  have h := run_cv b w
  simpa [convert, run_underlying Tryz.underlying24, run_underlying Tryz.underlying44] using h

theorem run_ccv (re im : Nat) (w : World) : (convert 42 55 (.complex .f32 re im)).run Tryz.prog w = .ok (.complex .f64 (cvv re w) (cvv im (w.drewN (cvn re)))) (w.drewN (cvn re + cvn im)) := by
  simp [convert, run_underlying Tryz.underlying42, run_underlying Tryz.underlying55, Conv.complexToComplex, cv_f, World.drewN_drewN]
end Go.Proofs.YtcjkcoibeieeeaaGreatDoor
