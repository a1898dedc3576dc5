/-
  Complex numbers: widened, compared; 8 digits read in the model. No theorem of a claim stands here.
-/
import Derived.Test.YtilebahnfbepgaaDoorMarksF
set_option linter.unusedVariables false
namespace Go.Proofs.YtilebahnfbepgaaDoor
open Go Go.RowKit Go.Deep Go.Proofs.YtilebahnfbepgaaDoor.Fl

theorem cv_f (b : Nat) (w : World) : (Conv.floatToFloat .f32 b .f64).run Tryd.prog w = .ok (.float .f64 (cvv b w)) (w.drewN (cvn b)) := by
  have h := run_cv b w
  simpa [convert, run_underlying Tryd.underlying44, run_underlying Tryd.underlying42] using h

theorem run_ccv (re im : Nat) (w : World) : (convert 38 41 (.complex .f32 re im)).run Tryd.prog w = .ok (.complex .f64 (cvv re w) (cvv im (w.drewN (cvn re)))) (w.drewN (cvn re + cvn im)) := by
  simp [convert, run_underlying Tryd.underlying38, run_underlying Tryd.underlying41, Conv.complexToComplex, cv_f, World.drewN_drewN]
end Go.Proofs.YtilebahnfbepgaaDoor
