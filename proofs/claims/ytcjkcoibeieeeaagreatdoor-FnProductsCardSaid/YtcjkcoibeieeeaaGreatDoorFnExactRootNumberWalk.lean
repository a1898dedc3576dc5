/-
  The walk of the law on roots.
-/
import Derived.Test.YtcjkcoibeieeeaaGreatDoorMath
set_option linter.unusedVariables false
namespace Go.Proofs.YtcjkcoibeieeeaaGreatDoor.fnExactRootNumber
open Go Go.RowKit Go.Proofs.YtcjkcoibeieeeaaGreatDoor.Fl

def rootV (b : Nat) : Option Nat := fcv .f64 .f32 (fsq (fcv .f32 .f64 (vl .f32 b)))

theorem spec_any (b : Nat) (hb : b < 2 ^ 32) (w : World) : Calls Tryz.prog 63 #[.float .f32 b] w (FRet .f32 (rootV b) w) := by
  go_enter Tryz.func63, Tryz.ntmps63
  go_wp2_with (first | (refine wpList_fcv_g (by rfl) 24 44 _ (by rfl) .f32 .f64 isSome_f32 Tryz.underlying44 b (by rfl) hb (over_widen' b) ?_; intro r n hr hv) | (go_at_call 62; refine (sqrt_any _ _).mono ?_; rintro e w' ⟨q, m, rfl, hq, hq2, rfl⟩; have Hq := Lib.hid hq; clear hq) | (go_at_call 90; refine (l01Narrow_any _ (by assumption) (by rw [Hq.out, hv.out]; exact over_root b) _).mono ?_; rintro e w' ⟨q3, m3, rfl, hq3, hq4, rfl⟩; have Hq3 := Lib.hid hq3; clear hq3))
  go_ret
  exact ⟨q3, _, rfl, by rw [Hq3.out, Hq.out, hv.out]; rfl, hq4, rfl⟩

end Go.Proofs.YtcjkcoibeieeeaaGreatDoor.fnExactRootNumber
