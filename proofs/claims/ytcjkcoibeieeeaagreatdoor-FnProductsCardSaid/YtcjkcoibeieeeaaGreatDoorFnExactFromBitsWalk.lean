/-
  The walk of the law on numbers from bits.
-/
import Derived.Test.YtcjkcoibeieeeaaGreatDoorSame
set_option linter.unusedVariables false
namespace Go.Proofs.YtcjkcoibeieeeaaGreatDoor.fnExactFromBits
open Go Go.RowKit Go.Proofs.YtcjkcoibeieeeaaGreatDoor.Fl

def fromBits (n : Int) : Nat := if 0 ≤ n ∧ n ≤ 4294967295 then n.toNat else 0
def fromBitsOk (n : Int) : Bool := decide (0 ≤ n ∧ n ≤ 4294967295)

theorem impl_any (n : Int) (w : World) : Calls Tryz.prog 7 #[.int .i64 n] w (VRet (.tuple #[.float .f32 (fromBits n), .bool (fromBitsOk n)]) w) := by
  have hf := run_f32frombits
  by_cases c1 : n < 0
  · have e1 : fromBits n = 0 := if_neg (by omega)
    have e2 : fromBitsOk n = false := decide_eq_false (by omega)
    rw [e1, e2]; clear e1 e2
    go_enter Tryz.func7, Tryz.ntmps7
    go_wp2
    go_ret2
    exact ⟨0, rfl, rfl⟩
  · by_cases c2 : 4294967295 < n
    · have e1 : fromBits n = 0 := if_neg (by omega)
      have e2 : fromBitsOk n = false := decide_eq_false (by omega)
      rw [e1, e2]; clear e1 e2
      have d1 : decide (n ≤ 4294967295) = false := by simp; omega
      have d2 : decide (4294967295 < n) = true := by simp; omega
      go_enter Tryz.func7, Tryz.ntmps7
      go_wp2
      go_ret2
      exact ⟨0, rfl, rfl⟩
    · have e1 : fromBits n = n.toNat := if_pos (by omega)
      have e2 : fromBitsOk n = true := decide_eq_true (by omega)
      rw [e1, e2]; clear e1 e2
      have d1 : decide (n ≤ 4294967295) = true := by simp; omega
      have d2 : decide (4294967295 < n) = false := by simp; omega
      go_enter Tryz.func7, Tryz.ntmps7
      go_wp2
      go_ret2
      exact ⟨0, rfl, rfl⟩

end Go.Proofs.YtcjkcoibeieeeaaGreatDoor.fnExactFromBits
