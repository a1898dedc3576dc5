/-
  Walks: absolute values, infinities, finiteness. No theorem of a claim stands here.
-/
import Derived.Test.YtceeeeggehlglacSame
import Derived.Test.YtceeeeggehlglacFe
set_option linter.unusedVariables false
namespace Go.Proofs.Ytceeeeggehlglac.Fl
open Go Go.RowKit

theorem and_abs (b : Nat) : b &&& 9223372036854775807 = b % 9223372036854775808 := Nat.and_two_pow_sub_one_eq_mod b 63

theorem bits_abs (b : Nat) (hb : b < 2 ^ 64) : bits BinOp.andNot IntKind.u64 (b : Int) 9223372036854775808 = ((b % 9223372036854775808 : Nat) : Int) := by
  have h := u64_andNot_nat b 9223372036854775808 (by omega) (by decide)
  rw [show 18446744073709551615 - 9223372036854775808 = 9223372036854775807 from rfl, and_abs] at h
  exact h

theorem abs_any (b : Nat) (hb : b < 2 ^ 64) (w : World) : Calls Try.prog 23 #[.float .f64 b] w (VRet (.float .f64 (b % 9223372036854775808)) w) := by
  have h1 := run_f64bits b
  have h2 := run_f64frombits
  have hb2 : (b : Int) ≤ 18446744073709551615 := by omega
  go_enter Try.func23, Try.ntmps23
  go_wp2
  go_ret
  refine ⟨0, ?_, rfl⟩
  show Ending.returned (.float .f64 (bits BinOp.andNot IntKind.u64 (b : Int) 9223372036854775808).toNat) = _
  rw [bits_abs b hb, Int.toNat_natCast]

theorem lt_abs (b : Nat) : b % 9223372036854775808 < 2 ^ 64 := by omega

theorem vl_abs (b : Nat) : (vl .f64 (b % 9223372036854775808)).isNone = (vl .f64 b).isNone := by
  have h : (FloatKind.f64.decode (b % 9223372036854775808)).isNaN = (FloatKind.f64.decode b).isNaN := by
    show (FloatKind.f64.format.read _).isNaN = (FloatKind.f64.format.read _).isNaN
    rw [isNaN_read, isNaN_read]
    have := rung_abs b
    unfold rung at this
    rw [this]
  unfold vl
  rw [h]
  split <;> rfl

/-- Is it an infinity? -/
def inf (x : Option Nat) : Bool := x.isSome && !fin .f64 x

theorem isInf_test (b : Nat) : (FloatKind.f64.format.order (b % 9223372036854775808) 9218868437227405311 == some .gt) = inf (vl .f64 b) := by
  rcases vl_cases .f64 b with h | h
  · have h2 : vl .f64 (b % 9223372036854775808) = none := by
      have := vl_abs b; rw [h] at this; simpa using this
    rw [order_vl, h2, h]; rfl
  · rw [gt_max b _ rfl h, h]; rfl


theorem fin_split (x : Option Nat) : fin .f64 x = (!x.isNone && !inf x) := by
  unfold inf
  cases x with
  | none => rfl
  | some b => simp



end Go.Proofs.Ytceeeeggehlglac.Fl
