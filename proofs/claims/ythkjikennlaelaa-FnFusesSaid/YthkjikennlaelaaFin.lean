/-
  Walks: absolute values, infinities, finiteness. No theorem of a claim stands here.
-/
import Derived.Test.YthkjikennlaelaaSame
import Derived.Test.YthkjikennlaelaaFe
set_option linter.unusedVariables false
namespace Go.Proofs.Ythkjikennlaelaa.Fl
open Go Go.RowKit

theorem and_abs (b : Nat) : b &&& 9223372036854775807 = b % 9223372036854775808 := Nat.and_two_pow_sub_one_eq_mod b 63

theorem bits_abs (b : Nat) (hb : b < 2 ^ 64) : bits BinOp.andNot IntKind.u64 (b : Int) 9223372036854775808 = ((b % 9223372036854775808 : Nat) : Int) := by
  have h := u64_andNot_nat b 9223372036854775808 (by omega) (by decide)
  rw [show 18446744073709551615 - 9223372036854775808 = 9223372036854775807 from rfl, and_abs] at h
  exact h

theorem abs_any (b : Nat) (hb : b < 2 ^ 64) (w : World) : Calls Try.prog 80 #[.float .f64 b] w (VRet (.float .f64 (b % 9223372036854775808)) w) := by
  have h1 := run_f64bits b
  have h2 := run_f64frombits
  have hb2 : (b : Int) ≤ 18446744073709551615 := by omega
  go_enter Try.func80, Try.ntmps80
  go_wp2
  go_ret
  refine ⟨0, ?_, rfl⟩
  show Ending.returned (.float .f64 (bits BinOp.andNot IntKind.u64 (b : Int) 9223372036854775808).toNat) = _
  rw [bits_abs b hb, Int.toNat_natCast]

theorem lt_abs (b : Nat) : b % 9223372036854775808 < 2 ^ 64 := by omega

theorem vl_abs (b : Nat) : (vl .f64 (b % 9223372036854775808)).isNone = (vl .f64 b).isNone := by
  have h : (FloatKind.f64.decode (b % 9223372036854775808)).isNaN = (FloatKind.f64.decode b).isNaN := by
    show (FloatKind.f64.format.read _).isNaN = (FloatKind.f64.format.read _).isNaN
    rw [isNaN_read, isNaN_read]
    have := rung_abs b
    unfold rung at this
    rw [this]
  unfold vl
  rw [h]
  split <;> rfl

/-- Is it an infinity? -/
def inf (x : Option Nat) : Bool := x.isSome && !fin .f64 x

theorem isInf_test (b : Nat) : (FloatKind.f64.format.order (b % 9223372036854775808) 9218868437227405311 == some .gt) = inf (vl .f64 b) := by
  rcases vl_cases .f64 b with h | h
  · have h2 : vl .f64 (b % 9223372036854775808) = none := by
      have := vl_abs b; rw [h] at this; simpa using this
    rw [order_vl, h2, h]; rfl
  · rw [gt_max b _ rfl h, h]; rfl

theorem isInf_any (b : Nat) (hb : b < 2 ^ 64) (w : World) : Calls Try.prog 79 #[.float .f64 b, .int .i64 0] w (VRet (.bool (inf (vl .f64 b))) w) := by
  go_enter Try.func79, Try.ntmps79
  go_wp2_with (go_at_call 80; refine (abs_any _ hb _).mono ?_; rintro e w' ⟨m, rfl, rfl⟩)
  go_ret
  exact ⟨_, by rw [← isInf_test]; rfl, rfl⟩

theorem fin_split (x : Option Nat) : fin .f64 x = (!x.isNone && !inf x) := by
  unfold inf
  cases x with
  | none => rfl
  | some b => simp

theorem isFiniteWide_any (b : Nat) (hb : b < 2 ^ 64) (w : World) : Calls Try.prog 75 #[.float .f64 b] w (VRet (.bool (fin .f64 (vl .f64 b))) w) := by
  have hs := fin_split (vl .f64 b)
  cases h1 : (vl .f64 b).isNone
  · rw [h1] at hs
    have H1 := Lib.hid h1; clear h1
    have Hs := Lib.hid hs; clear hs
    go_enter Try.func75, Try.ntmps75
    go_wp2_with (first | (go_at_call 76; refine (isNaN_any _ _).mono ?_; rintro e w' ⟨m, rfl, rfl⟩; rw [H1.out]) | (go_at_call 79; refine (isInf_any _ hb _).mono ?_; rintro e w' ⟨m, rfl, rfl⟩))
    go_ret
    first | exact ⟨_, by rw [Hs.out]; rfl, rfl⟩ | exact ⟨_, by rw [Hs.out]; rfl, World.drewN_drewN _ _ _⟩
  · rw [h1] at hs
    have H1 := Lib.hid h1; clear h1
    have Hs := Lib.hid hs; clear hs
    go_enter Try.func75, Try.ntmps75
    go_wp2_with (first | (go_at_call 76; refine (isNaN_any _ _).mono ?_; rintro e w' ⟨m, rfl, rfl⟩; rw [H1.out]) | (go_at_call 79; refine (isInf_any _ hb _).mono ?_; rintro e w' ⟨m, rfl, rfl⟩))
    go_ret
    exact ⟨_, by rw [Hs.out]; rfl, rfl⟩

theorem isFinite_any (b : Nat) (hb : b < 2 ^ 32) (w : World) : Calls Try.prog 70 #[.float .f32 b] w (VRet (.bool (fin .f32 (vl .f32 b))) w) := by
  have Hw := Lib.hid (fin_widen b)
  go_enter Try.func70, Try.ntmps70
  go_wp2_with (first | (refine wpList_fcv (by rfl) 28 51 _ (by rfl) .f32 .f64 isSome_f32 Try.underlying51 b (by rfl) hb (over_widen' b) ?_; intro r n hr hv) | (go_at_call 75; refine (isFiniteWide_any _ (by assumption) _).mono ?_; rintro e w' ⟨m, rfl, rfl⟩))
  go_ret
  first | exact ⟨_, by rw [← Hw.out, ← hv.out]; rfl, rfl⟩ | exact ⟨_, by rw [← Hw.out, ← hv.out]; rfl, World.drewN_drewN _ _ _⟩

theorem l01Finite_any (b : Nat) (hb : b < 2 ^ 32) (w : World) : Calls Try.prog 73 #[.float .f32 b] w (VRet (.bool (fin .f32 (vl .f32 b))) w) := by
  have Hw := Lib.hid (sub_self .f32 b)
  go_enter Try.func73, Try.ntmps73
  go_wp2_with (refine wpList_fop (by rfl) _ _ _ _ _ (by rfl) (by rfl) _ _ _ (by rfl) (by rfl) ?_; intro r n hr hv)
  go_ret
  exact ⟨_, by rw [← Hw.out, ← hv.out, ← order_vl]; rfl, rfl⟩
end Go.Proofs.Ythkjikennlaelaa.Fl
