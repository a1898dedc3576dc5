/-
  Phases times a number; lengths of zeros. No theorem of a claim stands here.
-/
import Derived.Test.YtljclagfplildaaTake
set_option linter.unusedVariables false
set_option linter.unusedSimpArgs false
set_option maxRecDepth 8000
namespace Go.Proofs.Ytljclagfplildaa
open Go Go.RowKit Go.Deep Go.Proofs.Ytljclagfplildaa.Fl

theorem mulNV_any {a b r : Nat} (h : fop .mul .f32 (vl .f32 a) (vl .f32 b) = some r) (w : World) : Calls Try.prog 193 #[.float .f32 a, .float .f32 b] w (RB (.float .f32 r) w) := by
  have hm := fun w : World => run_float_arith (P := Try.prog) w .mul 28 .f32 a b r (by rw [floatBits_vl]; exact h)
  clear h
  go_enter Try.func193, Try.ntmps193
  go_wp2
  go_ret
  exact ⟨rfl, Below.refl _ _⟩
theorem scaleV_any {a b c r s : Nat} (h1 : fop .mul .f32 (vl .f32 a) (vl .f32 c) = some r) (h2 : fop .mul .f32 (vl .f32 b) (vl .f32 c) = some s) (w : World) : Calls Try.prog 137 #[.complex .f32 a b, .float .f32 c] w (RB (.complex .f32 r s) w) := by
  have hA := fun w' => mulNV_any h1 w'
  have hB := fun w' => mulNV_any h2 w'
  clear h1 h2
  go_enter Try.func137, Try.ntmps137
  go_wp2_with fail
  refine (hA _).mono ?_
  rintro e w1 ⟨rfl, hb⟩
  have H1 := Lib.hid hb
  clear hA hb
  go_wp2_with fail
  refine (hB _).mono ?_
  rintro e w2 ⟨rfl, hb⟩
  have H2 := Lib.hid (bel_then H1.out hb)
  clear hB hb
  go_wp2_with fail
  go_ret
  exact ⟨rfl, H2.out⟩
/-- The length of a zero is a zero. -/
theorem zero_bits {d b : Nat} (hb : b < 2 ^ 32) (h : Dy .f32 d b 0) : b = 0 ∨ b = 2147483648 := by
  have hr : rung .f32 b = 0 := by
    have h1 := h.2.1
    have hU0 : U .f32 0 = 0 := by decide
    have : U .f32 (rung .f32 b) = U .f32 0 := by
      rw [hU0]
      rw [Int.natAbs_zero, Nat.zero_mul] at h1
      rcases Nat.mul_eq_zero.1 h1 with h | h
      · exact h
      · exact absurd h (Nat.ne_of_gt (Nat.two_pow_pos _))
    exact U_inj this
  unfold rung at hr
  rw [sw32] at hr
  omega
theorem long_zero {d e a b : Nat} (la : a < 2 ^ 32) (lb : b < 2 ^ 32) (ha : Dy .f32 d a 0) (hb : Dy .f32 e b 0) : pwW a b = some 0 := by
  rcases zero_bits la ha with rfl | rfl <;> rcases zero_bits lb hb with rfl | rfl <;> decide
theorem longZ_any {a b : Nat} (h : pwW a b = some 0) (w : World) : Calls Try.prog 62 #[.complex .f32 a b] w (RB (.float .f32 0) w) := by
  have hP := fun w' => wideW_any a b w'
  rw [h] at hP
  clear h
  go_enter Try.func62, Try.ntmps62
  go_wp2_with fail
  refine (hP _).mono ?_
  rintro e w' ⟨x, n, rfl, hx, lx, rfl⟩
  obtain rfl := vl_some hx
  clear hx hP
  go_wp2_with fail
  refine (sqrt_any 0 _).mono ?_
  rintro e w' ⟨x2, n2, rfl, hx, lx2, rfl⟩
  have e0 : fsq (vl .f64 0) = some 0 := by decide
  rw [e0] at hx
  obtain rfl := vl_some hx
  clear hx e0
  go_wp2_with fail
  refine (narrow_any 0 (by decide) (by decide) _).mono ?_
  rintro e w' ⟨x3, n3, rfl, hx, lx3, rfl⟩
  have e0 : fcv .f64 .f32 (vl .f64 0) = some 0 := by decide
  rw [e0] at hx
  obtain rfl := vl_some hx
  clear hx e0
  go_wp2_with fail
  go_ret
  exact ⟨rfl, (Grown.drawn w _).2⟩
theorem apartZ_any {a b c d r s : Nat} (h1 : fop .sub .f32 (vl .f32 a) (vl .f32 c) = some r) (h2 : fop .sub .f32 (vl .f32 b) (vl .f32 d) = some s) (h : pwW r s = some 0) (w : World) :
    Calls Try.prog 54 #[.complex .f32 a b, .complex .f32 c d] w (RB (.float .f64 0) w) := by
  have hL := fun w' => longZ_any h w'
  have hc := run_csum .sub (.inr rfl) 25 h1 h2
  have hv := run_cv 0
  have e1 : ∀ w, cvv 0 w = 0 := fun w => by
    have := vl_cvv 0 w
    have e0 : fcv .f32 .f64 (vl .f32 0) = some 0 := by decide
    rw [e0] at this
    exact vl_some this
  clear h1 h2 h
  go_enter Try.func54, Try.ntmps54
  go_wp2_with fail
  refine (hL _).mono ?_
  rintro e w1 ⟨rfl, hb⟩
  have H1 := Lib.hid hb
  clear hL hb
  go_wp2_with fail
  go_ret
  exact ⟨rfl, H1.out.trans ((Grown.drawn w1 _).2.mono H1.out.size)⟩
end Go.Proofs.Ytljclagfplildaa
