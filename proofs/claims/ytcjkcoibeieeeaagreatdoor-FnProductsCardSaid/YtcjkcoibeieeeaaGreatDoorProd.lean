/-
  Products, powers and quotients of complex numbers whose parts are whole numbers. No theorem of a claim stands here.
-/
import Derived.Test.YtcjkcoibeieeeaaGreatDoorWhole
import Derived.Test.YtcjkcoibeieeeaaGreatDoorMath
import Derived.Test.YtcjkcoibeieeeaaGreatDoorCv
import Derived.Test.YtcjkcoibeieeeaaGreatDoorFnExactRootNumberWalk
import Derived.Laws.ComplexArith
set_option linter.unusedVariables false
set_option linter.unusedSimpArgs false
set_option maxRecDepth 8000
namespace Go.Proofs.YtcjkcoibeieeeaaGreatDoor.Fl
open Go Go.RowKit

theorem negf_mod (b : Nat) : Op.negFloat .f32 b % FloatKind.f32.format.signWeight = b % FloatKind.f32.format.signWeight := by
  have e3 : FloatKind.f32.format.signWeight = 2 ^ 31 := by decide
  unfold Op.negFloat
  rw [e3, show FloatKind.f32.format.exponentBits + FloatKind.f32.format.fractionBits = 31 from rfl, Nat.xor_mod_two_pow, Nat.mod_self, Nat.xor_zero]
theorem negf_lt {b : Nat} (h : b < 2 ^ 32) : Op.negFloat .f32 b < 2 ^ 32 := Nat.xor_lt_two_pow h (by decide)
theorem negf_negf (b : Nat) : Op.negFloat .f32 (Op.negFloat .f32 b) = b := by
  unfold Op.negFloat
  rw [Nat.xor_assoc, Nat.xor_self, Nat.xor_zero]
theorem negf_neg {b : Nat} (h : b < 2 ^ 32) : neg .f32 (Op.negFloat .f32 b) = !neg .f32 b := by
  have h1 := negf_mod b
  have h2 := negf_lt h
  have h3 : Op.negFloat .f32 b ≠ b := by
    intro e
    have h4 := congrArg (b ^^^ ·) e
    simp only [Op.negFloat] at h4
    rw [← Nat.xor_assoc, Nat.xor_self, Nat.zero_xor] at h4
    revert h4
    decide
  rw [show FloatKind.f32.format.signWeight = 2147483648 by decide] at h1
  unfold neg
  rw [show FloatKind.f32.format.signWeight = 2147483648 by decide]
  generalize Op.negFloat .f32 b = x at *
  have h5 : b / 2147483648 = 0 ∨ b / 2147483648 = 1 := by omega
  have h6 : x / 2147483648 = 0 ∨ x / 2147483648 = 1 := by omega
  rcases h5 with h5 | h5 <;> rcases h6 with h6 | h6
  · exact absurd (show x = b by omega) h3
  · rw [h5, h6]; rfl
  · rw [h5, h6]; rfl
  · exact absurd (show x = b by omega) h3
theorem wh_negf {b : Nat} {n : Int} (h : b < 2 ^ 32) (hw : Wh .f32 b n) : Wh .f32 (Op.negFloat .f32 b) (-n) := by
  have hr : rung .f32 (Op.negFloat .f32 b) = rung .f32 b := negf_mod b
  refine ⟨by rw [hr]; exact hw.1, by rw [hr, hw.2.1, Int.natAbs_neg], fun h0 => ?_⟩
  have hn : n ≠ 0 := fun e => h0 (by rw [e]; rfl)
  rw [negf_neg h, hw.2.2 hn]
  by_cases hs : n < 0
  · rw [decide_eq_true hs, decide_eq_false (show ¬ -n < 0 by omega)]; rfl
  · rw [decide_eq_false hs, decide_eq_true (show -n < 0 by omega)]; rfl

theorem prodB {A C : Int} {x y : Nat} (h : A.natAbs ≤ x) (h2 : C.natAbs ≤ y) : (A * C).natAbs ≤ x * y := by
  rw [Int.natAbs_mul]; exact Nat.mul_le_mul h h2
theorem bin64w : FloatKind.f64.format.binade = 4503599627370496 := by decide
theorem bin32w : FloatKind.f32.format.binade = 8388608 := by decide

theorem wideProd_any (a b c d : Nat) (ha : a < 2 ^ 32) (hb : b < 2 ^ 32) (hc : c < 2 ^ 32) (hd : d < 2 ^ 32) (w : World) : Calls Tryz.prog 60 #[.complex .f32 a b, .complex .f32 c d] w fun e w' => ∃ x y n, e = .returned (.complex .f64 x y) ∧
    vl .f64 x = fop .sub .f64 (fop .mul .f64 (fcv .f32 .f64 (vl .f32 a)) (fcv .f32 .f64 (vl .f32 c))) (fop .mul .f64 (fcv .f32 .f64 (vl .f32 b)) (fcv .f32 .f64 (vl .f32 d))) ∧
    vl .f64 y = fop .add .f64 (fop .mul .f64 (fcv .f32 .f64 (vl .f32 a)) (fcv .f32 .f64 (vl .f32 d))) (fop .mul .f64 (fcv .f32 .f64 (vl .f32 b)) (fcv .f32 .f64 (vl .f32 c))) ∧ x < 2 ^ 64 ∧ y < 2 ^ 64 ∧ w' = w.drewN n := by
  have hadd := fun x y w => run_fov (P := Tryz.prog) .add rfl 44 .f64 x y w
  have hsub := fun x y w => run_fov (P := Tryz.prog) .sub rfl 44 .f64 x y w
  have hmul := fun x y w => run_fov (P := Tryz.prog) .mul rfl 44 .f64 x y w
  have hv1 := run_cv a
  have hv2 := run_cv b
  have hv3 := run_cv c
  have hv4 := run_cv d
  go_enter Tryz.func60, Tryz.ntmps60
  go_wp2
  go_ret
  refine ⟨_, _, _, rfl, ?_, ?_, fov_lt _ _ _ _ _, fov_lt _ _ _ _ _, rfl⟩
  · rw [vl_fov, vl_fov, vl_fov, vl_cvv, vl_cvv, vl_cvv, vl_cvv]
  · rw [vl_fov, vl_fov, vl_fov, vl_cvv, vl_cvv, vl_cvv, vl_cvv]
theorem widePow_any (a b : Nat) (ha : a < 2 ^ 32) (hb : b < 2 ^ 32) (w : World) : Calls Tryz.prog 61 #[.complex .f32 a b] w
    (FRet .f64 (fop .add .f64 (fop .mul .f64 (fcv .f32 .f64 (vl .f32 a)) (fcv .f32 .f64 (vl .f32 a))) (fop .mul .f64 (fcv .f32 .f64 (vl .f32 b)) (fcv .f32 .f64 (vl .f32 b)))) w) := by
  have hadd := fun x y w => run_fov (P := Tryz.prog) .add rfl 44 .f64 x y w
  have hmul := fun x y w => run_fov (P := Tryz.prog) .mul rfl 44 .f64 x y w
  have hv1 := run_cv a
  have hv2 := run_cv b
  go_enter Tryz.func61, Tryz.ntmps61
  go_wp2
  go_ret
  refine ⟨_, _, rfl, ?_, fov_lt _ _ _ _ _, rfl⟩
  rw [vl_fov, vl_fov, vl_fov, vl_cvv, vl_cvv]
theorem narrowCx (a b : Nat) (ha : a < 2 ^ 64) (hb : b < 2 ^ 64) (oa : over .f64 .f32 (vl .f64 a) = false) (ob : over .f64 .f32 (vl .f64 b) = false) (w : World) :
    Calls Tryz.prog 35 #[.complex .f64 a b] w fun e w' => ∃ x y n, e = .returned (.complex .f32 x y) ∧ vl .f32 x = fcv .f64 .f32 (vl .f64 a) ∧ vl .f32 y = fcv .f64 .f32 (vl .f64 b) ∧ x < 2 ^ 32 ∧ y < 2 ^ 32 ∧ w' = w.drewN n := by
  have hA := fun w' => narrow_any a ha oa w'
  have hB := fun w' => narrow_any b hb ob w'
  clear oa ob
  go_enter Tryz.func35, Tryz.ntmps35
  go_wp2_with fail
  refine (hA _).mono ?_
  rintro e w' ⟨q1, m1, rfl, h1, h2, rfl⟩
  have H1 := Lib.hid h1
  clear h1
  go_wp2_with fail
  refine (hB _).mono ?_
  rintro e w' ⟨q2, m2, rfl, h3, h4, rfl⟩
  have H3 := Lib.hid h3
  clear h3
  go_wp2_with fail
  go_ret
  exact ⟨_, _, _, rfl, H1.out, H3.out, h2, h4, rfl⟩

/-- A complex number with the whole parts n and m. -/
def CW (n m : Int) (w : World) (e : Ending) (w' : World) : Prop := ∃ re im c, e = .returned (.complex .f32 re im) ∧ Wh .f32 re n ∧ Wh .f32 im m ∧ re < 2 ^ 32 ∧ im < 2 ^ 32 ∧ w' = w.drewN c

theorem mulW {a b c d : Nat} {A B C D : Int} (la : a < 2 ^ 32) (lb : b < 2 ^ 32) (lc : c < 2 ^ 32) (ld : d < 2 ^ 32) (wa : Wh .f32 a A) (wb : Wh .f32 b B) (wc : Wh .f32 c C) (wd : Wh .f32 d D)
    (hA : A.natAbs ≤ 200) (hB : B.natAbs ≤ 200) (hC : C.natAbs ≤ 200) (hD : D.natAbs ≤ 200) (w : World) :
    Calls Tryz.prog 22 #[.complex .f32 a b, .complex .f32 c d] w (CW (A * C - B * D) (A * D + B * C) w) := by
  have p1 := prodB hA hC
  have p2 := prodB hB hD
  have p3 := prodB hA hD
  have p4 := prodB hB hC
  have va := (WhV.of wa).widen
  have vb := (WhV.of wb).widen
  have vc := (WhV.of wc).widen
  have vd := (WhV.of wd).widen
  have x1 := (va.mul vc (by rw [bin64w]; omega)).sub (vb.mul vd (by rw [bin64w]; omega)) (by rw [bin64w]; omega)
  have x2 := (va.mul vd (by rw [bin64w]; omega)).add (vb.mul vc (by rw [bin64w]; omega)) (by rw [bin64w]; omega)
  have n1 := x1.narrow (by omega)
  have n2 := x2.narrow (by omega)
  have hP := fun w' => wideProd_any a b c d la lb lc ld w'
  have N1 := Lib.hid n1
  have N2 := Lib.hid n2
  clear n1 n2 x1 x2 va vb vc vd p1 p2 p3 p4 wa wb wc wd hA hB hC hD
  go_enter Tryz.func22, Tryz.ntmps22
  go_wp2_with fail
  refine (hP _).mono ?_
  rintro e w' ⟨x, y, n, rfl, hx, hy, lx, ly, rfl⟩
  clear hP
  rw [← hx] at N1
  rw [← hy] at N2
  clear hx hy
  go_wp2_with fail
  refine (narrowCx x y lx ly N1.out.2 N2.out.2 _).mono ?_
  rintro e w' ⟨x2, y2, n2, rfl, hx, hy, lx2, ly2, rfl⟩
  rw [← hx] at N1
  rw [← hy] at N2
  clear hx hy
  go_wp2_with fail
  go_ret
  exact ⟨_, _, _, rfl, N1.out.1.wh, N2.out.1.wh, lx2, ly2, rfl⟩
theorem conj_any (a b : Nat) (w : World) : Calls Tryz.prog 24 #[.complex .f32 a b] w fun e w' => e = .returned (.complex .f32 a (Op.negFloat .f32 b)) ∧ w' = w := by
  have hn : ∀ w : World, (Op.unary UnOp.neg (.float .f32 b)).run Tryz.prog w = .ok (.float .f32 (Op.negFloat .f32 b)) w := fun w => rfl
  go_enter Tryz.func24, Tryz.ntmps24
  go_wp2
  go_ret
  exact ⟨rfl, rfl⟩
/-- The power, in 64 bits and in 32. -/
theorem pow_whole {a b : Nat} {A B : Int} (wa : Wh .f32 a A) (wb : Wh .f32 b B) (hA : A.natAbs ≤ 200) (hB : B.natAbs ≤ 200) :
    WhV .f64 (fop .add .f64 (fop .mul .f64 (fcv .f32 .f64 (vl .f32 a)) (fcv .f32 .f64 (vl .f32 a))) (fop .mul .f64 (fcv .f32 .f64 (vl .f32 b)) (fcv .f32 .f64 (vl .f32 b)))) (A * A + B * B) := by
  have p1 := prodB hA hA
  have p2 := prodB hB hB
  have va := (WhV.of wa).widen
  have vb := (WhV.of wb).widen
  exact (va.mul va (by rw [bin64w]; omega)).add (vb.mul vb (by rw [bin64w]; omega)) (by rw [bin64w]; omega)
theorem powW {a b : Nat} {A B : Int} (la : a < 2 ^ 32) (lb : b < 2 ^ 32) (wa : Wh .f32 a A) (wb : Wh .f32 b B) (hA : A.natAbs ≤ 200) (hB : B.natAbs ≤ 200) (w : World) :
    Calls Tryz.prog 23 #[.complex .f32 a b] w fun e w' => ∃ r n, e = .returned (.float .f32 r) ∧ Wh .f32 r (A * A + B * B) ∧ r < 2 ^ 32 ∧ w' = w.drewN n := by
  have p1 := prodB hA hA
  have p2 := prodB hB hB
  have N1 := Lib.hid ((pow_whole wa wb hA hB).narrow (by omega))
  have hP := fun w' => widePow_any a b la lb w'
  clear p1 p2 wa wb hA hB
  go_enter Tryz.func23, Tryz.ntmps23
  go_wp2_with fail
  refine (hP _).mono ?_
  rintro e w' ⟨x, n, rfl, hx, lx, rfl⟩
  rw [← hx] at N1
  clear hP hx
  go_wp2_with fail
  refine (narrow_any x lx N1.out.2 _).mono ?_
  rintro e w' ⟨x2, n2, rfl, hx, lx2, rfl⟩
  rw [← hx] at N1
  clear hx
  go_wp2_with fail
  go_ret
  exact ⟨_, _, rfl, N1.out.1.wh, lx2, rfl⟩
/-- The power of whole parts, in 64 bits, is the power told in 32 bits and widened: to the bit. -/
theorem pow_widened {a b : Nat} {A B : Int} (la : a < 2 ^ 32) (lb : b < 2 ^ 32) (wa : Wh .f32 a A) (wb : Wh .f32 b B) (hA : A.natAbs ≤ 200) (hB : B.natAbs ≤ 200) :
    fop .add .f64 (fop .mul .f64 (fcv .f32 .f64 (vl .f32 a)) (fcv .f32 .f64 (vl .f32 a))) (fop .mul .f64 (fcv .f32 .f64 (vl .f32 b)) (fcv .f32 .f64 (vl .f32 b))) = fcv .f32 .f64 (vl .f32 (floatOfInt .f32 (A * A + B * B))) := by
  have p1 := prodB hA hA
  have p2 := prodB hB hB
  have hsq : 0 ≤ A * A ∧ 0 ≤ B * B := ⟨by rcases Int.le_total 0 A with h | h; exact Int.mul_nonneg h h; exact Int.mul_nonneg_of_nonpos_of_nonpos h h, by rcases Int.le_total 0 B with h | h; exact Int.mul_nonneg h h; exact Int.mul_nonneg_of_nonpos_of_nonpos h h⟩
  obtain ⟨x, hx, wx⟩ := pow_whole wa wb hA hB
  obtain ⟨y, hy, wy⟩ := (WhV.of (wh_ofInt .f32 (A * A + B * B) (by rw [bin32w]; omega))).widen
  rw [hx, hy]
  congr 1
  have lx : x < 2 ^ 64 := by
    obtain ⟨r, h1, h2, h3, h4⟩ := fcv_some a (wh_vl wa)
    obtain ⟨q, g1, g2, g3, g4⟩ := fcv_some b (wh_vl wb)
    rw [h3, g3] at hx
    have := fov_lt .add .f64 (fov .mul .f64 r r default) (fov .mul .f64 q q default) default
    have e2 : vl .f64 (fov .add .f64 (fov .mul .f64 r r default) (fov .mul .f64 q q default) default) = some x := by
      rw [vl_fov .add, vl_fov .mul .f64 r r, vl_fov .mul .f64 q q, h2, g2]
      exact hx
    obtain rfl := vl_some e2
    exact this
  have ly : y < 2 ^ 64 := by
    obtain ⟨r, h1, h2, h3, h4⟩ := fcv_some (floatOfInt .f32 (A * A + B * B)) (wh_vl (wh_ofInt .f32 (A * A + B * B) (by rw [bin32w]; omega)))
    rw [h3] at hy
    cases hy
    exact h4
  refine wh_same64 lx ly wx wy ?_
  by_cases h0 : A * A + B * B = 0
  · -- both are +0
    have hA0 : A = 0 := by
      have : A * A = 0 := by omega
      rcases Int.mul_eq_zero.1 this with h | h <;> exact h
    have hB0 : B = 0 := by
      have : B * B = 0 := by omega
      rcases Int.mul_eq_zero.1 this with h | h <;> exact h
    subst hA0 hB0
    have hz : ∀ z, z < 2 ^ 32 → Wh .f32 z 0 → z = 0 ∨ z = 2147483648 := by
      intro z lz hz
      have hr : rung .f32 z = 0 := by
        have h1 := hz.2.1
        have hU0 : U .f32 0 = 0 := by unfold U; rw [if_pos (by decide)]
        have : U .f32 (rung .f32 z) = U .f32 0 := by rw [h1, hU0]; simp
        exact U_inj this
      unfold rung at hr
      rw [show FloatKind.f32.format.signWeight = 2147483648 by decide] at hr
      omega
    have e0 : floatOfInt .f32 (0 * 0 + 0 * 0) = 0 := by decide
    rw [e0] at hy
    have ey : fcv .f32 .f64 (vl .f32 0) = some 0 := by decide
    rw [ey] at hy
    cases hy
    have key : fop .add .f64 (fop .mul .f64 (fcv .f32 .f64 (vl .f32 a)) (fcv .f32 .f64 (vl .f32 a))) (fop .mul .f64 (fcv .f32 .f64 (vl .f32 b)) (fcv .f32 .f64 (vl .f32 b))) = some 0 := by
      rcases hz a la wa with rfl | rfl <;> rcases hz b lb wb with rfl | rfl <;> decide
    rw [key] at hx
    cases hx
    rfl
  · rw [wx.2.2 h0, wy.2.2 h0]
theorem longW {a b : Nat} {A B : Int} (la : a < 2 ^ 32) (lb : b < 2 ^ 32) (wa : Wh .f32 a A) (wb : Wh .f32 b B) (hA : A.natAbs ≤ 200) (hB : B.natAbs ≤ 200) (w : World) :
    Calls Tryz.prog 25 #[.complex .f32 a b] w (FRet .f32 (fnExactRootNumber.rootV (floatOfInt .f32 (A * A + B * B))) w) := by
  have hp := pow_widened la lb wa wb hA hB
  have hP := fun w' => widePow_any a b la lb w'
  rw [hp] at hP
  clear hp wa wb hA hB
  generalize floatOfInt .f32 (A * A + B * B) = P at *
  go_enter Tryz.func25, Tryz.ntmps25
  go_wp2_with fail
  refine (hP _).mono ?_
  rintro e w' ⟨x, n, rfl, hx, lx, rfl⟩
  have Hx := Lib.hid hx
  clear hx hP
  go_wp2_with fail
  refine (sqrt_any x _).mono ?_
  rintro e w' ⟨x2, n2, rfl, hx, lx2, rfl⟩
  rw [Hx.out] at hx
  have Hx2 := Lib.hid hx
  clear hx
  go_wp2_with fail
  refine (narrow_any x2 lx2 (by rw [Hx2.out]; exact over_root P) _).mono ?_
  rintro e w' ⟨x3, n3, rfl, hx, lx3, rfl⟩
  rw [Hx2.out] at hx
  have Hx3 := Lib.hid hx
  clear hx
  go_wp2_with fail
  go_ret
  exact ⟨_, _, rfl, Hx3.out, lx3, rfl⟩
theorem root_any (b : Nat) (hb : b < 2 ^ 32) (w : World) : Calls Tryz.prog 26 #[.float .f32 b] w (FRet .f32 (fnExactRootNumber.rootV b) w) := by
  have hS := fun w' => fnExactRootNumber.spec_any b hb w'
  go_enter Tryz.func26, Tryz.ntmps26
  go_wp2_with fail
  refine (hS _).mono ?_
  rintro e w' ⟨x, n, rfl, hx, lx, rfl⟩
  have Hx := Lib.hid hx
  clear hx
  go_wp2_with fail
  go_ret
  exact ⟨_, _, rfl, Hx.out, lx, rfl⟩
theorem quotW {x y c d : Nat} {A B C D P Q : Int} (lx : x < 2 ^ 32) (ly : y < 2 ^ 32) (lc : c < 2 ^ 32) (ld : d < 2 ^ 32) (wx : Wh .f32 x P) (wy : Wh .f32 y Q) (wc : Wh .f32 c C) (wd : Wh .f32 d D)
    (hP : P = A * C - B * D) (hQ : Q = A * D + B * C) (hA : A.natAbs ≤ 200) (hB : B.natAbs ≤ 200) (hC : C.natAbs ≤ 200) (hD : D.natAbs ≤ 200) (h0 : C * C + D * D ≠ 0) (w : World) :
    Calls Tryz.prog 27 #[.complex .f32 x y, .complex .f32 c d] w (CW A B w) := by
  have hPb : P.natAbs ≤ 80000 := by have := prodB hA hC; have := prodB hB hD; omega
  have hQb : Q.natAbs ≤ 80000 := by have := prodB hA hD; have := prodB hB hC; omega
  have hDn : (-D).natAbs ≤ 200 := by omega
  have wn := wh_negf ld wd
  have ln := negf_lt ld
  have vx := (WhV.of wx).widen
  have vy := (WhV.of wy).widen
  have vc := (WhV.of wc).widen
  have vn := (WhV.of wn).widen
  have p1 := prodB hPb hC
  have p2 := prodB hQb hDn
  have p3 := prodB hPb hDn
  have p4 := prodB hQb hC
  have x1 := (vx.mul vc (by rw [bin64w]; omega)).sub (vy.mul vn (by rw [bin64w]; omega)) (by rw [bin64w]; omega)
  have x2 := (vx.mul vn (by rw [bin64w]; omega)).add (vy.mul vc (by rw [bin64w]; omega)) (by rw [bin64w]; omega)
  have vp := pow_whole wc wd hC hD
  have e1 : P * C - Q * -D = A * (C * C + D * D) := by subst hP hQ; grind
  have e2 : P * -D + Q * C = B * (C * C + D * D) := by subst hP hQ; grind
  have q1 := x1.quo vp h0 e1 (by omega)
  have q2 := x2.quo vp h0 e2 (by omega)
  have n1 := Lib.hid (q1.narrow (by omega))
  have n2 := Lib.hid (q2.narrow (by omega))
  have hW := fun w' => wideProd_any x y c (Op.negFloat .f32 d) lx ly lc ln w'
  have hV := fun w' => widePow_any c d lc ld w'
  have hJ := fun w' => conj_any c d w'
  have hq := fun x y (w : World) => run_fov (P := Tryz.prog) .quo rfl 44 .f64 x y w
  clear q1 q2 e1 e2 vp x1 x2 p1 p2 p3 p4 vx vy vc vn wn wx wy wc wd hP hQ hA hB hC hD hPb hQb hDn h0
  go_enter Tryz.func27, Tryz.ntmps27
  go_wp2_with fail
  refine (hJ _).mono ?_
  rintro e w' ⟨rfl, rfl⟩
  go_wp2_with fail
  refine (hW _).mono ?_
  rintro e w' ⟨u, v, m1, rfl, hu, hv, lu, lv, rfl⟩
  rw [← hu] at n1
  rw [← hv] at n2
  clear hu hv hW hJ
  go_wp2_with fail
  refine (hV _).mono ?_
  rintro e w' ⟨s, m2, rfl, hs, ls, rfl⟩
  rw [← hs] at n1 n2
  clear hs hV
  have f1 := fun w' => vl_fov .quo .f64 u s w'
  have f2 := fun w' => vl_fov .quo .f64 v s w'
  have F1 := Lib.hid f1
  have F2 := Lib.hid f2
  clear f1 f2
  go_wp2_with fail
  refine (narrowCx _ _ (fov_lt _ _ _ _ _) (fov_lt _ _ _ _ _) (by rw [F1.out]; exact n1.out.2) (by rw [F2.out]; exact n2.out.2) _).mono ?_
  rintro e w' ⟨x3, y3, m3, rfl, hx, hy, lx3, ly3, rfl⟩
  rw [F1.out] at hx
  rw [F2.out] at hy
  rw [← hx] at n1
  rw [← hy] at n2
  clear hx hy
  go_wp2_with fail
  go_ret
  exact ⟨_, _, _, rfl, n1.out.1.wh, n2.out.1.wh, lx3, ly3, rfl⟩
theorem mulN_any (a b : Nat) (w : World) : Calls Tryz.prog 64 #[.float .f32 a, .float .f32 b] w (FRet .f32 (fop .mul .f32 (vl .f32 a) (vl .f32 b)) w) := by
  have hmul := fun x y w => run_fov (P := Tryz.prog) .mul rfl 24 .f32 x y w
  go_enter Tryz.func64, Tryz.ntmps64
  go_wp2
  go_ret
  exact ⟨_, _, rfl, vl_fov _ _ _ _ _, fov_lt _ _ _ _ _, rfl⟩
theorem scalW {a b : Nat} {A B : Int} (la : a < 2 ^ 32) (lb : b < 2 ^ 32) (wa : Wh .f32 a A) (wb : Wh .f32 b B) (hA : A.natAbs ≤ 200) (hB : B.natAbs ≤ 200) (w : World) :
    Calls Tryz.prog 28 #[.complex .f32 a b, .float .f32 1073741824] w (CW (A * 2) (B * 2) w) := by
  have w2 : Wh .f32 1073741824 2 := by
    have e : floatOfInt .f32 2 = 1073741824 := by decide
    rw [← e]
    exact wh_ofInt .f32 2 (by decide)
  have n1 := Lib.hid ((WhV.of wa).mul (WhV.of w2) (by rw [bin32w]; omega))
  have n2 := Lib.hid ((WhV.of wb).mul (WhV.of w2) (by rw [bin32w]; omega))
  have h1 := fun w' => mulN_any a 1073741824 w'
  have h2 := fun w' => mulN_any b 1073741824 w'
  clear wa wb w2 hA hB
  go_enter Tryz.func28, Tryz.ntmps28
  go_wp2_with fail
  refine (h1 _).mono ?_
  rintro e w' ⟨x, m1, rfl, hx, lx, rfl⟩
  rw [← hx] at n1
  clear hx h1
  go_wp2_with fail
  refine (h2 _).mono ?_
  rintro e w' ⟨y, m2, rfl, hy, ly, rfl⟩
  rw [← hy] at n2
  clear hy h2
  go_wp2_with fail
  go_ret
  exact ⟨_, _, _, rfl, n1.out.wh, n2.out.wh, lx, ly, rfl⟩
end Go.Proofs.YtcjkcoibeieeeaaGreatDoor.Fl
