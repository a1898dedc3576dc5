/-
  Products of complex numbers that don't overflow. No theorem of a claim stands here.
-/
import Derived.Test.YtljclagfplildaaPhasS
import Derived.Test.YtljclagfplildaaTight
set_option linter.unusedVariables false
set_option maxRecDepth 8000
namespace Go.Proofs.Ytljclagfplildaa.Fl
open Go Go.RowKit

theorem wide_any (a b : Nat) (ha : a < 2 ^ 32) (hb : b < 2 ^ 32) (w : World) : Calls Try.prog 206 #[.complex .f32 a b] w (CRet .f64 (fun x y => x = fcv .f32 .f64 (vl .f32 a) ∧ y = fcv .f32 .f64 (vl .f32 b)) w) := by
  go_enter Try.func206, Try.ntmps206
  go_wp2_with (first | (refine wpList_fcv (o := ⟨some 5, _, _, _, _, _⟩) (by rfl) 28 27 _ (by rfl) .f32 .f64 isSome_f32 Try.underlying27 a (by rfl) ha (over_widen' a) ?_; intro r1 n1 hr1 hv1) | (refine wpList_fcv (o := ⟨some 8, _, _, _, _, _⟩) (by rfl) 28 27 _ (by rfl) .f32 .f64 isSome_f32 Try.underlying27 b (by rfl) hb (over_widen' b) ?_; intro r2 n2 hr2 hv2))
  go_ret
  exact ⟨r1, r2, _, rfl, ⟨hv1.out, hv2.out⟩, hr1, hr2, rfl⟩

theorem wideMul_any (a b c d : Nat) (w : World) : Calls Try.prog 205 #[.complex .f64 a b, .complex .f64 c d] w (CRet .f64 (fun x y =>
    x = fop .sub .f64 (fop .mul .f64 (vl .f64 a) (vl .f64 c)) (fop .mul .f64 (vl .f64 b) (vl .f64 d)) ∧ y = fop .add .f64 (fop .mul .f64 (vl .f64 a) (vl .f64 d)) (fop .mul .f64 (vl .f64 b) (vl .f64 c))) w) := by
  have hadd := fun x y w => run_fov (P := Try.prog) .add rfl 27 .f64 x y w
  have hsub := fun x y w => run_fov (P := Try.prog) .sub rfl 27 .f64 x y w
  have hmul := fun x y w => run_fov (P := Try.prog) .mul rfl 27 .f64 x y w
  go_enter Try.func205, Try.ntmps205
  go_wp2
  go_ret
  refine ⟨_, _, _, rfl, ⟨?_, ?_⟩, fov_lt _ _ _ _ _, fov_lt _ _ _ _ _, rfl⟩
  · rw [vl_fov, vl_fov, vl_fov]
  · rw [vl_fov, vl_fov, vl_fov]

theorem cnarrow_any (a b : Nat) (ha : a < 2 ^ 64) (hb : b < 2 ^ 64) (oa : over .f64 .f32 (vl .f64 a) = false) (ob : over .f64 .f32 (vl .f64 b) = false) (w : World) : Calls Try.prog 204 #[.complex .f64 a b] w (CRet .f32 (fun x y => x = fcv .f64 .f32 (vl .f64 a) ∧ y = fcv .f64 .f32 (vl .f64 b)) w) := by
  have S0 : Hid True := Lib.hid trivial
  go_enter Try.func204, Try.ntmps204
  go_wp2_with (first | (have h_ := S0; clear h_; go_at_call 169; refine (l01Narrow_any a ha oa _).mono ?_; rintro e w' ⟨q1, m1, rfl, hq1, l1, rfl⟩; have S1 := Lib.hid hq1; clear S0; clear hq1) | (have h_ := S1; clear h_; go_at_call 169; refine (l01Narrow_any b hb ob _).mono ?_; rintro e w' ⟨q2, m2, rfl, hq2, l2, rfl⟩; have S2 := Lib.hid hq2; have S3 := Lib.hid S1.out; clear S1; clear hq2))
  go_ret
  exact ⟨q1, q2, _, rfl, ⟨S3.out, S2.out⟩, l1, l2, rfl⟩

/-- A product that can't overflow: which it is, is not said. -/
theorem mul_any (a b c d G H : Nat) (ha : a < 2 ^ 32) (hb : b < 2 ^ 32) (hc : c < 2 ^ 32) (hd : d < 2 ^ 32) (hG : G < 1023) (hH : H < 1023) (hGH : G + H + 1 ≤ 126)
    (ba : Bd .f64 G (fcv .f32 .f64 (vl .f32 a))) (bb : Bd .f64 G (fcv .f32 .f64 (vl .f32 b))) (bc : Bd .f64 H (fcv .f32 .f64 (vl .f32 c))) (bd : Bd .f64 H (fcv .f32 .f64 (vl .f32 d))) (w : World) :
    Calls Try.prog 160 #[.complex .f32 a b, .complex .f32 c d] w (CRet .f32 (fun _ _ => True) w) := by
  have S0 : Hid True := Lib.hid trivial
  have hb0 : bias .f64 = 1023 := rfl
  have m1 := bd_fmul' (by omega) (by omega) ba bc
  have m2 := bd_fmul' (by omega) (by omega) bb bd
  have m3 := bd_fmul' (by omega) (by omega) ba bd
  have m4 := bd_fmul' (by omega) (by omega) bb bc
  have o1 := Lib.hid (over_bd (bd_fsub' (by omega) m1 m2) hGH)
  have o2 := Lib.hid (over_bd (bd_fadd' (by omega) m3 m4) hGH)
  clear m1; clear m2; clear m3; clear m4; clear ba; clear bb; clear bc; clear bd; clear hb0
  go_enter Try.func160, Try.ntmps160
  go_wp2_with (first | (have h_ := S0; clear h_; go_at_call 206; refine (wide_any a b ha hb _).mono ?_; rintro e w' ⟨x1, y1, n1, rfl, hv1, l1, l2, rfl⟩; have S1 := Lib.hid hv1; clear S0; clear hv1) | (have h_ := S1; clear h_; go_at_call 206; refine (wide_any c d hc hd _).mono ?_; rintro e w' ⟨x2, y2, n2, rfl, hv2, l3, l4, rfl⟩; have S2 := Lib.hid hv2; have S3 := Lib.hid S1.out; clear S1; clear hv2) | (go_at_call 205; refine (wideMul_any x1 y1 x2 y2 _).mono ?_; rintro e w' ⟨x3, y3, n3, rfl, hv3, l5, l6, rfl⟩; have S4 := Lib.hid hv3; clear hv3) | (go_at_call 204; refine (cnarrow_any x3 y3 l5 l6 (by rw [S4.out.1, S3.out.1, S3.out.2, S2.out.1, S2.out.2]; exact o1.out) (by rw [S4.out.2, S3.out.1, S3.out.2, S2.out.1, S2.out.2]; exact o2.out) _).mono ?_; rintro e w' ⟨x5, y5, n5, rfl, _, l7, l8, rfl⟩))
  go_ret
  exact ⟨x5, y5, _, rfl, trivial, l7, l8, rfl⟩
end Go.Proofs.Ytljclagfplildaa.Fl
