/-
  The walk of the law on angles.
-/
import Derived.Test.YtcjkcoibeieeeaaGreatDoorAngI
set_option linter.unusedSimpArgs false
set_option linter.unusedVariables false
namespace Go.Proofs.YtcjkcoibeieeeaaGreatDoor.fnExactAngleTurns
open Go Go.RowKit Go.Proofs.YtcjkcoibeieeeaaGreatDoor.Fl

/-- The angle of a point with two float32 coordinates, narrowed: its value, up to NaN. -/
def angF (y x : Nat) : Option Nat :=
  if fin .f32 (vl .f32 y) && fin .f32 (vl .f32 x) then
    (if FloatKind.f32.format.order y 0 == some .eq && FloatKind.f32.format.order x 0 == some .eq then vl .f32 0
     else (fcv .f32 .f64 (vl .f32 y)).bind fun a => (fcv .f32 .f64 (vl .f32 x)).bind fun b =>
       fcv .f64 .f32 (angV (FloatKind.f64.format.order (ab a) (ab b) == some .gt) (FloatKind.f32.format.order x 0 == some .lt) (FloatKind.f32.format.order y 0 == some .lt) a b))
  else none

theorem angF_not {y x : Nat} (h : (fin .f32 (vl .f32 y) && fin .f32 (vl .f32 x)) = false) : angF y x = none := by
  unfold angF; rw [h]; rfl
theorem angF_zero {y x : Nat} (hf : (fin .f32 (vl .f32 y) && fin .f32 (vl .f32 x)) = true) (hz : (FloatKind.f32.format.order y 0 == some .eq && FloatKind.f32.format.order x 0 == some .eq) = true) : angF y x = vl .f32 0 := by
  unfold angF; rw [hf, hz]; rfl
theorem angF_at {y x a b : Nat} (hf : (fin .f32 (vl .f32 y) && fin .f32 (vl .f32 x)) = true) (hz : (FloatKind.f32.format.order y 0 == some .eq && FloatKind.f32.format.order x 0 == some .eq) = false)
    (ha : vl .f64 a = fcv .f32 .f64 (vl .f32 y)) (hb : vl .f64 b = fcv .f32 .f64 (vl .f32 x)) (fa : rung .f64 a < FloatKind.f64.format.infRung) (fb : rung .f64 b < FloatKind.f64.format.infRung) :
    angF y x = fcv .f64 .f32 (angV (FloatKind.f64.format.order (ab a) (ab b) == some .gt) (FloatKind.f32.format.order x 0 == some .lt) (FloatKind.f32.format.order y 0 == some .lt) a b) := by
  unfold angF
  rw [hf, hz, ← ha, ← hb, fin_vl fa, fin_vl fb]
  rfl

theorem and_parts {p q : Bool} (h : (p && q) = true) : p = true ∧ q = true := by cases p <;> cases q <;> simp_all

set_option maxHeartbeats 8000000 in
theorem impl_any (y x : Nat) (ly : y < 2 ^ 32) (lx : x < 2 ^ 32) (w : World) : Calls Tryz.prog 17 #[.float .f32 y, .float .f32 x] w (FRet .f32 (angF y x) w) := by
  cases hf : (fin .f32 (vl .f32 y) && fin .f32 (vl .f32 x))
  · have Ha := Lib.hid (angF_not hf)
    cases hfy : fin .f32 (vl .f32 y)
    · have Hy := Lib.hid hfy
      clear hf hfy
      go_enter Tryz.func17, Tryz.ntmps17
      go_wp2_with (first | (go_at_call 55; refine (isFinite_any y ly _).mono ?_; rintro e w' ⟨m, rfl, rfl⟩; rw [Hy.out]) | (go_at_call 56; refine (nan_any _).mono ?_; rintro e w' ⟨m1, rfl, rfl⟩) | (go_at_call 19; refine (narrow_any _ (by decide) (by rw [nan64]; rfl) _).mono ?_; rintro e w' ⟨q3, m3, rfl, hq3, hq4, rfl⟩; have Hq3 := Lib.hid hq3; clear hq3))
      go_ret
      exact ⟨q3, _, rfl, by rw [Hq3.out, nan64, Ha.out]; rfl, hq4, rfl⟩
    · rw [hfy, Bool.true_and] at hf
      have Hy := Lib.hid hfy
      have Hx := Lib.hid hf
      clear hf hfy
      go_enter Tryz.func17, Tryz.ntmps17
      go_wp2_with (first | (have h_ := Hm; clear h_; go_at_call 55; refine (isFinite_any x lx _).mono ?_; rintro e w' ⟨m2, rfl, rfl⟩; rw [Hx.out]) | (go_at_call 55; refine (isFinite_any y ly _).mono ?_; rintro e w' ⟨m, rfl, rfl⟩; rw [Hy.out]; have Hm := Lib.hid (rfl : m = m)) | (go_at_call 56; refine (nan_any _).mono ?_; rintro e w' ⟨m1, rfl, rfl⟩) | (go_at_call 19; refine (narrow_any _ (by decide) (by rw [nan64]; rfl) _).mono ?_; rintro e w' ⟨q3, m3, rfl, hq3, hq4, rfl⟩; have Hq3 := Lib.hid hq3; clear hq3))
      go_ret
      exact ⟨q3, _, rfl, by rw [Hq3.out, nan64, Ha.out]; rfl, hq4, rfl⟩
  · obtain ⟨hfy, hfx⟩ := and_parts hf
    have Hy := Lib.hid hfy
    have Hx := Lib.hid hfx
    cases hz : (FloatKind.f32.format.order y 0 == some .eq && FloatKind.f32.format.order x 0 == some .eq)
    · -- a point that is not the origin
      obtain ⟨c1, hc1⟩ : ∃ c1 : Nat → Nat → Bool, ∀ a b, (FloatKind.f64.format.order (a % 9223372036854775808) (b % 9223372036854775808) == some .gt) = c1 a b := ⟨_, fun _ _ => rfl⟩
      have K : ∀ w1 w2, rung .f64 (cvv y w1) < FloatKind.f64.format.infRung ∧ rung .f64 (cvv x w2) < FloatKind.f64.format.infRung ∧ cvv y w1 = cvv y w ∧ cvv x w2 = cvv x w := by
        intro w1 w2
        obtain ⟨_, g1⟩ := order_widen (fin_iff.1 hfy) (vl_cvv y w1)
        obtain ⟨_, g2⟩ := order_widen (fin_iff.1 hfx) (vl_cvv x w2)
        have e1 := same_cvv y w1 w
        have e2 := same_cvv x w2 w
        rw [fin_vl g1] at e1
        rw [fin_vl g2] at e2
        exact ⟨g1, g2, vl_some e1.symm |>.symm, vl_some e2.symm |>.symm⟩
      obtain ⟨ga, gb, _, _⟩ := K w w
      have hcv1 : ∀ w', (convert 24 44 (.float .f32 y)).run Tryz.prog w' = .ok (.float .f64 (cvv y w)) (w'.drewN (cvn y)) := fun w' => by
        rw [run_cv, (K w' w).2.2.1]
      have hcv2 : ∀ w', (convert 24 44 (.float .f32 x)).run Tryz.prog w' = .ok (.float .f64 (cvv x w)) (w'.drewN (cvn x)) := fun w' => by
        rw [run_cv, (K w w').2.2.2]
      have a1 := vl_cvv y w
      have a2 := cvv_lt y w
      have b1 := vl_cvv x w
      have b2 := cvv_lt x w
      have At := angF_at hf hz a1 b1 ga gb
      clear K hc1
      generalize cvv y w = a at *
      generalize cvv x w = b at *
      have hquo := fun x y w => run_fov (P := Tryz.prog) .quo rfl 44 .f64 x y w
      have hsub := fun x y w => run_fov (P := Tryz.prog) .sub rfl 44 .f64 x y w
      have hneg : ∀ (x : Nat) (w : World), (Op.unary .neg (.float .f64 x)).run Tryz.prog w = .ok (.float .f64 (Op.negFloat .f64 x)) w := fun _ _ => rfl
      have hR := ratio_bd ga gb rfl
      have Fin := Lib.hid (show ∀ c1 c2 c3, (FloatKind.f64.format.order (a % 9223372036854775808) (b % 9223372036854775808) == some .gt) = c1 → (FloatKind.f32.format.order x 0 == some .lt) = c2 → (FloatKind.f32.format.order y 0 == some .lt) = c3 →
          angF y x = fcv .f64 .f32 (angV c1 c2 c3 a b) ∧ over .f64 .f32 (angV c1 c2 c3 a b) = false from by
        rintro _ _ _ rfl rfl rfl
        exact ⟨At, over_bd (angV_bd _ _ _ _ _ hR) (by omega)⟩)
      clear hR hf hfy hfx ga gb a1 b1 At
      cases zy : (FloatKind.f32.format.order y 0 == some .eq)
      · clear hz
        cases h1 : (FloatKind.f64.format.order (a % 9223372036854775808) (b % 9223372036854775808) == some .gt) <;>
        cases h2 : (FloatKind.f32.format.order x 0 == some .lt) <;>
        cases h3 : (FloatKind.f32.format.order y 0 == some .lt) <;>
        (have F := Lib.hid (Fin.out _ _ _ h1 h2 h3)
         clear Fin
         go_enter Tryz.func17, Tryz.ntmps17
         go_wp2_with (first | (have h_ := Hm; clear h_; go_at_call 55; refine (isFinite_any x lx _).mono ?_; rintro e w' ⟨m2, rfl, rfl⟩; rw [Hx.out]) | (go_at_call 55; refine (isFinite_any y ly _).mono ?_; rintro e w' ⟨m, rfl, rfl⟩; rw [Hy.out]; have Hm := Lib.hid (rfl : m = m)) | (have h_ := Hab; clear h_; go_at_call 54; refine (abs_any b b2 _).mono ?_; rintro e w' ⟨m3, rfl, rfl⟩) | (go_at_call 54; refine (abs_any a a2 _).mono ?_; rintro e w' ⟨m4, rfl, rfl⟩; have Hab := Lib.hid (rfl : m4 = m4)) | (go_at_call 57; refine (slopeAngle_any _ (fov_lt _ _ _ _ _) _).mono ?_; rintro e w' ⟨q, m5, rfl, hq, lq, rfl⟩; rw [vl_fov] at hq; have Hq := Lib.hid hq; clear hq) | (go_at_call 19; refine (narrow_any _ (by first | exact lq | exact fov_lt _ _ _ _ _ | exact neg_lt lq | exact neg_lt (fov_lt _ _ _ _ _)) (by (try simp only [vl_fov, vl_neg]); rw [Hq.out]; exact F.out.2) _).mono ?_; rintro e w' ⟨q3, m6, rfl, hq3, hq4, rfl⟩; have Hq3 := Lib.hid hq3; clear hq3))
         go_ret
         exact ⟨q3, _, rfl, (by rw [Hq3.out, F.out.1]; (try simp only [vl_fov, vl_neg]); rw [Hq.out]; rfl), hq4, rfl⟩)
      · rw [zy, Bool.true_and] at hz
        cases h1 : (FloatKind.f64.format.order (a % 9223372036854775808) (b % 9223372036854775808) == some .gt) <;>
        cases h2 : (FloatKind.f32.format.order x 0 == some .lt) <;>
        cases h3 : (FloatKind.f32.format.order y 0 == some .lt) <;>
        (have F := Lib.hid (Fin.out _ _ _ h1 h2 h3)
         clear Fin
         go_enter Tryz.func17, Tryz.ntmps17
         go_wp2_with (first | (have h_ := Hm; clear h_; go_at_call 55; refine (isFinite_any x lx _).mono ?_; rintro e w' ⟨m2, rfl, rfl⟩; rw [Hx.out]) | (go_at_call 55; refine (isFinite_any y ly _).mono ?_; rintro e w' ⟨m, rfl, rfl⟩; rw [Hy.out]; have Hm := Lib.hid (rfl : m = m)) | (have h_ := Hab; clear h_; go_at_call 54; refine (abs_any b b2 _).mono ?_; rintro e w' ⟨m3, rfl, rfl⟩) | (go_at_call 54; refine (abs_any a a2 _).mono ?_; rintro e w' ⟨m4, rfl, rfl⟩; have Hab := Lib.hid (rfl : m4 = m4)) | (go_at_call 57; refine (slopeAngle_any _ (fov_lt _ _ _ _ _) _).mono ?_; rintro e w' ⟨q, m5, rfl, hq, lq, rfl⟩; rw [vl_fov] at hq; have Hq := Lib.hid hq; clear hq) | (go_at_call 19; refine (narrow_any _ (by first | exact lq | exact fov_lt _ _ _ _ _ | exact neg_lt lq | exact neg_lt (fov_lt _ _ _ _ _)) (by (try simp only [vl_fov, vl_neg]); rw [Hq.out]; exact F.out.2) _).mono ?_; rintro e w' ⟨q3, m6, rfl, hq3, hq4, rfl⟩; have Hq3 := Lib.hid hq3; clear hq3))
         go_ret
         exact ⟨q3, _, rfl, (by rw [Hq3.out, F.out.1]; (try simp only [vl_fov, vl_neg]); rw [Hq.out]; rfl), hq4, rfl⟩)
    · obtain ⟨z1, z2⟩ := and_parts hz
      have Ha := Lib.hid (angF_zero hf hz)
      clear hf hfy hfx hz
      go_enter Tryz.func17, Tryz.ntmps17
      go_wp2_with (first | (have h_ := Hm; clear h_; go_at_call 55; refine (isFinite_any x lx _).mono ?_; rintro e w' ⟨m2, rfl, rfl⟩; rw [Hx.out]) | (go_at_call 55; refine (isFinite_any y ly _).mono ?_; rintro e w' ⟨m, rfl, rfl⟩; rw [Hy.out]; have Hm := Lib.hid (rfl : m = m)))
      go_ret
      exact ⟨_, _, rfl, by rw [Ha.out], by decide, rfl⟩

end Go.Proofs.YtcjkcoibeieeeaaGreatDoor.fnExactAngleTurns
