/-
  The angle of a point: the walks in the program. No theorem of a claim stands here.
-/
import Derived.Test.YtcjkcoibeieeeaaGreatDoorAng
import Derived.Deep.DeepCutAuto
set_option linter.unusedVariables false
namespace Go.Proofs.YtcjkcoibeieeeaaGreatDoor.Fl
open Go Go.RowKit

theorem stepA_at (u p : Option Nat) (j : Nat) (m : Int) (h : ((2 * j + 1 : Nat) : Int) = m) : stepA u j p = fop .add .f64 (fop .quo .f64 (vl .f64 4607182418800017408) (vl .f64 (floatOfInt .f64 m))) (fop .mul .f64 u p) := by
  subst h; rfl
theorem stepS_at (u p : Option Nat) (j : Nat) (m : Int) (h : ((2 * j + 1 : Nat) : Int) = m) : stepS u j p = fop .sub .f64 (fop .quo .f64 (vl .f64 4607182418800017408) (vl .f64 (floatOfInt .f64 m))) (fop .mul .f64 u p) := by
  subst h; rfl
/-- j halvings that are still to come. -/
def tN (j : Nat) (p : Option Nat) : Option Nat := serK (fun _ q => tV q) j p
theorem tN_succ (j : Nat) (p : Option Nat) : tN (j + 1) p = tN j (tV p) := serK_succ (fun _ q => tV q) p j
theorem tN_zero (p : Option Nat) : tN 0 p = p := serK_zero (fun _ q => tV q) p
theorem slope_tN (t : Option Nat) : slope t = slV (tN 3 t) := by rw [tN_succ, tN_succ, tN_succ, tN_zero, slope]
theorem slV_lit (t : Option Nat) : slV t = fop .quo .f64 (fop .mul .f64 (vl .f64 4620693217682128896) (fop .mul .f64 t (oddS (fop .mul .f64 t t) 8 (vl .f64 0)))) (vl .f64 4618760256179416344) := rfl

set_option maxHeartbeats 2000000 in
theorem oddSeries_any (u : Nat) (w : World) : Calls Tryz.prog 86 #[.int .i64 15, .float .f64 u] w (FRet .f64 (oddV (vl .f64 u) 8 (vl .f64 0)) w) := by
  have hadd := fun x y w => run_fov (P := Tryz.prog) .add rfl 44 .f64 x y w
  have hmul := fun x y w => run_fov (P := Tryz.prog) .mul rfl 44 .f64 x y w
  have hquo := fun x y w => run_fov (P := Tryz.prog) .quo rfl 44 .f64 x y w
  have hit := fun n w => run_convert_int_float (P := Tryz.prog) w 3 44 .i64 .f64 n (by rw [Tryz.underlying3]; rfl) Tryz.underlying44
  go_enter Tryz.func86, Tryz.ntmps86
  go_wp2
  go_loopw [5, 6] (fun p k wr => ∃ (j : Nat) (m : Int) (r n : Nat), j ≤ 8 ∧ p = .float .f64 r ∧ k = .int .i64 m ∧ m = 2 * j - 1 ∧ r < 2 ^ 64 ∧ Hid (oddV (vl .f64 u) j (vl .f64 r) = oddV (vl .f64 u) 8 (vl .f64 0)) ∧ wr = w.drewN n) (fun _ k _ => (intOf k + 1).toNat)
  case atStart => exact ⟨8, _, _, 0, by omega, rfl, rfl, by decide, by decide, rfl, rfl⟩
  case round =>
    obtain ⟨j, m, r, n, hj, rfl, rfl, hm, hr, hv, rfl⟩ := hrel
    rcases (by omega : j = 8 ∨ j = 7 ∨ j = 6 ∨ j = 5 ∨ j = 4 ∨ j = 3 ∨ j = 2 ∨ j = 1 ∨ j = 0) with rfl | rfl | rfl | rfl | rfl | rfl | rfl | rfl | rfl
    · obtain rfl : m = 15 := by omega
      clear hm
      have hs := (oddV_succ (vl .f64 u) (vl .f64 r) 7).symm.trans hv.out
      rw [stepA_at (vl .f64 u) (vl .f64 r) 7 15 rfl] at hs
      have Hs := Lib.hid hs
      clear hs
      go_wp2
      go_roundw
      case rel => exact ⟨7, 13, _, _, by omega, rfl, by go_num, by decide, fov_lt _ _ _ _ _, by show oddV (vl .f64 u) 7 (vl .f64 _) = _; rw [vl_fov, vl_fov, vl_fov]; exact Hs.out, rfl⟩
      case measure => simp [intOf]
    · obtain rfl : m = 13 := by omega
      clear hm
      have hs := (oddV_succ (vl .f64 u) (vl .f64 r) 6).symm.trans hv.out
      rw [stepA_at (vl .f64 u) (vl .f64 r) 6 13 rfl] at hs
      have Hs := Lib.hid hs
      clear hs
      go_wp2
      go_roundw
      case rel => exact ⟨6, 11, _, _, by omega, rfl, by go_num, by decide, fov_lt _ _ _ _ _, by show oddV (vl .f64 u) 6 (vl .f64 _) = _; rw [vl_fov, vl_fov, vl_fov]; exact Hs.out, rfl⟩
      case measure => simp [intOf]
    · obtain rfl : m = 11 := by omega
      clear hm
      have hs := (oddV_succ (vl .f64 u) (vl .f64 r) 5).symm.trans hv.out
      rw [stepA_at (vl .f64 u) (vl .f64 r) 5 11 rfl] at hs
      have Hs := Lib.hid hs
      clear hs
      go_wp2
      go_roundw
      case rel => exact ⟨5, 9, _, _, by omega, rfl, by go_num, by decide, fov_lt _ _ _ _ _, by show oddV (vl .f64 u) 5 (vl .f64 _) = _; rw [vl_fov, vl_fov, vl_fov]; exact Hs.out, rfl⟩
      case measure => simp [intOf]
    · obtain rfl : m = 9 := by omega
      clear hm
      have hs := (oddV_succ (vl .f64 u) (vl .f64 r) 4).symm.trans hv.out
      rw [stepA_at (vl .f64 u) (vl .f64 r) 4 9 rfl] at hs
      have Hs := Lib.hid hs
      clear hs
      go_wp2
      go_roundw
      case rel => exact ⟨4, 7, _, _, by omega, rfl, by go_num, by decide, fov_lt _ _ _ _ _, by show oddV (vl .f64 u) 4 (vl .f64 _) = _; rw [vl_fov, vl_fov, vl_fov]; exact Hs.out, rfl⟩
      case measure => simp [intOf]
    · obtain rfl : m = 7 := by omega
      clear hm
      have hs := (oddV_succ (vl .f64 u) (vl .f64 r) 3).symm.trans hv.out
      rw [stepA_at (vl .f64 u) (vl .f64 r) 3 7 rfl] at hs
      have Hs := Lib.hid hs
      clear hs
      go_wp2
      go_roundw
      case rel => exact ⟨3, 5, _, _, by omega, rfl, by go_num, by decide, fov_lt _ _ _ _ _, by show oddV (vl .f64 u) 3 (vl .f64 _) = _; rw [vl_fov, vl_fov, vl_fov]; exact Hs.out, rfl⟩
      case measure => simp [intOf]
    · obtain rfl : m = 5 := by omega
      clear hm
      have hs := (oddV_succ (vl .f64 u) (vl .f64 r) 2).symm.trans hv.out
      rw [stepA_at (vl .f64 u) (vl .f64 r) 2 5 rfl] at hs
      have Hs := Lib.hid hs
      clear hs
      go_wp2
      go_roundw
      case rel => exact ⟨2, 3, _, _, by omega, rfl, by go_num, by decide, fov_lt _ _ _ _ _, by show oddV (vl .f64 u) 2 (vl .f64 _) = _; rw [vl_fov, vl_fov, vl_fov]; exact Hs.out, rfl⟩
      case measure => simp [intOf]
    · obtain rfl : m = 3 := by omega
      clear hm
      have hs := (oddV_succ (vl .f64 u) (vl .f64 r) 1).symm.trans hv.out
      rw [stepA_at (vl .f64 u) (vl .f64 r) 1 3 rfl] at hs
      have Hs := Lib.hid hs
      clear hs
      go_wp2
      go_roundw
      case rel => exact ⟨1, 1, _, _, by omega, rfl, by go_num, by decide, fov_lt _ _ _ _ _, by show oddV (vl .f64 u) 1 (vl .f64 _) = _; rw [vl_fov, vl_fov, vl_fov]; exact Hs.out, rfl⟩
      case measure => simp [intOf]
    · obtain rfl : m = 1 := by omega
      clear hm
      have hs := (oddV_succ (vl .f64 u) (vl .f64 r) 0).symm.trans hv.out
      rw [stepA_at (vl .f64 u) (vl .f64 r) 0 1 rfl] at hs
      have Hs := Lib.hid hs
      clear hs
      go_wp2
      go_roundw
      case rel => exact ⟨0, -1, _, _, by omega, rfl, by go_num, by decide, fov_lt _ _ _ _ _, by show oddV (vl .f64 u) 0 (vl .f64 _) = _; rw [vl_fov, vl_fov, vl_fov]; exact Hs.out, rfl⟩
      case measure => simp [intOf]
    · obtain rfl : m = -1 := by omega
      clear hm
      have Hv := Lib.hid ((oddV_zero (vl .f64 u) (vl .f64 r)).symm.trans hv.out)
      go_wp2
      go_ret
      exact ⟨_, _, rfl, Hv.out, hr, rfl⟩

set_option maxHeartbeats 2000000 in
theorem slopeAngle_any (t : Nat) (ht : t < 2 ^ 64) (w : World) : Calls Tryz.prog 57 #[.float .f64 t] w (FRet .f64 (slope (vl .f64 t)) w) := by
  have hadd := fun x y w => run_fov (P := Tryz.prog) .add rfl 44 .f64 x y w
  have hmul := fun x y w => run_fov (P := Tryz.prog) .mul rfl 44 .f64 x y w
  have hquo := fun x y w => run_fov (P := Tryz.prog) .quo rfl 44 .f64 x y w
  have hneg : ∀ (x : Nat) (w : World), (Op.unary .neg (.float .f64 x)).run Tryz.prog w = .ok (.float .f64 (Op.negFloat .f64 x)) w := fun _ _ => rfl
  go_enter Tryz.func57, Tryz.ntmps57
  go_wp2
  go_loopw [0, 3] (fun p k wr => ∃ (j : Nat) (m : Int) (r n : Nat), j ≤ 3 ∧ p = .float .f64 r ∧ k = .int .i64 m ∧ m = 3 - j ∧ r < 2 ^ 64 ∧ Hid (tN j (vl .f64 r) = tN 3 (vl .f64 t)) ∧ wr = w.drewN n) (fun _ k _ => (3 - intOf k).toNat)
  case atStart => exact ⟨3, _, _, 0, by omega, rfl, rfl, by decide, ht, rfl, rfl⟩
  case round =>
    obtain ⟨j, m, r, n, hj, rfl, rfl, hm, hr, hv, rfl⟩ := hrel
    rcases (by omega : j = 3 ∨ j = 2 ∨ j = 1 ∨ j = 0) with rfl | rfl | rfl | rfl
    · obtain rfl : m = 0 := by omega
      clear hm
      have Hs := Lib.hid ((tN_succ 2 (vl .f64 r)).symm.trans hv.out)
      go_wp2_with (go_at_call 62; refine (sqrt_any _ _).mono ?_; rintro e w' ⟨q, nq, rfl, hq, lq, rfl⟩; rw [vl_fov, vl_fov] at hq; have Hq := Lib.hid hq; clear hq)
      go_roundw
      case rel => exact ⟨2, 1, _, _, by omega, rfl, by go_num, by decide, fov_lt _ _ _ _ _, by show tN 2 (vl .f64 _) = _; rw [vl_fov, vl_fov, Hq.out]; exact Hs.out, rfl⟩
      case measure => simp [intOf]
    · obtain rfl : m = 1 := by omega
      clear hm
      have Hs := Lib.hid ((tN_succ 1 (vl .f64 r)).symm.trans hv.out)
      go_wp2_with (go_at_call 62; refine (sqrt_any _ _).mono ?_; rintro e w' ⟨q, nq, rfl, hq, lq, rfl⟩; rw [vl_fov, vl_fov] at hq; have Hq := Lib.hid hq; clear hq)
      go_roundw
      case rel => exact ⟨1, 2, _, _, by omega, rfl, by go_num, by decide, fov_lt _ _ _ _ _, by show tN 1 (vl .f64 _) = _; rw [vl_fov, vl_fov, Hq.out]; exact Hs.out, rfl⟩
      case measure => simp [intOf]
    · obtain rfl : m = 2 := by omega
      clear hm
      have Hs := Lib.hid ((tN_succ 0 (vl .f64 r)).symm.trans hv.out)
      go_wp2_with (go_at_call 62; refine (sqrt_any _ _).mono ?_; rintro e w' ⟨q, nq, rfl, hq, lq, rfl⟩; rw [vl_fov, vl_fov] at hq; have Hq := Lib.hid hq; clear hq)
      go_roundw
      case rel => exact ⟨0, 3, _, _, by omega, rfl, by go_num, by decide, fov_lt _ _ _ _ _, by show tN 0 (vl .f64 _) = _; rw [vl_fov, vl_fov, Hq.out]; exact Hs.out, rfl⟩
      case measure => simp [intOf]
    · obtain rfl : m = 3 := by omega
      clear hm
      have Hv := Lib.hid ((tN_zero (vl .f64 r)).symm.trans hv.out)
      go_wp2_with (go_at_call 86; refine (oddSeries_any _ _).mono ?_; rintro e w' ⟨q, nq, rfl, hq, lq, rfl⟩; rw [vl_neg, oddV_neg (fun a h => by rw [← vl_some h]; exact fov_lt _ _ _ _ _), vl_fov] at hq; have Hq := Lib.hid hq; clear hq)
      go_ret
      exact ⟨_, _, rfl, by rw [vl_fov, vl_fov, vl_fov, Hq.out, slope_tN, slV_lit, Hv.out], fov_lt _ _ _ _ _, rfl⟩

/-- The angle of a point with two float32 coordinates, narrowed. -/
def AngOf (y x : Nat) (v : Option Nat) : Prop :=
  if fin .f32 (vl .f32 y) && fin .f32 (vl .f32 x) then
    (if FloatKind.f32.format.order y 0 == some .eq && FloatKind.f32.format.order x 0 == some .eq then v = some 0
     else ∀ a b : Nat, vl .f64 a = fcv .f32 .f64 (vl .f32 y) → vl .f64 b = fcv .f32 .f64 (vl .f32 x) →
       v = fcv .f64 .f32 (angV (FloatKind.f64.format.order (ab a) (ab b) == some .gt) (FloatKind.f32.format.order x 0 == some .lt) (FloatKind.f32.format.order y 0 == some .lt) a b))
  else v = none
end Go.Proofs.YtcjkcoibeieeeaaGreatDoor.Fl
