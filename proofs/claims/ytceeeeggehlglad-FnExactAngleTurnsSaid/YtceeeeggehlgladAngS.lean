/-
  The angle of a point: the walk in the model. No theorem of a claim stands here.
-/
import Derived.Test.YtceeeeggehlgladAngI
set_option linter.unusedSimpArgs false
set_option linter.unusedVariables false
namespace Go.Proofs.Ytceeeeggehlglad.Fl
open Go Go.RowKit

theorem subs_fin (b : Nat) : ∀ w, (FloatKind.f64.format.order (fov .sub .f64 b b w) 0 != some .eq) = !fin .f64 (vl .f64 b) := by
  intro w
  rw [bne, order_vl, vl_fov, sub_self]

theorem angle_not (y x : Nat) (h : (fin .f64 (vl .f64 y) && fin .f64 (vl .f64 x)) = false) (w : World) : Calls Try.prog 40 #[.float .f64 y, .float .f64 x] w (FRet .f64 none w) := by
  have hsub := fun x y w => run_fov (P := Try.prog) .sub rfl 25 .f64 x y w
  have hy := subs_fin y
  have hx := subs_fin x
  cases fy : fin .f64 (vl .f64 y)
  · rw [fy] at hy
    clear h fy hx
    go_enter Try.func40, Try.ntmps40
    go_wp2_with (go_at_call 21; refine (nan_any _).mono ?_; rintro e w' ⟨m, rfl, rfl⟩)
    go_ret
    exact ⟨_, _, rfl, nan64, by decide, rfl⟩
  · cases fx : fin .f64 (vl .f64 x)
    · rw [fy] at hy
      rw [fx] at hx
      clear h fx fy
      go_enter Try.func40, Try.ntmps40
      go_wp2_with (go_at_call 21; refine (nan_any _).mono ?_; rintro e w' ⟨m, rfl, rfl⟩)
      go_ret
      exact ⟨_, _, rfl, nan64, by decide, rfl⟩
    · rw [fy, fx] at h; cases h

theorem angle_zero (y x : Nat) (fy : fin .f64 (vl .f64 y) = true) (fx : fin .f64 (vl .f64 x) = true) (zy : (FloatKind.f64.format.order y 0 == some .eq) = true) (zx : (FloatKind.f64.format.order x 0 == some .eq) = true) (w : World) :
    Calls Try.prog 40 #[.float .f64 y, .float .f64 x] w (FRet .f64 (some 0) w) := by
  have hsub := fun x y w => run_fov (P := Try.prog) .sub rfl 25 .f64 x y w
  have hy := subs_fin y
  have hx := subs_fin x
  rw [fy] at hy
  rw [fx] at hx
  clear fy fx
  go_enter Try.func40, Try.ntmps40
  go_wp2
  go_ret
  exact ⟨_, _, rfl, vl_zero .f64, by decide, rfl⟩

set_option maxHeartbeats 4000000 in
theorem angle_true_a (y x : Nat) (ly : y < 2 ^ 64) (lx : x < 2 ^ 64) (c2 c3 : Bool) (fy : fin .f64 (vl .f64 y) = true) (fx : fin .f64 (vl .f64 x) = true) (zx : (FloatKind.f64.format.order x 0 == some .eq) = false)
    (h1 : (FloatKind.f64.format.order (y % 9223372036854775808) (x % 9223372036854775808) == some .gt) = true) (h2 : (FloatKind.f64.format.order x 0 == some .lt) = c2) (h3 : (FloatKind.f64.format.order y 0 == some .lt) = c3) (w : World) :
    Calls Try.prog 40 #[.float .f64 y, .float .f64 x] w (FRet .f64 (angV true c2 c3 y x) w) := by
  have hadd := fun x y w => run_fov (P := Try.prog) .add rfl 25 .f64 x y w
  have hsub := fun x y w => run_fov (P := Try.prog) .sub rfl 25 .f64 x y w
  have hmul := fun x y w => run_fov (P := Try.prog) .mul rfl 25 .f64 x y w
  have hquo := fun x y w => run_fov (P := Try.prog) .quo rfl 25 .f64 x y w
  have hit := fun n w => run_convert_int_float (P := Try.prog) w 3 25 .i64 .f64 n (by rw [Try.underlying3]; rfl) Try.underlying25
  have hneg : ∀ (x : Nat) (w : World), (Op.unary .neg (.float .f64 x)).run Try.prog w = .ok (.float .f64 (Op.negFloat .f64 x)) w := fun _ _ => rfl
  have hy := subs_fin y
  have hx := subs_fin x
  rw [fy] at hy
  rw [fx] at hx
  have H2 := Lib.hid h2
  have H3 := Lib.hid h3
  clear fy fx h2 h3
  go_enter Try.func40, Try.ntmps40
  go_wp2_with (first | (have h_ := Hm; clear h_; go_at_call 22; refine (abs_any x lx _).mono ?_; rintro e w' ⟨m2, rfl, rfl⟩) | (go_at_call 22; refine (abs_any y ly _).mono ?_; rintro e w' ⟨m1, rfl, rfl⟩; have Hm := Lib.hid (rfl : m1 = m1)))
  clear hy hx h1 zx
  go_loopw [8, 9] (fun p k wr => ∃ (j : Nat) (m : Int) (r n : Nat), j ≤ 3 ∧ p = .float .f64 r ∧ k = .int .i64 m ∧ m = 3 - j ∧ r < 2 ^ 64 ∧ Hid (tN j (vl .f64 r) = tN 3 (ratio true y x)) ∧ wr = w.drewN n) (fun _ k _ => (3 - intOf k).toNat)
  case atStart => exact ⟨3, _, _, _, by omega, rfl, rfl, by decide, fov_lt _ _ _ _ _, Lib.hid (by rw [vl_fov]; rfl), rfl⟩
  case round =>
    obtain ⟨j, m, r, n, hj, rfl, rfl, hm, hr, hv, rfl⟩ := hrel
    rcases (by omega : j = 3 ∨ j = 2 ∨ j = 1 ∨ j = 0) with rfl | rfl | rfl | rfl
    · obtain rfl : m = 0 := by omega
      clear hm
      have Hs := Lib.hid ((tN_succ 2 (vl .f64 r)).symm.trans hv.out)
      go_wp2_with (go_at_call 41; refine (sqrt_any _ _).mono ?_; rintro e w' ⟨q, nq, rfl, hq, lq, rfl⟩; rw [vl_fov, vl_fov] at hq; have Hq := Lib.hid hq; clear hq)
      go_roundw
      case rel => exact ⟨2, 1, _, _, by omega, rfl, by go_num, by decide, fov_lt _ _ _ _ _, by show tN 2 (vl .f64 _) = _; rw [vl_fov, vl_fov, Hq.out]; exact Hs.out, rfl⟩
      case measure => simp [intOf]
    · obtain rfl : m = 1 := by omega
      clear hm
      have Hs := Lib.hid ((tN_succ 1 (vl .f64 r)).symm.trans hv.out)
      go_wp2_with (go_at_call 41; refine (sqrt_any _ _).mono ?_; rintro e w' ⟨q, nq, rfl, hq, lq, rfl⟩; rw [vl_fov, vl_fov] at hq; have Hq := Lib.hid hq; clear hq)
      go_roundw
      case rel => exact ⟨1, 2, _, _, by omega, rfl, by go_num, by decide, fov_lt _ _ _ _ _, by show tN 1 (vl .f64 _) = _; rw [vl_fov, vl_fov, Hq.out]; exact Hs.out, rfl⟩
      case measure => simp [intOf]
    · obtain rfl : m = 2 := by omega
      clear hm
      have Hs := Lib.hid ((tN_succ 0 (vl .f64 r)).symm.trans hv.out)
      go_wp2_with (go_at_call 41; refine (sqrt_any _ _).mono ?_; rintro e w' ⟨q, nq, rfl, hq, lq, rfl⟩; rw [vl_fov, vl_fov] at hq; have Hq := Lib.hid hq; clear hq)
      go_roundw
      case rel => exact ⟨0, 3, _, _, by omega, rfl, by go_num, by decide, fov_lt _ _ _ _ _, by show tN 0 (vl .f64 _) = _; rw [vl_fov, vl_fov, Hq.out]; exact Hs.out, rfl⟩
      case measure => simp [intOf]
    · obtain rfl : m = 3 := by omega
      clear hm
      have Ht := Lib.hid ((tN_zero (vl .f64 r)).symm.trans hv.out)
      go_wp2
      obtain ⟨u, hu⟩ : ∃ u, u = fov .mul .f64 r r (w.drewN n) := ⟨_, rfl⟩
      rw [← hu]
      have Hu := Lib.hid (show vl .f64 u = fop .mul .f64 (vl .f64 r) (vl .f64 r) by rw [hu, vl_fov])
      clear hu
      go_loopw [11, 12] (fun p k wr => ∃ (j : Nat) (m : Int) (q n : Nat), j ≤ 8 ∧ p = .float .f64 q ∧ k = .int .i64 m ∧ m = 2 * j - 1 ∧ q < 2 ^ 64 ∧ Hid (oddS (vl .f64 u) j (vl .f64 q) = oddS (vl .f64 u) 8 (vl .f64 0)) ∧ wr = w.drewN n) (fun _ k _ => (intOf k + 1).toNat)
      case atStart => exact ⟨8, _, _, _, by omega, rfl, rfl, by decide, by decide, rfl, rfl⟩
      case round =>
        obtain ⟨j, m, q, n', hj', rfl, rfl, hm, hq, hv', rfl⟩ := hrel
        rcases (by omega : j = 8 ∨ j = 7 ∨ j = 6 ∨ j = 5 ∨ j = 4 ∨ j = 3 ∨ j = 2 ∨ j = 1 ∨ j = 0) with rfl | rfl | rfl | rfl | rfl | rfl | rfl | rfl | rfl
        · obtain rfl : m = 15 := by omega
          clear hm
          have hs := (oddS_succ (vl .f64 u) (vl .f64 q) 7).symm.trans hv'.out
          rw [stepS_at (vl .f64 u) (vl .f64 q) 7 15 rfl] at hs
          have Hs := Lib.hid hs
          clear hs
          go_wp2
          go_roundw
          case rel => exact ⟨7, 13, _, _, by omega, rfl, by go_num, by decide, fov_lt _ _ _ _ _, by show oddS (vl .f64 u) 7 (vl .f64 _) = _; rw [vl_fov, vl_fov, vl_fov]; exact Hs.out, rfl⟩
          case measure => simp [intOf]
        · obtain rfl : m = 13 := by omega
          clear hm
          have hs := (oddS_succ (vl .f64 u) (vl .f64 q) 6).symm.trans hv'.out
          rw [stepS_at (vl .f64 u) (vl .f64 q) 6 13 rfl] at hs
          have Hs := Lib.hid hs
          clear hs
          go_wp2
          go_roundw
          case rel => exact ⟨6, 11, _, _, by omega, rfl, by go_num, by decide, fov_lt _ _ _ _ _, by show oddS (vl .f64 u) 6 (vl .f64 _) = _; rw [vl_fov, vl_fov, vl_fov]; exact Hs.out, rfl⟩
          case measure => simp [intOf]
        · obtain rfl : m = 11 := by omega
          clear hm
          have hs := (oddS_succ (vl .f64 u) (vl .f64 q) 5).symm.trans hv'.out
          rw [stepS_at (vl .f64 u) (vl .f64 q) 5 11 rfl] at hs
          have Hs := Lib.hid hs
          clear hs
          go_wp2
          go_roundw
          case rel => exact ⟨5, 9, _, _, by omega, rfl, by go_num, by decide, fov_lt _ _ _ _ _, by show oddS (vl .f64 u) 5 (vl .f64 _) = _; rw [vl_fov, vl_fov, vl_fov]; exact Hs.out, rfl⟩
          case measure => simp [intOf]
        · obtain rfl : m = 9 := by omega
          clear hm
          have hs := (oddS_succ (vl .f64 u) (vl .f64 q) 4).symm.trans hv'.out
          rw [stepS_at (vl .f64 u) (vl .f64 q) 4 9 rfl] at hs
          have Hs := Lib.hid hs
          clear hs
          go_wp2
          go_roundw
          case rel => exact ⟨4, 7, _, _, by omega, rfl, by go_num, by decide, fov_lt _ _ _ _ _, by show oddS (vl .f64 u) 4 (vl .f64 _) = _; rw [vl_fov, vl_fov, vl_fov]; exact Hs.out, rfl⟩
          case measure => simp [intOf]
        · obtain rfl : m = 7 := by omega
          clear hm
          have hs := (oddS_succ (vl .f64 u) (vl .f64 q) 3).symm.trans hv'.out
          rw [stepS_at (vl .f64 u) (vl .f64 q) 3 7 rfl] at hs
          have Hs := Lib.hid hs
          clear hs
          go_wp2
          go_roundw
          case rel => exact ⟨3, 5, _, _, by omega, rfl, by go_num, by decide, fov_lt _ _ _ _ _, by show oddS (vl .f64 u) 3 (vl .f64 _) = _; rw [vl_fov, vl_fov, vl_fov]; exact Hs.out, rfl⟩
          case measure => simp [intOf]
        · obtain rfl : m = 5 := by omega
          clear hm
          have hs := (oddS_succ (vl .f64 u) (vl .f64 q) 2).symm.trans hv'.out
          rw [stepS_at (vl .f64 u) (vl .f64 q) 2 5 rfl] at hs
          have Hs := Lib.hid hs
          clear hs
          go_wp2
          go_roundw
          case rel => exact ⟨2, 3, _, _, by omega, rfl, by go_num, by decide, fov_lt _ _ _ _ _, by show oddS (vl .f64 u) 2 (vl .f64 _) = _; rw [vl_fov, vl_fov, vl_fov]; exact Hs.out, rfl⟩
          case measure => simp [intOf]
        · obtain rfl : m = 3 := by omega
          clear hm
          have hs := (oddS_succ (vl .f64 u) (vl .f64 q) 1).symm.trans hv'.out
          rw [stepS_at (vl .f64 u) (vl .f64 q) 1 3 rfl] at hs
          have Hs := Lib.hid hs
          clear hs
          go_wp2
          go_roundw
          case rel => exact ⟨1, 1, _, _, by omega, rfl, by go_num, by decide, fov_lt _ _ _ _ _, by show oddS (vl .f64 u) 1 (vl .f64 _) = _; rw [vl_fov, vl_fov, vl_fov]; exact Hs.out, rfl⟩
          case measure => simp [intOf]
        · obtain rfl : m = 1 := by omega
          clear hm
          have hs := (oddS_succ (vl .f64 u) (vl .f64 q) 0).symm.trans hv'.out
          rw [stepS_at (vl .f64 u) (vl .f64 q) 0 1 rfl] at hs
          have Hs := Lib.hid hs
          clear hs
          go_wp2
          go_roundw
          case rel => exact ⟨0, -1, _, _, by omega, rfl, by go_num, by decide, fov_lt _ _ _ _ _, by show oddS (vl .f64 u) 0 (vl .f64 _) = _; rw [vl_fov, vl_fov, vl_fov]; exact Hs.out, rfl⟩
          case measure => simp [intOf]
        · obtain rfl : m = -1 := by omega
          clear hm
          have HX := Lib.hid (show slope (ratio true y x) = fop .quo .f64 (fop .mul .f64 (vl .f64 4620693217682128896) (fop .mul .f64 (vl .f64 r) (vl .f64 q))) (vl .f64 4618760256179416344) by
            rw [slope_tN, ← Ht.out, slV_lit, ← Hu.out, ← hv'.out, oddS_zero])
          clear hadd hit hv' Hu Ht hv hj hj'
          cases c2
          · have h2 := H2.out
            cases c3
            · have h3 := H3.out
              clear H2 H3
              go_wp2
              go_ret
              exact ⟨_, _, rfl, by simp only [vl_fov, vl_neg]; rw [angV, HX.out]; rfl, fov_lt _ _ _ _ _, rfl⟩
            · have h3 := H3.out
              clear H2 H3
              go_wp2
              go_ret
              exact ⟨_, _, rfl, by simp only [vl_fov, vl_neg]; rw [angV, HX.out]; rfl, neg_lt (fov_lt _ _ _ _ _), rfl⟩
          · have h2 := H2.out
            cases c3
            · have h3 := H3.out
              clear H2 H3
              go_wp2
              go_ret
              exact ⟨_, _, rfl, by simp only [vl_fov, vl_neg]; rw [angV, HX.out]; rfl, fov_lt _ _ _ _ _, rfl⟩
            · have h3 := H3.out
              clear H2 H3
              go_wp2
              go_ret
              exact ⟨_, _, rfl, by simp only [vl_fov, vl_neg]; rw [angV, HX.out]; rfl, neg_lt (fov_lt _ _ _ _ _), rfl⟩

set_option maxHeartbeats 4000000 in
theorem angle_true_b (y x : Nat) (ly : y < 2 ^ 64) (lx : x < 2 ^ 64) (c2 c3 : Bool) (fy : fin .f64 (vl .f64 y) = true) (fx : fin .f64 (vl .f64 x) = true) (zx : (FloatKind.f64.format.order x 0 == some .eq) = true) (zy : (FloatKind.f64.format.order y 0 == some .eq) = false)
    (h1 : (FloatKind.f64.format.order (y % 9223372036854775808) (x % 9223372036854775808) == some .gt) = true) (h2 : (FloatKind.f64.format.order x 0 == some .lt) = c2) (h3 : (FloatKind.f64.format.order y 0 == some .lt) = c3) (w : World) :
    Calls Try.prog 40 #[.float .f64 y, .float .f64 x] w (FRet .f64 (angV true c2 c3 y x) w) := by
  have hadd := fun x y w => run_fov (P := Try.prog) .add rfl 25 .f64 x y w
  have hsub := fun x y w => run_fov (P := Try.prog) .sub rfl 25 .f64 x y w
  have hmul := fun x y w => run_fov (P := Try.prog) .mul rfl 25 .f64 x y w
  have hquo := fun x y w => run_fov (P := Try.prog) .quo rfl 25 .f64 x y w
  have hit := fun n w => run_convert_int_float (P := Try.prog) w 3 25 .i64 .f64 n (by rw [Try.underlying3]; rfl) Try.underlying25
  have hneg : ∀ (x : Nat) (w : World), (Op.unary .neg (.float .f64 x)).run Try.prog w = .ok (.float .f64 (Op.negFloat .f64 x)) w := fun _ _ => rfl
  have hy := subs_fin y
  have hx := subs_fin x
  rw [fy] at hy
  rw [fx] at hx
  have H2 := Lib.hid h2
  have H3 := Lib.hid h3
  clear fy fx h2 h3
  go_enter Try.func40, Try.ntmps40
  go_wp2_with (first | (have h_ := Hm; clear h_; go_at_call 22; refine (abs_any x lx _).mono ?_; rintro e w' ⟨m2, rfl, rfl⟩) | (go_at_call 22; refine (abs_any y ly _).mono ?_; rintro e w' ⟨m1, rfl, rfl⟩; have Hm := Lib.hid (rfl : m1 = m1)))
  clear hy hx h1 zx zy
  go_loopw [8, 9] (fun p k wr => ∃ (j : Nat) (m : Int) (r n : Nat), j ≤ 3 ∧ p = .float .f64 r ∧ k = .int .i64 m ∧ m = 3 - j ∧ r < 2 ^ 64 ∧ Hid (tN j (vl .f64 r) = tN 3 (ratio true y x)) ∧ wr = w.drewN n) (fun _ k _ => (3 - intOf k).toNat)
  case atStart => exact ⟨3, _, _, _, by omega, rfl, rfl, by decide, fov_lt _ _ _ _ _, Lib.hid (by rw [vl_fov]; rfl), rfl⟩
  case round =>
    obtain ⟨j, m, r, n, hj, rfl, rfl, hm, hr, hv, rfl⟩ := hrel
    rcases (by omega : j = 3 ∨ j = 2 ∨ j = 1 ∨ j = 0) with rfl | rfl | rfl | rfl
    · obtain rfl : m = 0 := by omega
      clear hm
      have Hs := Lib.hid ((tN_succ 2 (vl .f64 r)).symm.trans hv.out)
      go_wp2_with (go_at_call 41; refine (sqrt_any _ _).mono ?_; rintro e w' ⟨q, nq, rfl, hq, lq, rfl⟩; rw [vl_fov, vl_fov] at hq; have Hq := Lib.hid hq; clear hq)
      go_roundw
      case rel => exact ⟨2, 1, _, _, by omega, rfl, by go_num, by decide, fov_lt _ _ _ _ _, by show tN 2 (vl .f64 _) = _; rw [vl_fov, vl_fov, Hq.out]; exact Hs.out, rfl⟩
      case measure => simp [intOf]
    · obtain rfl : m = 1 := by omega
      clear hm
      have Hs := Lib.hid ((tN_succ 1 (vl .f64 r)).symm.trans hv.out)
      go_wp2_with (go_at_call 41; refine (sqrt_any _ _).mono ?_; rintro e w' ⟨q, nq, rfl, hq, lq, rfl⟩; rw [vl_fov, vl_fov] at hq; have Hq := Lib.hid hq; clear hq)
      go_roundw
      case rel => exact ⟨1, 2, _, _, by omega, rfl, by go_num, by decide, fov_lt _ _ _ _ _, by show tN 1 (vl .f64 _) = _; rw [vl_fov, vl_fov, Hq.out]; exact Hs.out, rfl⟩
      case measure => simp [intOf]
    · obtain rfl : m = 2 := by omega
      clear hm
      have Hs := Lib.hid ((tN_succ 0 (vl .f64 r)).symm.trans hv.out)
      go_wp2_with (go_at_call 41; refine (sqrt_any _ _).mono ?_; rintro e w' ⟨q, nq, rfl, hq, lq, rfl⟩; rw [vl_fov, vl_fov] at hq; have Hq := Lib.hid hq; clear hq)
      go_roundw
      case rel => exact ⟨0, 3, _, _, by omega, rfl, by go_num, by decide, fov_lt _ _ _ _ _, by show tN 0 (vl .f64 _) = _; rw [vl_fov, vl_fov, Hq.out]; exact Hs.out, rfl⟩
      case measure => simp [intOf]
    · obtain rfl : m = 3 := by omega
      clear hm
      have Ht := Lib.hid ((tN_zero (vl .f64 r)).symm.trans hv.out)
      go_wp2
      obtain ⟨u, hu⟩ : ∃ u, u = fov .mul .f64 r r (w.drewN n) := ⟨_, rfl⟩
      rw [← hu]
      have Hu := Lib.hid (show vl .f64 u = fop .mul .f64 (vl .f64 r) (vl .f64 r) by rw [hu, vl_fov])
      clear hu
      go_loopw [11, 12] (fun p k wr => ∃ (j : Nat) (m : Int) (q n : Nat), j ≤ 8 ∧ p = .float .f64 q ∧ k = .int .i64 m ∧ m = 2 * j - 1 ∧ q < 2 ^ 64 ∧ Hid (oddS (vl .f64 u) j (vl .f64 q) = oddS (vl .f64 u) 8 (vl .f64 0)) ∧ wr = w.drewN n) (fun _ k _ => (intOf k + 1).toNat)
      case atStart => exact ⟨8, _, _, _, by omega, rfl, rfl, by decide, by decide, rfl, rfl⟩
      case round =>
        obtain ⟨j, m, q, n', hj', rfl, rfl, hm, hq, hv', rfl⟩ := hrel
        rcases (by omega : j = 8 ∨ j = 7 ∨ j = 6 ∨ j = 5 ∨ j = 4 ∨ j = 3 ∨ j = 2 ∨ j = 1 ∨ j = 0) with rfl | rfl | rfl | rfl | rfl | rfl | rfl | rfl | rfl
        · obtain rfl : m = 15 := by omega
          clear hm
          have hs := (oddS_succ (vl .f64 u) (vl .f64 q) 7).symm.trans hv'.out
          rw [stepS_at (vl .f64 u) (vl .f64 q) 7 15 rfl] at hs
          have Hs := Lib.hid hs
          clear hs
          go_wp2
          go_roundw
          case rel => exact ⟨7, 13, _, _, by omega, rfl, by go_num, by decide, fov_lt _ _ _ _ _, by show oddS (vl .f64 u) 7 (vl .f64 _) = _; rw [vl_fov, vl_fov, vl_fov]; exact Hs.out, rfl⟩
          case measure => simp [intOf]
        · obtain rfl : m = 13 := by omega
          clear hm
          have hs := (oddS_succ (vl .f64 u) (vl .f64 q) 6).symm.trans hv'.out
          rw [stepS_at (vl .f64 u) (vl .f64 q) 6 13 rfl] at hs
          have Hs := Lib.hid hs
          clear hs
          go_wp2
          go_roundw
          case rel => exact ⟨6, 11, _, _, by omega, rfl, by go_num, by decide, fov_lt _ _ _ _ _, by show oddS (vl .f64 u) 6 (vl .f64 _) = _; rw [vl_fov, vl_fov, vl_fov]; exact Hs.out, rfl⟩
          case measure => simp [intOf]
        · obtain rfl : m = 11 := by omega
          clear hm
          have hs := (oddS_succ (vl .f64 u) (vl .f64 q) 5).symm.trans hv'.out
          rw [stepS_at (vl .f64 u) (vl .f64 q) 5 11 rfl] at hs
          have Hs := Lib.hid hs
          clear hs
          go_wp2
          go_roundw
          case rel => exact ⟨5, 9, _, _, by omega, rfl, by go_num, by decide, fov_lt _ _ _ _ _, by show oddS (vl .f64 u) 5 (vl .f64 _) = _; rw [vl_fov, vl_fov, vl_fov]; exact Hs.out, rfl⟩
          case measure => simp [intOf]
        · obtain rfl : m = 9 := by omega
          clear hm
          have hs := (oddS_succ (vl .f64 u) (vl .f64 q) 4).symm.trans hv'.out
          rw [stepS_at (vl .f64 u) (vl .f64 q) 4 9 rfl] at hs
          have Hs := Lib.hid hs
          clear hs
          go_wp2
          go_roundw
          case rel => exact ⟨4, 7, _, _, by omega, rfl, by go_num, by decide, fov_lt _ _ _ _ _, by show oddS (vl .f64 u) 4 (vl .f64 _) = _; rw [vl_fov, vl_fov, vl_fov]; exact Hs.out, rfl⟩
          case measure => simp [intOf]
        · obtain rfl : m = 7 := by omega
          clear hm
          have hs := (oddS_succ (vl .f64 u) (vl .f64 q) 3).symm.trans hv'.out
          rw [stepS_at (vl .f64 u) (vl .f64 q) 3 7 rfl] at hs
          have Hs := Lib.hid hs
          clear hs
          go_wp2
          go_roundw
          case rel => exact ⟨3, 5, _, _, by omega, rfl, by go_num, by decide, fov_lt _ _ _ _ _, by show oddS (vl .f64 u) 3 (vl .f64 _) = _; rw [vl_fov, vl_fov, vl_fov]; exact Hs.out, rfl⟩
          case measure => simp [intOf]
        · obtain rfl : m = 5 := by omega
          clear hm
          have hs := (oddS_succ (vl .f64 u) (vl .f64 q) 2).symm.trans hv'.out
          rw [stepS_at (vl .f64 u) (vl .f64 q) 2 5 rfl] at hs
          have Hs := Lib.hid hs
          clear hs
          go_wp2
          go_roundw
          case rel => exact ⟨2, 3, _, _, by omega, rfl, by go_num, by decide, fov_lt _ _ _ _ _, by show oddS (vl .f64 u) 2 (vl .f64 _) = _; rw [vl_fov, vl_fov, vl_fov]; exact Hs.out, rfl⟩
          case measure => simp [intOf]
        · obtain rfl : m = 3 := by omega
          clear hm
          have hs := (oddS_succ (vl .f64 u) (vl .f64 q) 1).symm.trans hv'.out
          rw [stepS_at (vl .f64 u) (vl .f64 q) 1 3 rfl] at hs
          have Hs := Lib.hid hs
          clear hs
          go_wp2
          go_roundw
          case rel => exact ⟨1, 1, _, _, by omega, rfl, by go_num, by decide, fov_lt _ _ _ _ _, by show oddS (vl .f64 u) 1 (vl .f64 _) = _; rw [vl_fov, vl_fov, vl_fov]; exact Hs.out, rfl⟩
          case measure => simp [intOf]
        · obtain rfl : m = 1 := by omega
          clear hm
          have hs := (oddS_succ (vl .f64 u) (vl .f64 q) 0).symm.trans hv'.out
          rw [stepS_at (vl .f64 u) (vl .f64 q) 0 1 rfl] at hs
          have Hs := Lib.hid hs
          clear hs
          go_wp2
          go_roundw
          case rel => exact ⟨0, -1, _, _, by omega, rfl, by go_num, by decide, fov_lt _ _ _ _ _, by show oddS (vl .f64 u) 0 (vl .f64 _) = _; rw [vl_fov, vl_fov, vl_fov]; exact Hs.out, rfl⟩
          case measure => simp [intOf]
        · obtain rfl : m = -1 := by omega
          clear hm
          have HX := Lib.hid (show slope (ratio true y x) = fop .quo .f64 (fop .mul .f64 (vl .f64 4620693217682128896) (fop .mul .f64 (vl .f64 r) (vl .f64 q))) (vl .f64 4618760256179416344) by
            rw [slope_tN, ← Ht.out, slV_lit, ← Hu.out, ← hv'.out, oddS_zero])
          clear hadd hit hv' Hu Ht hv hj hj'
          cases c2
          · have h2 := H2.out
            cases c3
            · have h3 := H3.out
              clear H2 H3
              go_wp2
              go_ret
              exact ⟨_, _, rfl, by simp only [vl_fov, vl_neg]; rw [angV, HX.out]; rfl, fov_lt _ _ _ _ _, rfl⟩
            · have h3 := H3.out
              clear H2 H3
              go_wp2
              go_ret
              exact ⟨_, _, rfl, by simp only [vl_fov, vl_neg]; rw [angV, HX.out]; rfl, neg_lt (fov_lt _ _ _ _ _), rfl⟩
          · have h2 := H2.out
            cases c3
            · have h3 := H3.out
              clear H2 H3
              go_wp2
              go_ret
              exact ⟨_, _, rfl, by simp only [vl_fov, vl_neg]; rw [angV, HX.out]; rfl, fov_lt _ _ _ _ _, rfl⟩
            · have h3 := H3.out
              clear H2 H3
              go_wp2
              go_ret
              exact ⟨_, _, rfl, by simp only [vl_fov, vl_neg]; rw [angV, HX.out]; rfl, neg_lt (fov_lt _ _ _ _ _), rfl⟩

set_option maxHeartbeats 4000000 in
theorem angle_false_a (y x : Nat) (ly : y < 2 ^ 64) (lx : x < 2 ^ 64) (c2 c3 : Bool) (fy : fin .f64 (vl .f64 y) = true) (fx : fin .f64 (vl .f64 x) = true) (zx : (FloatKind.f64.format.order x 0 == some .eq) = false)
    (h1 : (FloatKind.f64.format.order (y % 9223372036854775808) (x % 9223372036854775808) == some .gt) = false) (h2 : (FloatKind.f64.format.order x 0 == some .lt) = c2) (h3 : (FloatKind.f64.format.order y 0 == some .lt) = c3) (w : World) :
    Calls Try.prog 40 #[.float .f64 y, .float .f64 x] w (FRet .f64 (angV false c2 c3 y x) w) := by
  have hadd := fun x y w => run_fov (P := Try.prog) .add rfl 25 .f64 x y w
  have hsub := fun x y w => run_fov (P := Try.prog) .sub rfl 25 .f64 x y w
  have hmul := fun x y w => run_fov (P := Try.prog) .mul rfl 25 .f64 x y w
  have hquo := fun x y w => run_fov (P := Try.prog) .quo rfl 25 .f64 x y w
  have hit := fun n w => run_convert_int_float (P := Try.prog) w 3 25 .i64 .f64 n (by rw [Try.underlying3]; rfl) Try.underlying25
  have hneg : ∀ (x : Nat) (w : World), (Op.unary .neg (.float .f64 x)).run Try.prog w = .ok (.float .f64 (Op.negFloat .f64 x)) w := fun _ _ => rfl
  have hy := subs_fin y
  have hx := subs_fin x
  rw [fy] at hy
  rw [fx] at hx
  have H2 := Lib.hid h2
  have H3 := Lib.hid h3
  clear fy fx h2 h3
  go_enter Try.func40, Try.ntmps40
  go_wp2_with (first | (have h_ := Hm; clear h_; go_at_call 22; refine (abs_any x lx _).mono ?_; rintro e w' ⟨m2, rfl, rfl⟩) | (go_at_call 22; refine (abs_any y ly _).mono ?_; rintro e w' ⟨m1, rfl, rfl⟩; have Hm := Lib.hid (rfl : m1 = m1)))
  clear hy hx h1 zx
  go_loopw [8, 9] (fun p k wr => ∃ (j : Nat) (m : Int) (r n : Nat), j ≤ 3 ∧ p = .float .f64 r ∧ k = .int .i64 m ∧ m = 3 - j ∧ r < 2 ^ 64 ∧ Hid (tN j (vl .f64 r) = tN 3 (ratio false y x)) ∧ wr = w.drewN n) (fun _ k _ => (3 - intOf k).toNat)
  case atStart => exact ⟨3, _, _, _, by omega, rfl, rfl, by decide, fov_lt _ _ _ _ _, Lib.hid (by rw [vl_fov]; rfl), rfl⟩
  case round =>
    obtain ⟨j, m, r, n, hj, rfl, rfl, hm, hr, hv, rfl⟩ := hrel
    rcases (by omega : j = 3 ∨ j = 2 ∨ j = 1 ∨ j = 0) with rfl | rfl | rfl | rfl
    · obtain rfl : m = 0 := by omega
      clear hm
      have Hs := Lib.hid ((tN_succ 2 (vl .f64 r)).symm.trans hv.out)
      go_wp2_with (go_at_call 41; refine (sqrt_any _ _).mono ?_; rintro e w' ⟨q, nq, rfl, hq, lq, rfl⟩; rw [vl_fov, vl_fov] at hq; have Hq := Lib.hid hq; clear hq)
      go_roundw
      case rel => exact ⟨2, 1, _, _, by omega, rfl, by go_num, by decide, fov_lt _ _ _ _ _, by show tN 2 (vl .f64 _) = _; rw [vl_fov, vl_fov, Hq.out]; exact Hs.out, rfl⟩
      case measure => simp [intOf]
    · obtain rfl : m = 1 := by omega
      clear hm
      have Hs := Lib.hid ((tN_succ 1 (vl .f64 r)).symm.trans hv.out)
      go_wp2_with (go_at_call 41; refine (sqrt_any _ _).mono ?_; rintro e w' ⟨q, nq, rfl, hq, lq, rfl⟩; rw [vl_fov, vl_fov] at hq; have Hq := Lib.hid hq; clear hq)
      go_roundw
      case rel => exact ⟨1, 2, _, _, by omega, rfl, by go_num, by decide, fov_lt _ _ _ _ _, by show tN 1 (vl .f64 _) = _; rw [vl_fov, vl_fov, Hq.out]; exact Hs.out, rfl⟩
      case measure => simp [intOf]
    · obtain rfl : m = 2 := by omega
      clear hm
      have Hs := Lib.hid ((tN_succ 0 (vl .f64 r)).symm.trans hv.out)
      go_wp2_with (go_at_call 41; refine (sqrt_any _ _).mono ?_; rintro e w' ⟨q, nq, rfl, hq, lq, rfl⟩; rw [vl_fov, vl_fov] at hq; have Hq := Lib.hid hq; clear hq)
      go_roundw
      case rel => exact ⟨0, 3, _, _, by omega, rfl, by go_num, by decide, fov_lt _ _ _ _ _, by show tN 0 (vl .f64 _) = _; rw [vl_fov, vl_fov, Hq.out]; exact Hs.out, rfl⟩
      case measure => simp [intOf]
    · obtain rfl : m = 3 := by omega
      clear hm
      have Ht := Lib.hid ((tN_zero (vl .f64 r)).symm.trans hv.out)
      go_wp2
      obtain ⟨u, hu⟩ : ∃ u, u = fov .mul .f64 r r (w.drewN n) := ⟨_, rfl⟩
      rw [← hu]
      have Hu := Lib.hid (show vl .f64 u = fop .mul .f64 (vl .f64 r) (vl .f64 r) by rw [hu, vl_fov])
      clear hu
      go_loopw [11, 12] (fun p k wr => ∃ (j : Nat) (m : Int) (q n : Nat), j ≤ 8 ∧ p = .float .f64 q ∧ k = .int .i64 m ∧ m = 2 * j - 1 ∧ q < 2 ^ 64 ∧ Hid (oddS (vl .f64 u) j (vl .f64 q) = oddS (vl .f64 u) 8 (vl .f64 0)) ∧ wr = w.drewN n) (fun _ k _ => (intOf k + 1).toNat)
      case atStart => exact ⟨8, _, _, _, by omega, rfl, rfl, by decide, by decide, rfl, rfl⟩
      case round =>
        obtain ⟨j, m, q, n', hj', rfl, rfl, hm, hq, hv', rfl⟩ := hrel
        rcases (by omega : j = 8 ∨ j = 7 ∨ j = 6 ∨ j = 5 ∨ j = 4 ∨ j = 3 ∨ j = 2 ∨ j = 1 ∨ j = 0) with rfl | rfl | rfl | rfl | rfl | rfl | rfl | rfl | rfl
        · obtain rfl : m = 15 := by omega
          clear hm
          have hs := (oddS_succ (vl .f64 u) (vl .f64 q) 7).symm.trans hv'.out
          rw [stepS_at (vl .f64 u) (vl .f64 q) 7 15 rfl] at hs
          have Hs := Lib.hid hs
          clear hs
          go_wp2
          go_roundw
          case rel => exact ⟨7, 13, _, _, by omega, rfl, by go_num, by decide, fov_lt _ _ _ _ _, by show oddS (vl .f64 u) 7 (vl .f64 _) = _; rw [vl_fov, vl_fov, vl_fov]; exact Hs.out, rfl⟩
          case measure => simp [intOf]
        · obtain rfl : m = 13 := by omega
          clear hm
          have hs := (oddS_succ (vl .f64 u) (vl .f64 q) 6).symm.trans hv'.out
          rw [stepS_at (vl .f64 u) (vl .f64 q) 6 13 rfl] at hs
          have Hs := Lib.hid hs
          clear hs
          go_wp2
          go_roundw
          case rel => exact ⟨6, 11, _, _, by omega, rfl, by go_num, by decide, fov_lt _ _ _ _ _, by show oddS (vl .f64 u) 6 (vl .f64 _) = _; rw [vl_fov, vl_fov, vl_fov]; exact Hs.out, rfl⟩
          case measure => simp [intOf]
        · obtain rfl : m = 11 := by omega
          clear hm
          have hs := (oddS_succ (vl .f64 u) (vl .f64 q) 5).symm.trans hv'.out
          rw [stepS_at (vl .f64 u) (vl .f64 q) 5 11 rfl] at hs
          have Hs := Lib.hid hs
          clear hs
          go_wp2
          go_roundw
          case rel => exact ⟨5, 9, _, _, by omega, rfl, by go_num, by decide, fov_lt _ _ _ _ _, by show oddS (vl .f64 u) 5 (vl .f64 _) = _; rw [vl_fov, vl_fov, vl_fov]; exact Hs.out, rfl⟩
          case measure => simp [intOf]
        · obtain rfl : m = 9 := by omega
          clear hm
          have hs := (oddS_succ (vl .f64 u) (vl .f64 q) 4).symm.trans hv'.out
          rw [stepS_at (vl .f64 u) (vl .f64 q) 4 9 rfl] at hs
          have Hs := Lib.hid hs
          clear hs
          go_wp2
          go_roundw
          case rel => exact ⟨4, 7, _, _, by omega, rfl, by go_num, by decide, fov_lt _ _ _ _ _, by show oddS (vl .f64 u) 4 (vl .f64 _) = _; rw [vl_fov, vl_fov, vl_fov]; exact Hs.out, rfl⟩
          case measure => simp [intOf]
        · obtain rfl : m = 7 := by omega
          clear hm
          have hs := (oddS_succ (vl .f64 u) (vl .f64 q) 3).symm.trans hv'.out
          rw [stepS_at (vl .f64 u) (vl .f64 q) 3 7 rfl] at hs
          have Hs := Lib.hid hs
          clear hs
          go_wp2
          go_roundw
          case rel => exact ⟨3, 5, _, _, by omega, rfl, by go_num, by decide, fov_lt _ _ _ _ _, by show oddS (vl .f64 u) 3 (vl .f64 _) = _; rw [vl_fov, vl_fov, vl_fov]; exact Hs.out, rfl⟩
          case measure => simp [intOf]
        · obtain rfl : m = 5 := by omega
          clear hm
          have hs := (oddS_succ (vl .f64 u) (vl .f64 q) 2).symm.trans hv'.out
          rw [stepS_at (vl .f64 u) (vl .f64 q) 2 5 rfl] at hs
          have Hs := Lib.hid hs
          clear hs
          go_wp2
          go_roundw
          case rel => exact ⟨2, 3, _, _, by omega, rfl, by go_num, by decide, fov_lt _ _ _ _ _, by show oddS (vl .f64 u) 2 (vl .f64 _) = _; rw [vl_fov, vl_fov, vl_fov]; exact Hs.out, rfl⟩
          case measure => simp [intOf]
        · obtain rfl : m = 3 := by omega
          clear hm
          have hs := (oddS_succ (vl .f64 u) (vl .f64 q) 1).symm.trans hv'.out
          rw [stepS_at (vl .f64 u) (vl .f64 q) 1 3 rfl] at hs
          have Hs := Lib.hid hs
          clear hs
          go_wp2
          go_roundw
          case rel => exact ⟨1, 1, _, _, by omega, rfl, by go_num, by decide, fov_lt _ _ _ _ _, by show oddS (vl .f64 u) 1 (vl .f64 _) = _; rw [vl_fov, vl_fov, vl_fov]; exact Hs.out, rfl⟩
          case measure => simp [intOf]
        · obtain rfl : m = 1 := by omega
          clear hm
          have hs := (oddS_succ (vl .f64 u) (vl .f64 q) 0).symm.trans hv'.out
          rw [stepS_at (vl .f64 u) (vl .f64 q) 0 1 rfl] at hs
          have Hs := Lib.hid hs
          clear hs
          go_wp2
          go_roundw
          case rel => exact ⟨0, -1, _, _, by omega, rfl, by go_num, by decide, fov_lt _ _ _ _ _, by show oddS (vl .f64 u) 0 (vl .f64 _) = _; rw [vl_fov, vl_fov, vl_fov]; exact Hs.out, rfl⟩
          case measure => simp [intOf]
        · obtain rfl : m = -1 := by omega
          clear hm
          have HX := Lib.hid (show slope (ratio false y x) = fop .quo .f64 (fop .mul .f64 (vl .f64 4620693217682128896) (fop .mul .f64 (vl .f64 r) (vl .f64 q))) (vl .f64 4618760256179416344) by
            rw [slope_tN, ← Ht.out, slV_lit, ← Hu.out, ← hv'.out, oddS_zero])
          clear hadd hit hv' Hu Ht hv hj hj'
          cases c2
          · have h2 := H2.out
            cases c3
            · have h3 := H3.out
              clear H2 H3
              go_wp2
              go_ret
              exact ⟨_, _, rfl, by simp only [vl_fov, vl_neg]; rw [angV, HX.out]; rfl, fov_lt _ _ _ _ _, rfl⟩
            · have h3 := H3.out
              clear H2 H3
              go_wp2
              go_ret
              exact ⟨_, _, rfl, by simp only [vl_fov, vl_neg]; rw [angV, HX.out]; rfl, neg_lt (fov_lt _ _ _ _ _), rfl⟩
          · have h2 := H2.out
            cases c3
            · have h3 := H3.out
              clear H2 H3
              go_wp2
              go_ret
              exact ⟨_, _, rfl, by simp only [vl_fov, vl_neg]; rw [angV, HX.out]; rfl, fov_lt _ _ _ _ _, rfl⟩
            · have h3 := H3.out
              clear H2 H3
              go_wp2
              go_ret
              exact ⟨_, _, rfl, by simp only [vl_fov, vl_neg]; rw [angV, HX.out]; rfl, neg_lt (fov_lt _ _ _ _ _), rfl⟩

set_option maxHeartbeats 4000000 in
theorem angle_false_b (y x : Nat) (ly : y < 2 ^ 64) (lx : x < 2 ^ 64) (c2 c3 : Bool) (fy : fin .f64 (vl .f64 y) = true) (fx : fin .f64 (vl .f64 x) = true) (zx : (FloatKind.f64.format.order x 0 == some .eq) = true) (zy : (FloatKind.f64.format.order y 0 == some .eq) = false)
    (h1 : (FloatKind.f64.format.order (y % 9223372036854775808) (x % 9223372036854775808) == some .gt) = false) (h2 : (FloatKind.f64.format.order x 0 == some .lt) = c2) (h3 : (FloatKind.f64.format.order y 0 == some .lt) = c3) (w : World) :
    Calls Try.prog 40 #[.float .f64 y, .float .f64 x] w (FRet .f64 (angV false c2 c3 y x) w) := by
  have hadd := fun x y w => run_fov (P := Try.prog) .add rfl 25 .f64 x y w
  have hsub := fun x y w => run_fov (P := Try.prog) .sub rfl 25 .f64 x y w
  have hmul := fun x y w => run_fov (P := Try.prog) .mul rfl 25 .f64 x y w
  have hquo := fun x y w => run_fov (P := Try.prog) .quo rfl 25 .f64 x y w
  have hit := fun n w => run_convert_int_float (P := Try.prog) w 3 25 .i64 .f64 n (by rw [Try.underlying3]; rfl) Try.underlying25
  have hneg : ∀ (x : Nat) (w : World), (Op.unary .neg (.float .f64 x)).run Try.prog w = .ok (.float .f64 (Op.negFloat .f64 x)) w := fun _ _ => rfl
  have hy := subs_fin y
  have hx := subs_fin x
  rw [fy] at hy
  rw [fx] at hx
  have H2 := Lib.hid h2
  have H3 := Lib.hid h3
  clear fy fx h2 h3
  go_enter Try.func40, Try.ntmps40
  go_wp2_with (first | (have h_ := Hm; clear h_; go_at_call 22; refine (abs_any x lx _).mono ?_; rintro e w' ⟨m2, rfl, rfl⟩) | (go_at_call 22; refine (abs_any y ly _).mono ?_; rintro e w' ⟨m1, rfl, rfl⟩; have Hm := Lib.hid (rfl : m1 = m1)))
  clear hy hx h1 zx zy
  go_loopw [8, 9] (fun p k wr => ∃ (j : Nat) (m : Int) (r n : Nat), j ≤ 3 ∧ p = .float .f64 r ∧ k = .int .i64 m ∧ m = 3 - j ∧ r < 2 ^ 64 ∧ Hid (tN j (vl .f64 r) = tN 3 (ratio false y x)) ∧ wr = w.drewN n) (fun _ k _ => (3 - intOf k).toNat)
  case atStart => exact ⟨3, _, _, _, by omega, rfl, rfl, by decide, fov_lt _ _ _ _ _, Lib.hid (by rw [vl_fov]; rfl), rfl⟩
  case round =>
    obtain ⟨j, m, r, n, hj, rfl, rfl, hm, hr, hv, rfl⟩ := hrel
    rcases (by omega : j = 3 ∨ j = 2 ∨ j = 1 ∨ j = 0) with rfl | rfl | rfl | rfl
    · obtain rfl : m = 0 := by omega
      clear hm
      have Hs := Lib.hid ((tN_succ 2 (vl .f64 r)).symm.trans hv.out)
      go_wp2_with (go_at_call 41; refine (sqrt_any _ _).mono ?_; rintro e w' ⟨q, nq, rfl, hq, lq, rfl⟩; rw [vl_fov, vl_fov] at hq; have Hq := Lib.hid hq; clear hq)
      go_roundw
      case rel => exact ⟨2, 1, _, _, by omega, rfl, by go_num, by decide, fov_lt _ _ _ _ _, by show tN 2 (vl .f64 _) = _; rw [vl_fov, vl_fov, Hq.out]; exact Hs.out, rfl⟩
      case measure => simp [intOf]
    · obtain rfl : m = 1 := by omega
      clear hm
      have Hs := Lib.hid ((tN_succ 1 (vl .f64 r)).symm.trans hv.out)
      go_wp2_with (go_at_call 41; refine (sqrt_any _ _).mono ?_; rintro e w' ⟨q, nq, rfl, hq, lq, rfl⟩; rw [vl_fov, vl_fov] at hq; have Hq := Lib.hid hq; clear hq)
      go_roundw
      case rel => exact ⟨1, 2, _, _, by omega, rfl, by go_num, by decide, fov_lt _ _ _ _ _, by show tN 1 (vl .f64 _) = _; rw [vl_fov, vl_fov, Hq.out]; exact Hs.out, rfl⟩
      case measure => simp [intOf]
    · obtain rfl : m = 2 := by omega
      clear hm
      have Hs := Lib.hid ((tN_succ 0 (vl .f64 r)).symm.trans hv.out)
      go_wp2_with (go_at_call 41; refine (sqrt_any _ _).mono ?_; rintro e w' ⟨q, nq, rfl, hq, lq, rfl⟩; rw [vl_fov, vl_fov] at hq; have Hq := Lib.hid hq; clear hq)
      go_roundw
      case rel => exact ⟨0, 3, _, _, by omega, rfl, by go_num, by decide, fov_lt _ _ _ _ _, by show tN 0 (vl .f64 _) = _; rw [vl_fov, vl_fov, Hq.out]; exact Hs.out, rfl⟩
      case measure => simp [intOf]
    · obtain rfl : m = 3 := by omega
      clear hm
      have Ht := Lib.hid ((tN_zero (vl .f64 r)).symm.trans hv.out)
      go_wp2
      obtain ⟨u, hu⟩ : ∃ u, u = fov .mul .f64 r r (w.drewN n) := ⟨_, rfl⟩
      rw [← hu]
      have Hu := Lib.hid (show vl .f64 u = fop .mul .f64 (vl .f64 r) (vl .f64 r) by rw [hu, vl_fov])
      clear hu
      go_loopw [11, 12] (fun p k wr => ∃ (j : Nat) (m : Int) (q n : Nat), j ≤ 8 ∧ p = .float .f64 q ∧ k = .int .i64 m ∧ m = 2 * j - 1 ∧ q < 2 ^ 64 ∧ Hid (oddS (vl .f64 u) j (vl .f64 q) = oddS (vl .f64 u) 8 (vl .f64 0)) ∧ wr = w.drewN n) (fun _ k _ => (intOf k + 1).toNat)
      case atStart => exact ⟨8, _, _, _, by omega, rfl, rfl, by decide, by decide, rfl, rfl⟩
      case round =>
        obtain ⟨j, m, q, n', hj', rfl, rfl, hm, hq, hv', rfl⟩ := hrel
        rcases (by omega : j = 8 ∨ j = 7 ∨ j = 6 ∨ j = 5 ∨ j = 4 ∨ j = 3 ∨ j = 2 ∨ j = 1 ∨ j = 0) with rfl | rfl | rfl | rfl | rfl | rfl | rfl | rfl | rfl
        · obtain rfl : m = 15 := by omega
          clear hm
          have hs := (oddS_succ (vl .f64 u) (vl .f64 q) 7).symm.trans hv'.out
          rw [stepS_at (vl .f64 u) (vl .f64 q) 7 15 rfl] at hs
          have Hs := Lib.hid hs
          clear hs
          go_wp2
          go_roundw
          case rel => exact ⟨7, 13, _, _, by omega, rfl, by go_num, by decide, fov_lt _ _ _ _ _, by show oddS (vl .f64 u) 7 (vl .f64 _) = _; rw [vl_fov, vl_fov, vl_fov]; exact Hs.out, rfl⟩
          case measure => simp [intOf]
        · obtain rfl : m = 13 := by omega
          clear hm
          have hs := (oddS_succ (vl .f64 u) (vl .f64 q) 6).symm.trans hv'.out
          rw [stepS_at (vl .f64 u) (vl .f64 q) 6 13 rfl] at hs
          have Hs := Lib.hid hs
          clear hs
          go_wp2
          go_roundw
          case rel => exact ⟨6, 11, _, _, by omega, rfl, by go_num, by decide, fov_lt _ _ _ _ _, by show oddS (vl .f64 u) 6 (vl .f64 _) = _; rw [vl_fov, vl_fov, vl_fov]; exact Hs.out, rfl⟩
          case measure => simp [intOf]
        · obtain rfl : m = 11 := by omega
          clear hm
          have hs := (oddS_succ (vl .f64 u) (vl .f64 q) 5).symm.trans hv'.out
          rw [stepS_at (vl .f64 u) (vl .f64 q) 5 11 rfl] at hs
          have Hs := Lib.hid hs
          clear hs
          go_wp2
          go_roundw
          case rel => exact ⟨5, 9, _, _, by omega, rfl, by go_num, by decide, fov_lt _ _ _ _ _, by show oddS (vl .f64 u) 5 (vl .f64 _) = _; rw [vl_fov, vl_fov, vl_fov]; exact Hs.out, rfl⟩
          case measure => simp [intOf]
        · obtain rfl : m = 9 := by omega
          clear hm
          have hs := (oddS_succ (vl .f64 u) (vl .f64 q) 4).symm.trans hv'.out
          rw [stepS_at (vl .f64 u) (vl .f64 q) 4 9 rfl] at hs
          have Hs := Lib.hid hs
          clear hs
          go_wp2
          go_roundw
          case rel => exact ⟨4, 7, _, _, by omega, rfl, by go_num, by decide, fov_lt _ _ _ _ _, by show oddS (vl .f64 u) 4 (vl .f64 _) = _; rw [vl_fov, vl_fov, vl_fov]; exact Hs.out, rfl⟩
          case measure => simp [intOf]
        · obtain rfl : m = 7 := by omega
          clear hm
          have hs := (oddS_succ (vl .f64 u) (vl .f64 q) 3).symm.trans hv'.out
          rw [stepS_at (vl .f64 u) (vl .f64 q) 3 7 rfl] at hs
          have Hs := Lib.hid hs
          clear hs
          go_wp2
          go_roundw
          case rel => exact ⟨3, 5, _, _, by omega, rfl, by go_num, by decide, fov_lt _ _ _ _ _, by show oddS (vl .f64 u) 3 (vl .f64 _) = _; rw [vl_fov, vl_fov, vl_fov]; exact Hs.out, rfl⟩
          case measure => simp [intOf]
        · obtain rfl : m = 5 := by omega
          clear hm
          have hs := (oddS_succ (vl .f64 u) (vl .f64 q) 2).symm.trans hv'.out
          rw [stepS_at (vl .f64 u) (vl .f64 q) 2 5 rfl] at hs
          have Hs := Lib.hid hs
          clear hs
          go_wp2
          go_roundw
          case rel => exact ⟨2, 3, _, _, by omega, rfl, by go_num, by decide, fov_lt _ _ _ _ _, by show oddS (vl .f64 u) 2 (vl .f64 _) = _; rw [vl_fov, vl_fov, vl_fov]; exact Hs.out, rfl⟩
          case measure => simp [intOf]
        · obtain rfl : m = 3 := by omega
          clear hm
          have hs := (oddS_succ (vl .f64 u) (vl .f64 q) 1).symm.trans hv'.out
          rw [stepS_at (vl .f64 u) (vl .f64 q) 1 3 rfl] at hs
          have Hs := Lib.hid hs
          clear hs
          go_wp2
          go_roundw
          case rel => exact ⟨1, 1, _, _, by omega, rfl, by go_num, by decide, fov_lt _ _ _ _ _, by show oddS (vl .f64 u) 1 (vl .f64 _) = _; rw [vl_fov, vl_fov, vl_fov]; exact Hs.out, rfl⟩
          case measure => simp [intOf]
        · obtain rfl : m = 1 := by omega
          clear hm
          have hs := (oddS_succ (vl .f64 u) (vl .f64 q) 0).symm.trans hv'.out
          rw [stepS_at (vl .f64 u) (vl .f64 q) 0 1 rfl] at hs
          have Hs := Lib.hid hs
          clear hs
          go_wp2
          go_roundw
          case rel => exact ⟨0, -1, _, _, by omega, rfl, by go_num, by decide, fov_lt _ _ _ _ _, by show oddS (vl .f64 u) 0 (vl .f64 _) = _; rw [vl_fov, vl_fov, vl_fov]; exact Hs.out, rfl⟩
          case measure => simp [intOf]
        · obtain rfl : m = -1 := by omega
          clear hm
          have HX := Lib.hid (show slope (ratio false y x) = fop .quo .f64 (fop .mul .f64 (vl .f64 4620693217682128896) (fop .mul .f64 (vl .f64 r) (vl .f64 q))) (vl .f64 4618760256179416344) by
            rw [slope_tN, ← Ht.out, slV_lit, ← Hu.out, ← hv'.out, oddS_zero])
          clear hadd hit hv' Hu Ht hv hj hj'
          cases c2
          · have h2 := H2.out
            cases c3
            · have h3 := H3.out
              clear H2 H3
              go_wp2
              go_ret
              exact ⟨_, _, rfl, by simp only [vl_fov, vl_neg]; rw [angV, HX.out]; rfl, fov_lt _ _ _ _ _, rfl⟩
            · have h3 := H3.out
              clear H2 H3
              go_wp2
              go_ret
              exact ⟨_, _, rfl, by simp only [vl_fov, vl_neg]; rw [angV, HX.out]; rfl, neg_lt (fov_lt _ _ _ _ _), rfl⟩
          · have h2 := H2.out
            cases c3
            · have h3 := H3.out
              clear H2 H3
              go_wp2
              go_ret
              exact ⟨_, _, rfl, by simp only [vl_fov, vl_neg]; rw [angV, HX.out]; rfl, fov_lt _ _ _ _ _, rfl⟩
            · have h3 := H3.out
              clear H2 H3
              go_wp2
              go_ret
              exact ⟨_, _, rfl, by simp only [vl_fov, vl_neg]; rw [angV, HX.out]; rfl, neg_lt (fov_lt _ _ _ _ _), rfl⟩

theorem angleWide_any (y x : Nat) (ly : y < 2 ^ 64) (lx : x < 2 ^ 64) (c1 c2 c3 : Bool) (fy : fin .f64 (vl .f64 y) = true) (fx : fin .f64 (vl .f64 x) = true)
    (hz : (FloatKind.f64.format.order y 0 == some .eq && FloatKind.f64.format.order x 0 == some .eq) = false)
    (h1 : (FloatKind.f64.format.order (ab y) (ab x) == some .gt) = c1) (h2 : (FloatKind.f64.format.order x 0 == some .lt) = c2) (h3 : (FloatKind.f64.format.order y 0 == some .lt) = c3) (w : World) :
    Calls Try.prog 40 #[.float .f64 y, .float .f64 x] w (FRet .f64 (angV c1 c2 c3 y x) w) := by
  cases zx : (FloatKind.f64.format.order x 0 == some .eq)
  · cases c1
    · exact angle_false_a y x ly lx c2 c3 fy fx zx h1 h2 h3 w
    · exact angle_true_a y x ly lx c2 c3 fy fx zx h1 h2 h3 w
  · rw [zx, Bool.and_true] at hz
    cases c1
    · exact angle_false_b y x ly lx c2 c3 fy fx zx hz h1 h2 h3 w
    · exact angle_true_b y x ly lx c2 c3 fy fx zx hz h1 h2 h3 w
end Go.Proofs.Ytceeeeggehlglad.Fl
