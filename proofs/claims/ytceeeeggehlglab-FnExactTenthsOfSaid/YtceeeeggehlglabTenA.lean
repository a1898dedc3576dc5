/-
  Tenths of decibels: what both answer, and walks of the parts. No theorem of a claim stands here.
-/
import Derived.Test.YtceeeeggehlglabTen
import Derived.Test.YtceeeeggehlglabAngI
set_option linter.unusedSimpArgs false
set_option linter.unusedVariables false
namespace Go.Proofs.Ytceeeeggehlglab.Fl
open Go Go.RowKit

/-- r, halved n times to a1, doubled m times to a. -/
structure LogOf (r n a1 m a : Nat) : Prop where
  h1 : EndH (some r) n
  h2 : hV n (some r) = some a1
  h3 : EndD (some a1) m
  h4 : dV m (some a1) = some a
  h5 : n ≤ 130
  h6 : m ≤ 1075

/-- A power that is finite and greater than 0, as a float64. -/
structure Pow (r : Nat) : Prop where
  p : Pos r
  u : 0 < U .f64 (rung .f64 r)
  l : U .f64 (rung .f64 r) ≤ 2 ^ 130 * Qu

theorem log_a1 {r n a1 : Nat} (hr : Pow r) (h1 : EndH (some r) n) (h2 : hV n (some r) = some a1) : Pos a1 ∧ 0 < U .f64 (rung .f64 a1) ∧ U .f64 (rung .f64 a1) < 6 * Qu := by
  obtain ⟨c, c1, c2, c3⟩ := hV_units hr.p n h1.1
  rw [h2] at c1
  cases c1
  refine ⟨c2, ?_, ?_⟩
  · have := hr.u
    rw [← c3] at this
    exact Nat.pos_of_mul_pos_right this
  · have hg := h1.2
    rw [h2, ge_pos c2 pos_c15, decide_eq_false_iff_not, U_c15] at hg
    omega

theorem log_a {r n a1 m a : Nat} (hr : Pow r) (h : LogOf r n a1 m a) : Pos a ∧ 0 < U .f64 (rung .f64 a) ∧ U .f64 (rung .f64 a) < 6 * Qu ∧ ((n : Int) - m).natAbs < 2048 := by
  obtain ⟨b1, b2, b3⟩ := log_a1 hr h.h1 h.h2
  obtain ⟨c, c1, c2, c3, c4⟩ := dV_units b1 b3 m h.h3.1
  rw [h.h4] at c1
  cases c1
  refine ⟨c2, ?_, c4, ?_⟩
  · rw [c3]; exact Nat.mul_pos b2 (Nat.two_pow_pos _)
  · have := h.h5; have := h.h6; omega

theorem logOf_unique {r n a1 m a n' a1' m' a' : Nat} (h : LogOf r n a1 m a) (g : LogOf r n' a1' m' a') : n = n' ∧ m = m' ∧ a = a' := by
  obtain rfl := endH_unique h.h1 g.h1
  have e1 : some a1 = some a1' := h.h2.symm.trans g.h2
  cases e1
  obtain rfl := endD_unique h.h3 g.h3
  have e2 : some a = some a' := h.h4.symm.trans g.h4
  cases e2
  exact ⟨rfl, rfl, rfl⟩

/-- What is told of a power. -/
def TenOf (r : Nat) (v : Int) : Prop := ∃ n a1 m a Y, LogOf r n a1 m a ∧ yT (some a) ((n : Int) - m) = some Y ∧ v = tz (flr Y)

theorem tenOf_unique {r : Nat} {v v' : Int} (h : TenOf r v) (g : TenOf r v') : v = v' := by
  obtain ⟨n, a1, m, a, Y, h1, h2, h3⟩ := h
  obtain ⟨n', a1', m', a', Y', g1, g2, g3⟩ := g
  obtain ⟨rfl, rfl, rfl⟩ := logOf_unique h1 g1
  rw [h2] at g2
  cases g2
  rw [h3, g3]

/-- The number that is made whole is there, and small. -/
theorem y_facts {r n a1 m a : Nat} (hr : Pow r) (h : LogOf r n a1 m a) : ∃ Y, yT (some a) ((n : Int) - m) = some Y ∧ rung .f64 Y < FloatKind.f64.format.infRung ∧ floatToIntVal .f64 (flr Y) .i64 = some (tz (flr Y)) := by
  obtain ⟨b1, b2, b3, b4⟩ := log_a hr h
  have g := yT_gd b1 b2 b3 _ b4
  obtain ⟨Y, hY⟩ := g.1
  have hb : rung .f64 Y ≤ (49 + 1023) * 4503599627370496 := g.2 Y hY
  have hinf : FloatKind.f64.format.infRung = 9218868437227405312 := by decide
  exact ⟨Y, hY, by omega, toInt_small (flr_small hb).2⟩

theorem widen_pow {b r : Nat} (hf : fin .f32 (vl .f32 b) = true) (hl : (FloatKind.f32.format.order b 0 == some .lt) = false) (he : (FloatKind.f32.format.order b 0 == some .eq) = false) (hr : vl .f64 r = fcv .f32 .f64 (vl .f32 b)) : Pow r := by
  have hb := fin_iff.1 hf
  obtain ⟨q, h1, h2, h3, h4⟩ := widen_fin b hb
  rw [fin_vl hb, h1] at hr
  obtain rfl := vl_some hr
  have z2 : rung .f32 0 < FloatKind.f32.format.infRung := by decide
  rw [order_units .f32 _ _ hb z2] at hl he
  have s1 : sv .f32 0 = 0 := by decide
  rw [s1] at hl he
  have hpos : 0 < sv .f32 b := by
    rcases h : compare (sv .f32 b) 0 with _ | _ | _
    · rw [h] at hl; simp at hl
    · rw [h] at he; simp at he
    · exact Int.compare_eq_gt.1 h
  have hn : neg .f32 b = false ∧ 0 < U .f32 (rung .f32 b) := by
    unfold sv at hpos
    cases hneg : neg .f32 b
    · rw [hneg] at hpos; simp at hpos; exact ⟨rfl, by omega⟩
    · rw [hneg] at hpos; simp at hpos; omega
  refine ⟨⟨h2, by rw [h3, hn.1]⟩, ?_, ?_⟩
  · rw [h4]; exact Nat.mul_pos hn.2 scaleW_pos
  · rw [h4]
    have hU := Nat.le_of_lt (U_lt .f32 hb)
    have hi : FloatKind.f32.format.infRung = 2139095040 := by decide
    have eb : FloatKind.f32.format.binade = 8388608 := by decide
    have hU2 : U .f32 FloatKind.f32.format.infRung ≤ 8388608 * 2 ^ 254 := by
      rw [hi]; unfold U; rw [eb]; decide
    refine Nat.le_trans (Nat.mul_le_mul_right _ (Nat.le_trans hU hU2)) ?_
    unfold Qu u54
    rw [least64]
    obtain ⟨n, hn⟩ : ∃ n, n = ((-54 : Int) - -1074).toNat := ⟨_, rfl⟩
    obtain ⟨k, hk⟩ : ∃ k, k = 254 := ⟨_, rfl⟩
    rw [← hn, ← hk]
    have e52 : (4503599627370496 : Nat) = 2 ^ 52 := by decide
    have e23 : (8388608 : Nat) = 2 ^ 23 := by decide
    rw [e52, e23, ← Nat.pow_add, ← Nat.pow_add, ← Nat.pow_add, ← scaleW_eq (23 + k) (130 + (52 + n)) (by rw [gapW_eq]; omega)]
    exact Nat.le_refl _

theorem Floor_at (Y y : Nat) (hv : vl .f64 y = some Y) (h : rung .f64 Y < FloatKind.f64.format.infRung) (w : World) : Calls Try.prog 26 #[.float .f64 y] w (VRet (.float .f64 (flr Y)) w) := by
  obtain rfl := vl_some hv
  exact Floor_any y h w

set_option maxHeartbeats 2000000 in
theorem oddSeries25_any (u : Nat) (w : World) : Calls Try.prog 25 #[.int .i64 25, .float .f64 u] w (FRet .f64 (oddV (vl .f64 u) 13 (vl .f64 0)) w) := by
  have hadd := fun x y w => run_fov (P := Try.prog) .add rfl 22 .f64 x y w
  have hmul := fun x y w => run_fov (P := Try.prog) .mul rfl 22 .f64 x y w
  have hquo := fun x y w => run_fov (P := Try.prog) .quo rfl 22 .f64 x y w
  have hit := fun n w => run_convert_int_float (P := Try.prog) w 3 22 .i64 .f64 n (by rw [Try.underlying3]; rfl) Try.underlying22
  go_enter Try.func25, Try.ntmps25
  go_wp2
  go_loopw [5, 6] (fun p k wr => ∃ (j : Nat) (m : Int) (q n : Nat), j ≤ 13 ∧ p = .float .f64 q ∧ k = .int .i64 m ∧ m = 2 * j - 1 ∧ q < 2 ^ 64 ∧ Hid (oddV (vl .f64 u) j (vl .f64 q) = oddV (vl .f64 u) 13 (vl .f64 0)) ∧ wr = w.drewN n) (fun _ k _ => (intOf k + 1).toNat)
  case atStart => exact ⟨13, _, _, 0, by omega, rfl, rfl, by decide, by decide, rfl, rfl⟩
  case round =>
    obtain ⟨j, m, q, n, hj, rfl, rfl, hm, hr, hv', rfl⟩ := hrel
    rcases (by omega : j = 13 ∨ j = 12 ∨ j = 11 ∨ j = 10 ∨ j = 9 ∨ j = 8 ∨ j = 7 ∨ j = 6 ∨ j = 5 ∨ j = 4 ∨ j = 3 ∨ j = 2 ∨ j = 1 ∨ j = 0) with rfl | rfl | rfl | rfl | rfl | rfl | rfl | rfl | rfl | rfl | rfl | rfl | rfl | rfl
    · obtain rfl : m = 25 := by omega
      clear hm
      have hs := (oddV_succ (vl .f64 u) (vl .f64 q) 12).symm.trans hv'.out
      rw [stepA_at (vl .f64 u) (vl .f64 q) 12 25 rfl] at hs
      have Hs := Lib.hid hs
      clear hs
      go_wp2
      go_roundw
      case rel => exact ⟨12, 23, _, _, by omega, rfl, by go_num, by decide, fov_lt _ _ _ _ _, by show oddV (vl .f64 u) 12 (vl .f64 _) = _; rw [vl_fov, vl_fov, vl_fov]; exact Hs.out, rfl⟩
      case measure => simp [intOf]
    · obtain rfl : m = 23 := by omega
      clear hm
      have hs := (oddV_succ (vl .f64 u) (vl .f64 q) 11).symm.trans hv'.out
      rw [stepA_at (vl .f64 u) (vl .f64 q) 11 23 rfl] at hs
      have Hs := Lib.hid hs
      clear hs
      go_wp2
      go_roundw
      case rel => exact ⟨11, 21, _, _, by omega, rfl, by go_num, by decide, fov_lt _ _ _ _ _, by show oddV (vl .f64 u) 11 (vl .f64 _) = _; rw [vl_fov, vl_fov, vl_fov]; exact Hs.out, rfl⟩
      case measure => simp [intOf]
    · obtain rfl : m = 21 := by omega
      clear hm
      have hs := (oddV_succ (vl .f64 u) (vl .f64 q) 10).symm.trans hv'.out
      rw [stepA_at (vl .f64 u) (vl .f64 q) 10 21 rfl] at hs
      have Hs := Lib.hid hs
      clear hs
      go_wp2
      go_roundw
      case rel => exact ⟨10, 19, _, _, by omega, rfl, by go_num, by decide, fov_lt _ _ _ _ _, by show oddV (vl .f64 u) 10 (vl .f64 _) = _; rw [vl_fov, vl_fov, vl_fov]; exact Hs.out, rfl⟩
      case measure => simp [intOf]
    · obtain rfl : m = 19 := by omega
      clear hm
      have hs := (oddV_succ (vl .f64 u) (vl .f64 q) 9).symm.trans hv'.out
      rw [stepA_at (vl .f64 u) (vl .f64 q) 9 19 rfl] at hs
      have Hs := Lib.hid hs
      clear hs
      go_wp2
      go_roundw
      case rel => exact ⟨9, 17, _, _, by omega, rfl, by go_num, by decide, fov_lt _ _ _ _ _, by show oddV (vl .f64 u) 9 (vl .f64 _) = _; rw [vl_fov, vl_fov, vl_fov]; exact Hs.out, rfl⟩
      case measure => simp [intOf]
    · obtain rfl : m = 17 := by omega
      clear hm
      have hs := (oddV_succ (vl .f64 u) (vl .f64 q) 8).symm.trans hv'.out
      rw [stepA_at (vl .f64 u) (vl .f64 q) 8 17 rfl] at hs
      have Hs := Lib.hid hs
      clear hs
      go_wp2
      go_roundw
      case rel => exact ⟨8, 15, _, _, by omega, rfl, by go_num, by decide, fov_lt _ _ _ _ _, by show oddV (vl .f64 u) 8 (vl .f64 _) = _; rw [vl_fov, vl_fov, vl_fov]; exact Hs.out, rfl⟩
      case measure => simp [intOf]
    · obtain rfl : m = 15 := by omega
      clear hm
      have hs := (oddV_succ (vl .f64 u) (vl .f64 q) 7).symm.trans hv'.out
      rw [stepA_at (vl .f64 u) (vl .f64 q) 7 15 rfl] at hs
      have Hs := Lib.hid hs
      clear hs
      go_wp2
      go_roundw
      case rel => exact ⟨7, 13, _, _, by omega, rfl, by go_num, by decide, fov_lt _ _ _ _ _, by show oddV (vl .f64 u) 7 (vl .f64 _) = _; rw [vl_fov, vl_fov, vl_fov]; exact Hs.out, rfl⟩
      case measure => simp [intOf]
    · obtain rfl : m = 13 := by omega
      clear hm
      have hs := (oddV_succ (vl .f64 u) (vl .f64 q) 6).symm.trans hv'.out
      rw [stepA_at (vl .f64 u) (vl .f64 q) 6 13 rfl] at hs
      have Hs := Lib.hid hs
      clear hs
      go_wp2
      go_roundw
      case rel => exact ⟨6, 11, _, _, by omega, rfl, by go_num, by decide, fov_lt _ _ _ _ _, by show oddV (vl .f64 u) 6 (vl .f64 _) = _; rw [vl_fov, vl_fov, vl_fov]; exact Hs.out, rfl⟩
      case measure => simp [intOf]
    · obtain rfl : m = 11 := by omega
      clear hm
      have hs := (oddV_succ (vl .f64 u) (vl .f64 q) 5).symm.trans hv'.out
      rw [stepA_at (vl .f64 u) (vl .f64 q) 5 11 rfl] at hs
      have Hs := Lib.hid hs
      clear hs
      go_wp2
      go_roundw
      case rel => exact ⟨5, 9, _, _, by omega, rfl, by go_num, by decide, fov_lt _ _ _ _ _, by show oddV (vl .f64 u) 5 (vl .f64 _) = _; rw [vl_fov, vl_fov, vl_fov]; exact Hs.out, rfl⟩
      case measure => simp [intOf]
    · obtain rfl : m = 9 := by omega
      clear hm
      have hs := (oddV_succ (vl .f64 u) (vl .f64 q) 4).symm.trans hv'.out
      rw [stepA_at (vl .f64 u) (vl .f64 q) 4 9 rfl] at hs
      have Hs := Lib.hid hs
      clear hs
      go_wp2
      go_roundw
      case rel => exact ⟨4, 7, _, _, by omega, rfl, by go_num, by decide, fov_lt _ _ _ _ _, by show oddV (vl .f64 u) 4 (vl .f64 _) = _; rw [vl_fov, vl_fov, vl_fov]; exact Hs.out, rfl⟩
      case measure => simp [intOf]
    · obtain rfl : m = 7 := by omega
      clear hm
      have hs := (oddV_succ (vl .f64 u) (vl .f64 q) 3).symm.trans hv'.out
      rw [stepA_at (vl .f64 u) (vl .f64 q) 3 7 rfl] at hs
      have Hs := Lib.hid hs
      clear hs
      go_wp2
      go_roundw
      case rel => exact ⟨3, 5, _, _, by omega, rfl, by go_num, by decide, fov_lt _ _ _ _ _, by show oddV (vl .f64 u) 3 (vl .f64 _) = _; rw [vl_fov, vl_fov, vl_fov]; exact Hs.out, rfl⟩
      case measure => simp [intOf]
    · obtain rfl : m = 5 := by omega
      clear hm
      have hs := (oddV_succ (vl .f64 u) (vl .f64 q) 2).symm.trans hv'.out
      rw [stepA_at (vl .f64 u) (vl .f64 q) 2 5 rfl] at hs
      have Hs := Lib.hid hs
      clear hs
      go_wp2
      go_roundw
      case rel => exact ⟨2, 3, _, _, by omega, rfl, by go_num, by decide, fov_lt _ _ _ _ _, by show oddV (vl .f64 u) 2 (vl .f64 _) = _; rw [vl_fov, vl_fov, vl_fov]; exact Hs.out, rfl⟩
      case measure => simp [intOf]
    · obtain rfl : m = 3 := by omega
      clear hm
      have hs := (oddV_succ (vl .f64 u) (vl .f64 q) 1).symm.trans hv'.out
      rw [stepA_at (vl .f64 u) (vl .f64 q) 1 3 rfl] at hs
      have Hs := Lib.hid hs
      clear hs
      go_wp2
      go_roundw
      case rel => exact ⟨1, 1, _, _, by omega, rfl, by go_num, by decide, fov_lt _ _ _ _ _, by show oddV (vl .f64 u) 1 (vl .f64 _) = _; rw [vl_fov, vl_fov, vl_fov]; exact Hs.out, rfl⟩
      case measure => simp [intOf]
    · obtain rfl : m = 1 := by omega
      clear hm
      have hs := (oddV_succ (vl .f64 u) (vl .f64 q) 0).symm.trans hv'.out
      rw [stepA_at (vl .f64 u) (vl .f64 q) 0 1 rfl] at hs
      have Hs := Lib.hid hs
      clear hs
      go_wp2
      go_roundw
      case rel => exact ⟨0, -1, _, _, by omega, rfl, by go_num, by decide, fov_lt _ _ _ _ _, by show oddV (vl .f64 u) 0 (vl .f64 _) = _; rw [vl_fov, vl_fov, vl_fov]; exact Hs.out, rfl⟩
      case measure => simp [intOf]
    · obtain rfl : m = -1 := by omega
      clear hm
      have Hv := Lib.hid ((oddV_zero (vl .f64 u) (vl .f64 q)).symm.trans hv'.out)
      go_wp2
      go_ret
      exact ⟨_, _, rfl, Hv.out, hr, rfl⟩

theorem pos_max : Pos 9218868437227405311 := ⟨max_fin, max_pos⟩
theorem isInf1_any (b : Nat) (hb : Pos b) (w : World) : Calls Try.prog 34 #[.float .f64 b, .int .i64 1] w (VRet (.bool false) w) := by
  have h : (FloatKind.f64.format.order b 9218868437227405311 == some .gt) = false := by
    rw [pos_order hb pos_max]
    have hl : U .f64 (rung .f64 b) ≤ U .f64 (rung .f64 9218868437227405311) := by rw [max_rung]; exact fin_le b hb.1
    have := not_gt _ _ hl
    exact g5 _ this
  go_enter Try.func34, Try.ntmps34
  go_wp2
  go_ret
  exact ⟨0, rfl, rfl⟩
end Go.Proofs.Ytceeeeggehlglab.Fl
