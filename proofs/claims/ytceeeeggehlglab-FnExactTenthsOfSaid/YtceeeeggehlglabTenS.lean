/-
  Tenths of decibels: the walk in the model. No theorem of a claim stands here.
-/
import Derived.Test.YtceeeeggehlglabTenA
import Derived.Test.YtceeeeggehlglabAngI
import Derived.Deep.DeepCutAuto
set_option linter.unusedSimpArgs false
set_option linter.unusedVariables false
namespace Go.Proofs.Ytceeeeggehlglab.Fl
open Go Go.RowKit

/-- The logarithm of r, up to its steps. -/
def LnOf (r : Nat) (x : Option Nat) : Prop := ∃ n a1 m a, LogOf r n a1 m a ∧ x = lT (sT (some a)) ((n : Int) - m)

set_option maxHeartbeats 4000000 in
theorem logWide_any (r : Nat) (lr : r < 2 ^ 64) (hP : Pow r) (w : World) :
    Calls Try.prog 37 #[.float .f64 r] w fun e w' => ∃ q k, e = .returned (.float .f64 q) ∧ LnOf r (vl .f64 q) ∧ q < 2 ^ 64 ∧ w' = w.drewN k := by
  have z0 : Pos 0 := ⟨by decide, by decide⟩
  have zu : U .f64 (rung .f64 0) = 0 := by decide
  have t1 : (FloatKind.f64.format.order r r != some .eq) = false := by rw [pos_order hP.p hP.p, bne, Int.compare_eq_eq.2 rfl]; rfl
  have hcmp : compare (U .f64 (rung .f64 r) : Int) (U .f64 (rung .f64 0) : Int) = .gt := by
    rw [zu]; exact Int.compare_eq_gt.2 (by have := hP.u; omega)
  have t2 : (FloatKind.f64.format.order r 0 == some .lt) = false := by rw [pos_order hP.p z0, hcmp]; rfl
  have t3 : (FloatKind.f64.format.order r 0 == some .eq) = false := by rw [pos_order hP.p z0, hcmp]; rfl
  clear hcmp zu z0
  go_enter Try.func37, Try.ntmps37
  go_wp2_with (go_at_call 34; refine (isInf1_any r hP.p _).mono ?_; rintro e w' ⟨m, rfl, rfl⟩)
  clear t1 t2 t3
  go_loopw [0, 3] (fun X Q wr => ∃ n a k : Nat, n ≤ 130 ∧ X = .float .f64 a ∧ Q = .int .i64 n ∧ a < 2 ^ 64 ∧ Hid (vl .f64 a = hV n (some r)) ∧ Hid (∀ i, i < n → geB (hV i (some r)) (vl .f64 c15) = true) ∧ wr = w.drewN k) (fun X Q _ => 130 - (intOf Q).toNat)
  case atStart => exact ⟨0, r, _, by omega, rfl, rfl, lr, Lib.hid (fin_vl hP.p.1), Lib.hid (fun i hi => absurd hi (Nat.not_lt_zero i)), rfl⟩
  case round =>
    obtain ⟨n, a, k, hn, rfl, rfl, ha, V, Hall, rfl⟩ := hrel
    have Hge := Lib.hid (show (FloatKind.f64.format.order a 4609434218613702656 == some .gt || FloatKind.f64.format.order a 4609434218613702656 == some .eq) = geB (hV n (some r)) (vl .f64 c15) from ge_of c15 V.out)
    by_cases hc : geB (hV n (some r)) (vl .f64 c15) = true
    · have hlt := hV_lt hP.p hP.l Hall.out hc
      have Hall2 := Lib.hid (show ∀ i, i < n + 1 → geB (hV i (some r)) (vl .f64 c15) = true from fun i hi => by
        rcases (by omega : i < n ∨ i = n) with h | rfl
        · exact Hall.out i h
        · exact hc)
      go_wp2_with (first | (refine wpList_fop (o := ⟨some 28, _, _, _, _, _⟩) (by rfl) _ _ _ _ _ (by rfl) (by rfl) _ _ _ (by rfl) (by rfl) ?_; intro f1 f2 f3 f4))
      · go_roundw
        case rel => exact ⟨n + 1, _, _, by omega, rfl, by go_num, f3, Lib.hid (by rw [f4.out, V.out, hV_succ]; rfl), Hall2, rfl⟩
        case measure => simp only [intOf]; omega
      · exfalso
        rw [← Hge.out, Bool.or_eq_true] at hc
        simp_all
    · have hc' : geB (hV n (some r)) (vl .f64 c15) = false := by simpa using hc
      obtain ⟨a1, q1, q2, _⟩ := hV_units hP.p n Hall.out
      have hE : EndH (some r) n := ⟨Hall.out, hc'⟩
      have B := Lib.hid (log_a1 hP hE q1)
      have V1 := V.out
      rw [q1] at V1
      obtain rfl := vl_some V1
      have Hf := Lib.hid (show (FloatKind.f64.format.order a 4609434218613702656 == some .gt) = false ∧ (FloatKind.f64.format.order a 4609434218613702656 == some .eq) = false by
        rw [← Bool.or_eq_false_iff, Hge.out, hc'])
      clear Hge hc
      obtain ⟨hf1, hf2⟩ := Hf.out
      go_wp2
      clear hf1 hf2
      go_loopw [0, 3] (fun X Q wr => ∃ m c k : Nat, m ≤ 1075 ∧ X = .float .f64 c ∧ Q = .int .i64 ((n : Int) - m) ∧ c < 2 ^ 64 ∧ Hid (vl .f64 c = dV m (some a)) ∧ Hid (∀ i, i < m → ltB (dV i (some a)) (vl .f64 c075) = true) ∧ wr = w.drewN k) (fun X Q _ => (intOf Q + 1075).toNat)
      case atStart => exact ⟨0, a, _, by omega, rfl, by simp, ha, Lib.hid V1, Lib.hid (fun i hi => absurd hi (Nat.not_lt_zero i)), rfl⟩
      case round =>
        obtain ⟨m, c, k', hm, rfl, rfl, hcl, V2, Hall3, rfl⟩ := hrel
        have Hlt := Lib.hid (show (FloatKind.f64.format.order c 4604930618986332160 == some .lt) = ltB (dV m (some a)) (vl .f64 c075) from lt_of c075 V2.out)
        by_cases hd : ltB (dV m (some a)) (vl .f64 c075) = true
        · have hlt := dV_lt B.out.1 B.out.2.1 B.out.2.2 Hall3.out hd
          have Hall4 := Lib.hid (show ∀ i, i < m + 1 → ltB (dV i (some a)) (vl .f64 c075) = true from fun i hi => by
            rcases (by omega : i < m ∨ i = m) with h | rfl
            · exact Hall3.out i h
            · exact hd)
          have hrun : (FloatKind.f64.format.order c 4604930618986332160 == some .lt) = true := by rw [Hlt.out, hd]
          go_wp2_with (first | (refine wpList_fop (o := ⟨some 34, _, _, _, _, _⟩) (by rfl) _ _ _ _ _ (by rfl) (by rfl) _ _ _ (by rfl) (by rfl) ?_; intro f1 f2 f3 f4))
          go_roundw
          case rel => exact ⟨m + 1, _, _, by omega, rfl, by go_num, f3, Lib.hid (by rw [f4.out, V2.out, dV_succ]; rfl), Hall4, rfl⟩
          case measure => simp only [intOf]; omega
        · have hd' : ltB (dV m (some a)) (vl .f64 c075) = false := by simpa using hd
          obtain ⟨a2, d1, d2, d3, d4⟩ := dV_units B.out.1 B.out.2.2 m Hall3.out
          have hL : LogOf r n a m a2 := ⟨hE, q1, ⟨Hall3.out, hd'⟩, d1, hn, hm⟩
          have V3 := V2.out
          rw [d1] at V3
          obtain rfl := vl_some V3
          have hrun : (FloatKind.f64.format.order c 4604930618986332160 == some .lt) = false := by rw [Hlt.out, hd']
          have hL2 := Lib.hid hL
          clear hL hn hm hd hE q1 q2 B d1 d2 d3 d4
          go_wp2_with (first | (refine wpList_fop (o := ⟨some 38, _, _, _, _, _⟩) (by rfl) _ _ _ _ _ (by rfl) (by rfl) _ _ _ (by rfl) (by rfl) ?_; intro p1 p2 p3 p4) | (refine wpList_fop (o := ⟨some 40, _, _, _, _, _⟩) (by rfl) _ _ _ _ _ (by rfl) (by rfl) _ _ _ (by rfl) (by rfl) ?_; intro p5 p6 p7 p8) | (refine wpList_fop (o := ⟨some 41, _, _, _, _, _⟩) (by rfl) _ _ _ _ _ (by rfl) (by rfl) _ _ _ (by rfl) (by rfl) ?_; intro s sn sl sv') | (refine wpList_fop (o := ⟨some 44, _, _, _, _, _⟩) (by rfl) _ _ _ _ _ (by rfl) (by rfl) _ _ _ (by rfl) (by rfl) ?_; intro u un' ul uv))
          have Hs0 := Lib.hid (show vl .f64 s = sT (some c) by rw [sv'.out, p4.out, p8.out, V3]; rfl)
          have Hu := Lib.hid (show vl .f64 u = fop .mul .f64 (vl .f64 s) (vl .f64 s) from uv.out)
          clear sv' p4 p8 uv
          have hadd := fun x y w => run_fov (P := Try.prog) .add rfl 22 .f64 x y w
          have hmul := fun x y w => run_fov (P := Try.prog) .mul rfl 22 .f64 x y w
          have hquo := fun x y w => run_fov (P := Try.prog) .quo rfl 22 .f64 x y w
          have hit := fun n w => run_convert_int_float (P := Try.prog) w 3 22 .i64 .f64 n (by rw [Try.underlying3]; rfl) Try.underlying22
          go_loopw [6, 7] (fun p k wr => ∃ (j : Nat) (m3 : Int) (q n3 : Nat), j ≤ 13 ∧ p = .float .f64 q ∧ k = .int .i64 m3 ∧ m3 = 2 * j - 1 ∧ q < 2 ^ 64 ∧ Hid (oddV (vl .f64 u) j (vl .f64 q) = oddV (vl .f64 u) 13 (vl .f64 0)) ∧ wr = w.drewN n3) (fun _ k _ => (intOf k + 1).toNat)
          case atStart => exact ⟨13, _, _, _, by omega, rfl, rfl, by decide, by decide, rfl, rfl⟩
          case round =>
            obtain ⟨j, m3, q, n3, hj, rfl, rfl, hm3, hq3, hv', rfl⟩ := hrel
            rcases (by omega : j = 13 ∨ j = 12 ∨ j = 11 ∨ j = 10 ∨ j = 9 ∨ j = 8 ∨ j = 7 ∨ j = 6 ∨ j = 5 ∨ j = 4 ∨ j = 3 ∨ j = 2 ∨ j = 1 ∨ j = 0) with rfl | rfl | rfl | rfl | rfl | rfl | rfl | rfl | rfl | rfl | rfl | rfl | rfl | rfl
            · obtain rfl : m3 = 25 := by omega
              clear hm3
              have hs := (oddV_succ (vl .f64 u) (vl .f64 q) 12).symm.trans hv'.out
              rw [stepA_at (vl .f64 u) (vl .f64 q) 12 25 rfl] at hs
              have Hs := Lib.hid hs
              clear hs
              go_wp2
              go_roundw
              case rel => exact ⟨12, 23, _, _, by omega, rfl, by go_num, by decide, fov_lt _ _ _ _ _, by show oddV (vl .f64 u) 12 (vl .f64 _) = _; rw [vl_fov, vl_fov, vl_fov]; exact Hs.out, rfl⟩
              case measure => simp [intOf]
            · obtain rfl : m3 = 23 := by omega
              clear hm3
              have hs := (oddV_succ (vl .f64 u) (vl .f64 q) 11).symm.trans hv'.out
              rw [stepA_at (vl .f64 u) (vl .f64 q) 11 23 rfl] at hs
              have Hs := Lib.hid hs
              clear hs
              go_wp2
              go_roundw
              case rel => exact ⟨11, 21, _, _, by omega, rfl, by go_num, by decide, fov_lt _ _ _ _ _, by show oddV (vl .f64 u) 11 (vl .f64 _) = _; rw [vl_fov, vl_fov, vl_fov]; exact Hs.out, rfl⟩
              case measure => simp [intOf]
            · obtain rfl : m3 = 21 := by omega
              clear hm3
              have hs := (oddV_succ (vl .f64 u) (vl .f64 q) 10).symm.trans hv'.out
              rw [stepA_at (vl .f64 u) (vl .f64 q) 10 21 rfl] at hs
              have Hs := Lib.hid hs
              clear hs
              go_wp2
              go_roundw
              case rel => exact ⟨10, 19, _, _, by omega, rfl, by go_num, by decide, fov_lt _ _ _ _ _, by show oddV (vl .f64 u) 10 (vl .f64 _) = _; rw [vl_fov, vl_fov, vl_fov]; exact Hs.out, rfl⟩
              case measure => simp [intOf]
            · obtain rfl : m3 = 19 := by omega
              clear hm3
              have hs := (oddV_succ (vl .f64 u) (vl .f64 q) 9).symm.trans hv'.out
              rw [stepA_at (vl .f64 u) (vl .f64 q) 9 19 rfl] at hs
              have Hs := Lib.hid hs
              clear hs
              go_wp2
              go_roundw
              case rel => exact ⟨9, 17, _, _, by omega, rfl, by go_num, by decide, fov_lt _ _ _ _ _, by show oddV (vl .f64 u) 9 (vl .f64 _) = _; rw [vl_fov, vl_fov, vl_fov]; exact Hs.out, rfl⟩
              case measure => simp [intOf]
            · obtain rfl : m3 = 17 := by omega
              clear hm3
              have hs := (oddV_succ (vl .f64 u) (vl .f64 q) 8).symm.trans hv'.out
              rw [stepA_at (vl .f64 u) (vl .f64 q) 8 17 rfl] at hs
              have Hs := Lib.hid hs
              clear hs
              go_wp2
              go_roundw
              case rel => exact ⟨8, 15, _, _, by omega, rfl, by go_num, by decide, fov_lt _ _ _ _ _, by show oddV (vl .f64 u) 8 (vl .f64 _) = _; rw [vl_fov, vl_fov, vl_fov]; exact Hs.out, rfl⟩
              case measure => simp [intOf]
            · obtain rfl : m3 = 15 := by omega
              clear hm3
              have hs := (oddV_succ (vl .f64 u) (vl .f64 q) 7).symm.trans hv'.out
              rw [stepA_at (vl .f64 u) (vl .f64 q) 7 15 rfl] at hs
              have Hs := Lib.hid hs
              clear hs
              go_wp2
              go_roundw
              case rel => exact ⟨7, 13, _, _, by omega, rfl, by go_num, by decide, fov_lt _ _ _ _ _, by show oddV (vl .f64 u) 7 (vl .f64 _) = _; rw [vl_fov, vl_fov, vl_fov]; exact Hs.out, rfl⟩
              case measure => simp [intOf]
            · obtain rfl : m3 = 13 := by omega
              clear hm3
              have hs := (oddV_succ (vl .f64 u) (vl .f64 q) 6).symm.trans hv'.out
              rw [stepA_at (vl .f64 u) (vl .f64 q) 6 13 rfl] at hs
              have Hs := Lib.hid hs
              clear hs
              go_wp2
              go_roundw
              case rel => exact ⟨6, 11, _, _, by omega, rfl, by go_num, by decide, fov_lt _ _ _ _ _, by show oddV (vl .f64 u) 6 (vl .f64 _) = _; rw [vl_fov, vl_fov, vl_fov]; exact Hs.out, rfl⟩
              case measure => simp [intOf]
            · obtain rfl : m3 = 11 := by omega
              clear hm3
              have hs := (oddV_succ (vl .f64 u) (vl .f64 q) 5).symm.trans hv'.out
              rw [stepA_at (vl .f64 u) (vl .f64 q) 5 11 rfl] at hs
              have Hs := Lib.hid hs
              clear hs
              go_wp2
              go_roundw
              case rel => exact ⟨5, 9, _, _, by omega, rfl, by go_num, by decide, fov_lt _ _ _ _ _, by show oddV (vl .f64 u) 5 (vl .f64 _) = _; rw [vl_fov, vl_fov, vl_fov]; exact Hs.out, rfl⟩
              case measure => simp [intOf]
            · obtain rfl : m3 = 9 := by omega
              clear hm3
              have hs := (oddV_succ (vl .f64 u) (vl .f64 q) 4).symm.trans hv'.out
              rw [stepA_at (vl .f64 u) (vl .f64 q) 4 9 rfl] at hs
              have Hs := Lib.hid hs
              clear hs
              go_wp2
              go_roundw
              case rel => exact ⟨4, 7, _, _, by omega, rfl, by go_num, by decide, fov_lt _ _ _ _ _, by show oddV (vl .f64 u) 4 (vl .f64 _) = _; rw [vl_fov, vl_fov, vl_fov]; exact Hs.out, rfl⟩
              case measure => simp [intOf]
            · obtain rfl : m3 = 7 := by omega
              clear hm3
              have hs := (oddV_succ (vl .f64 u) (vl .f64 q) 3).symm.trans hv'.out
              rw [stepA_at (vl .f64 u) (vl .f64 q) 3 7 rfl] at hs
              have Hs := Lib.hid hs
              clear hs
              go_wp2
              go_roundw
              case rel => exact ⟨3, 5, _, _, by omega, rfl, by go_num, by decide, fov_lt _ _ _ _ _, by show oddV (vl .f64 u) 3 (vl .f64 _) = _; rw [vl_fov, vl_fov, vl_fov]; exact Hs.out, rfl⟩
              case measure => simp [intOf]
            · obtain rfl : m3 = 5 := by omega
              clear hm3
              have hs := (oddV_succ (vl .f64 u) (vl .f64 q) 2).symm.trans hv'.out
              rw [stepA_at (vl .f64 u) (vl .f64 q) 2 5 rfl] at hs
              have Hs := Lib.hid hs
              clear hs
              go_wp2
              go_roundw
              case rel => exact ⟨2, 3, _, _, by omega, rfl, by go_num, by decide, fov_lt _ _ _ _ _, by show oddV (vl .f64 u) 2 (vl .f64 _) = _; rw [vl_fov, vl_fov, vl_fov]; exact Hs.out, rfl⟩
              case measure => simp [intOf]
            · obtain rfl : m3 = 3 := by omega
              clear hm3
              have hs := (oddV_succ (vl .f64 u) (vl .f64 q) 1).symm.trans hv'.out
              rw [stepA_at (vl .f64 u) (vl .f64 q) 1 3 rfl] at hs
              have Hs := Lib.hid hs
              clear hs
              go_wp2
              go_roundw
              case rel => exact ⟨1, 1, _, _, by omega, rfl, by go_num, by decide, fov_lt _ _ _ _ _, by show oddV (vl .f64 u) 1 (vl .f64 _) = _; rw [vl_fov, vl_fov, vl_fov]; exact Hs.out, rfl⟩
              case measure => simp [intOf]
            · obtain rfl : m3 = 1 := by omega
              clear hm3
              have hs := (oddV_succ (vl .f64 u) (vl .f64 q) 0).symm.trans hv'.out
              rw [stepA_at (vl .f64 u) (vl .f64 q) 0 1 rfl] at hs
              have Hs := Lib.hid hs
              clear hs
              go_wp2
              go_roundw
              case rel => exact ⟨0, -1, _, _, by omega, rfl, by go_num, by decide, fov_lt _ _ _ _ _, by show oddV (vl .f64 u) 0 (vl .f64 _) = _; rw [vl_fov, vl_fov, vl_fov]; exact Hs.out, rfl⟩
              case measure => simp [intOf]
            · obtain rfl : m3 = -1 := by omega
              clear hm3
              have Hv := Lib.hid ((oddV_zero (vl .f64 u) (vl .f64 q)).symm.trans hv'.out)
              go_wp2
              go_ret
              exact ⟨_, _, rfl, ⟨n, a, m, c, hL2.out, by simp only [vl_fov]; rw [Hv.out, Hu.out, Hs0.out]; rfl⟩, fov_lt _ _ _ _ _, rfl⟩
end Go.Proofs.Ytceeeeggehlglab.Fl
