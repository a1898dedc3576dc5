/-
  The walk of the law on sums of products.
-/
import Derived.Test.YtceeeeggehlgladDot
set_option linter.unusedVariables false
namespace Go.Proofs.Ytceeeeggehlglad.fnExactDotNumbers
open Go Go.RowKit Go.Proofs.Ytceeeeggehlglad.Fl

theorem row_max {w : World} {a : Option Addr} {len cap : Nat} {zs : List Nat} (h : IsRowF .f32 w a len cap zs) : len ≤ 9223372036854775807 := by
  rcases h with ⟨_, rfl, _, _⟩ | ⟨x, _, h2, h3, _⟩
  · omega
  · unfold maxLen at h3; omega

set_option maxHeartbeats 1000000 in
theorem walk (a0 : Option Addr) (len0 cap0 : Nat) (z0 : List Nat) (a1 : Option Addr) (len1 cap1 : Nat) (z1 : List Nat) (w : World) (w0 : IsRowF .f32 w a0 len0 cap0 z0) (w1 : IsRowF .f32 w a1 len1 cap1 z1) :
    Calls Try.prog 6 #[.slice a0 len0 cap0, .slice a1 len1 cap1] w fun e w' => e = .returned (.bool true) ∧ Below w.heap.size w w' := by
  have hmax := row_max w0
  have hmax1 := row_max w1
  by_cases hl : len0 ≤ 1048576
  · by_cases hl1 : len1 ≤ 1048576
    · have hz : (dotOk len0 len1 != dotOk len0 len1) = false := by simp
      have Hlt := Lib.hid (row_lt w0)
      have Hlt1 := Lib.hid (row_lt w1)
      have W0 := Lib.hid w0
      have V0 := Lib.hid w1
      have Ht := Lib.hid (show ∀ (z : List Nat) (n : Nat), (z.take n).take n = z.take n from fun z n => by rw [List.take_take, Nat.min_self])
      clear w0 w1
      go_enter Try.func6, Try.ntmps6
      go_wp2_with fail
      refine (copyFloats _ _ _ _ _ W0.out hl Hlt.out).mono ?_
      rintro e u1 ⟨x1, rfl, hx1, hk1, hb1⟩
      have A1 := Lib.hid (hk1 _ _ _ _ W0.out)
      have C1 := Lib.hid (hk1 _ _ _ _ V0.out)
      have X1 := Lib.hid hx1
      have B1 := Lib.hid hb1
      clear hx1 hk1 hb1
      go_wp2_with fail
      refine (copyFloats _ _ _ _ _ C1.out hl1 Hlt1.out).mono ?_
      rintro e u2 ⟨x2, rfl, hx2, hk2, hb2⟩
      have A2 := Lib.hid (hk2 _ _ _ _ A1.out)
      have C2 := Lib.hid (hk2 _ _ _ _ C1.out)
      have Y1 := Lib.hid (hk2 _ _ _ _ X1.out)
      have X2 := Lib.hid hx2
      have B2 := Lib.hid (below_then B1.out hb2)
      clear hx2 hk2 hb2
      go_wp2_with fail
      refine (specDot_any _ _ _ _ _ _ _ _ _ Y1.out X2.out hl hl1).mono ?_
      rintro e w' ⟨r1, n1, rfl, hr1, hr1', rfl⟩
      have R1 := Lib.hid hr1
      clear hr1
      go_wp2_with fail
      refine (copyFloats _ _ _ _ _ (isRowF_drewN A2.out _) hl Hlt.out).mono ?_
      rintro e u3 ⟨x3, rfl, hx3, hk3, hb3⟩
      have A3 := Lib.hid (hk3 _ _ _ _ (isRowF_drewN A2.out _))
      have C3 := Lib.hid (hk3 _ _ _ _ (isRowF_drewN C2.out _))
      have X3 := Lib.hid hx3
      have B3 := Lib.hid (below_then (below_then B2.out (below_drawn u2 n1)) hb3)
      clear hx3 hk3 hb3
      go_wp2_with fail
      refine (copyFloats _ _ _ _ _ C3.out hl1 Hlt1.out).mono ?_
      rintro e u4 ⟨x4, rfl, hx4, hk4, hb4⟩
      have A4 := Lib.hid (hk4 _ _ _ _ A3.out)
      have C4 := Lib.hid (hk4 _ _ _ _ C3.out)
      have Y3 := Lib.hid (hk4 _ _ _ _ X3.out)
      have X4 := Lib.hid hx4
      have B4 := Lib.hid (below_then B3.out hb4)
      clear hx4 hk4 hb4
      go_wp2_with fail
      refine (implDot_any _ _ _ _ _ _ _ _ _ Y3.out X4.out hl hl1).mono ?_
      rintro e w' ⟨r2, n2, rfl, hr2, hr2', rfl⟩
      have R2 := Lib.hid hr2
      clear hr2
      have hcv := run_cv
      go_wp2_with fail
      refine (sameFloat_any _ _ (by rw [vl_cvv, vl_cvv, R1.out, R2.out]) _).mono ?_
      rintro e w' ⟨m3, rfl, rfl⟩
      clear hcv
      go_wp2_with fail
      refine (copyFloats _ _ _ _ _ (isRowF_drewN A4.out _) hl Hlt.out).mono ?_
      rintro e u5 ⟨x5, rfl, hx5, hk5, hb5⟩
      have C5 := Lib.hid (hk5 _ _ _ _ (isRowF_drewN C4.out _))
      have Z3 := Lib.hid (hk5 _ _ _ _ (isRowF_drewN Y3.out _))
      have Z4 := Lib.hid (hk5 _ _ _ _ (isRowF_drewN X4.out _))
      have X5 := Lib.hid hx5
      have B5 := Lib.hid (below_then (below_then B4.out (below_drawn u4 _)) hb5)
      clear hx5 hk5 hb5
      go_wp2_with fail
      refine (eqFloats_any _ _ _ _ _ _ _ _ Z3.out X5.out hl rfl).mono ?_
      rintro e w' ⟨m4, rfl, rfl⟩
      go_wp2_with fail
      refine (copyFloats _ _ _ _ _ (isRowF_drewN C5.out _) hl1 Hlt1.out).mono ?_
      rintro e u6 ⟨x6, rfl, hx6, hk6, hb6⟩
      have Q4 := Lib.hid (hk6 _ _ _ _ (isRowF_drewN Z4.out _))
      have X6 := Lib.hid hx6
      have B6 := Lib.hid (below_then (below_then B5.out (below_drawn u5 _)) hb6)
      clear hx6 hk6 hb6
      go_wp2_with fail
      refine (eqFloats_any _ _ _ _ _ _ _ _ Q4.out X6.out hl1 rfl).mono ?_
      rintro e w' ⟨m5, rfl, rfl⟩
      go_wp2
      go_ret
      exact ⟨rfl, below_then B6.out (below_drawn u6 _)⟩
    · have hs' : 1048576 < (len1 : Int) := by omega
      have hs0 : (len0 : Int) ≤ 1048576 := by omega
      clear w0 w1
      go_enter Try.func6, Try.ntmps6
      go_wp2
      go_ret
      exact ⟨rfl, below_drawn _ 0⟩
  · have hs' : 1048576 < (len0 : Int) := by omega
    clear w0 w1
    go_enter Try.func6, Try.ntmps6
    go_wp2
    go_ret
    exact ⟨rfl, below_drawn _ 0⟩
end Go.Proofs.Ytceeeeggehlglad.fnExactDotNumbers
