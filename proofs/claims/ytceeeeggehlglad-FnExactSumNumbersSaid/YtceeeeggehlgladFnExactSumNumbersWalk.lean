/-
  The walk of the law on sums of numbers.
-/
import Derived.Test.YtceeeeggehlgladSum
set_option linter.unusedVariables false
namespace Go.Proofs.Ytceeeeggehlglad.fnExactSumNumbers
open Go Go.RowKit Go.Proofs.Ytceeeeggehlglad.Fl

theorem walk (a0 : Option Addr) (len0 cap0 : Nat) (z0 : List Nat) (w : World) (w0 : IsRowF .f32 w a0 len0 cap0 z0) :
    Calls Try.prog 5 #[.slice a0 len0 cap0] w fun e w' => e = .returned (.bool true) ∧ Below w.heap.size w w' := by
  have hmax : len0 ≤ 9223372036854775807 := by
    rcases w0 with ⟨_, rfl, _, _⟩ | ⟨x, _, h2, h3, _⟩
    · omega
    · unfold maxLen at h3; omega
  by_cases hl : len0 ≤ 1048576
  · have hz : (sumOk len0 != sumOk len0) = false := by simp
    have htt : (z0.take len0).take len0 = z0.take len0 := by rw [List.take_take, Nat.min_self]
    have Htt := Lib.hid htt
    have hlt := row_lt w0
    have Hlt := Lib.hid hlt
    have Hlt2 := Lib.hid (fun n hn => hlt n (List.mem_of_mem_take (i := len0) hn))
    have W0 := Lib.hid w0
    clear htt hlt w0
    go_enter Try.func5, Try.ntmps5
    go_wp2_with fail
    refine (copyFloats _ _ _ _ _ W0.out hl Hlt.out).mono ?_
    rintro e w1 ⟨x1, rfl, hx1, hk1, hb1⟩
    have A1 := Lib.hid (hk1 _ _ _ _ W0.out)
    have X1 := Lib.hid hx1
    have B1 := Lib.hid hb1
    clear hx1 hk1 hb1
    go_wp2_with fail
    refine (specSum_any _ _ _ _ _ X1.out hl).mono ?_
    rintro e w' ⟨r1, n1, rfl, hr1, hr1', rfl⟩
    have R1 := Lib.hid hr1
    clear hr1
    go_wp2_with fail
    refine (copyFloats _ _ _ _ _ (isRowF_drewN A1.out _) hl Hlt.out).mono ?_
    rintro e w2 ⟨x2, rfl, hx2, hk2, hb2⟩
    have A2 := Lib.hid (hk2 _ _ _ _ (isRowF_drewN A1.out _))
    have X2 := Lib.hid hx2
    have B2 := Lib.hid (below_then (below_then B1.out (below_drawn w1 n1)) hb2)
    clear hx2 hk2 hb2
    go_wp2_with fail
    refine (implSum_any _ _ _ _ _ X2.out hl).mono ?_
    rintro e w' ⟨r2, n2, rfl, hr2, hr2', rfl⟩
    have R2 := Lib.hid hr2
    clear hr2
    have hcv := run_cv
    go_wp2_with fail
    refine (sameFloat_any _ _ (by rw [vl_cvv, vl_cvv, R1.out, R2.out]) _).mono ?_
    rintro e w' ⟨m3, rfl, rfl⟩
    clear hcv
    go_wp2_with fail
    refine (copyFloats _ _ _ _ _ (isRowF_drewN A2.out _) hl Hlt.out).mono ?_
    rintro e w3 ⟨x3, rfl, hx3, hk3, hb3⟩
    have X3 := Lib.hid hx3
    have Y2 := Lib.hid (hk3 _ _ _ _ (isRowF_drewN X2.out _))
    have B3 := Lib.hid (below_then (below_then B2.out (below_drawn w2 _)) hb3)
    clear hx3 hk3 hb3
    go_wp2_with fail
    refine (eqFloats_any _ _ _ _ _ _ _ _ Y2.out X3.out hl rfl).mono ?_
    rintro e w' ⟨m4, rfl, rfl⟩
    go_wp2
    go_ret
    exact ⟨rfl, below_then B3.out (below_drawn w3 _)⟩
  · have hs' : 1048576 < (len0 : Int) := by omega
    go_enter Try.func5, Try.ntmps5
    go_wp2
    go_ret
    exact ⟨rfl, below_drawn _ 0⟩
end Go.Proofs.Ytceeeeggehlglad.fnExactSumNumbers
