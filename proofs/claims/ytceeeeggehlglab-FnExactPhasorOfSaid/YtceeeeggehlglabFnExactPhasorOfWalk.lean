/-
  The walk of the law on phasors.
-/
import Derived.Test.YtceeeeggehlglabPhasI
import Derived.Test.YtceeeeggehlglabPhasS
set_option linter.unusedVariables false
namespace Go.Proofs.Ytceeeeggehlglab.fnExactPhasorOf
open Go Go.RowKit Go.Proofs.Ytceeeeggehlglab.Fl

theorem run_ff {P : Program} (b : Nat) (w : World) : (Conv.floatToFloat .f32 b .f64).run P w = .ok (.float .f64 (cvv b w)) (w.drewN (cvn b)) := by
  unfold cvv cvn
  rcases vl_cases .f32 b with h | h
  · rw [if_pos h, if_pos h]
    cases hd : FloatKind.f32.decode b with
    | nan s t => simp [Conv.floatToFloat, hd, Question.forced, World.drew_is_drewN]
    | number s m i => simp [vl, hd, Ieee.Datum.isNaN] at h
    | infinity s => simp [vl, hd, Ieee.Datum.isNaN] at h
  · rw [if_neg (by rw [h]; simp), if_neg (by rw [h]; simp)]
    obtain ⟨r, h1, h2, h3, h4⟩ := fcv_some b h
    rw [h3]
    exact run_floatToFloat w h1

theorem run_ccv (a b : Nat) (w : World) : (convert 23 26 (.complex .f32 a b)).run Try.prog w = .ok (.complex .f64 (cvv a w) (cvv b (w.drewN (cvn a)))) (w.drewN (cvn a + cvn b)) := by
  have h1 := run_ff (P := Try.prog) a w
  have h2 := run_ff (P := Try.prog) b (w.drewN (cvn a))
  simp [convert, run_underlying Try.underlying23, run_underlying Try.underlying26, Conv.complexToComplex, h1, h2]

theorem sameComplex_any (a b c d : Nat) (h1 : vl .f64 a = vl .f64 c) (h2 : vl .f64 b = vl .f64 d) (w : World) :
    Calls Try.prog 8 #[.complex .f64 a b, .complex .f64 c d] w (VRet (.bool true) w) := by
  go_enter Try.func8, Try.ntmps8
  go_wp2_with (first | (have h_ := Hm; clear h_; go_at_call 13; refine (sameFloat_any b d h2 _).mono ?_; rintro e w' ⟨m2, rfl, rfl⟩) | (go_at_call 13; refine (sameFloat_any a c h1 _).mono ?_; rintro e w' ⟨m1, rfl, rfl⟩; have Hm := Lib.hid (rfl : m1 = m1)))
  go_ret
  exact ⟨_, rfl, rfl⟩

theorem walk (a0 : Nat) (w0 : (Lit.float .f64 a0).wf = true) (w : World) :
    Calls Try.prog 3 #[.float .f64 a0] w fun e w' => e = .returned (.bool true) ∧ Below w.heap.size w w' := by
  have hb : a0 < 2 ^ 64 := lt_of_wf w0
  have hcc := fun a b w => run_ccv a b w
  go_enter Try.func3, Try.ntmps3
  go_wp2_with (first | (go_at_call 6; go_in) | (go_at_call 14; refine (l01Phasor_any _ hb _).mono ?_; rintro e w' ⟨x1, y1, m1, rfl, hp1, lx1, ly1, rfl⟩; have H1 := Lib.hid hp1; clear hp1) | (go_at_call 7; refine (phasorOf_any _ hb _).mono ?_; rintro e w' ⟨x2, y2, m2, rfl, hp2, lx2, ly2, rfl⟩; have H2 := Lib.hid (phOf_unique hp2 H1.out); clear hp2) | (go_at_call 8; refine (sameComplex_any _ _ _ _ (by rw [vl_cvv, vl_cvv, H2.out.1]) (by rw [vl_cvv, vl_cvv, H2.out.2]) _).mono ?_; rintro e w' ⟨m, rfl, rfl⟩))
  go_ret
  exact ⟨rfl, below_drawn _ _⟩
end Go.Proofs.Ytceeeeggehlglab.fnExactPhasorOf
