/-
  The walk of the law on roots.
-/
import Derived.Test.YtceeeeggehlglabMath
set_option linter.unusedVariables false
namespace Go.Proofs.Ytceeeeggehlglab.fnExactRootNumber
open Go Go.RowKit Go.Proofs.Ytceeeeggehlglab.Fl

def rootV (b : Nat) : Option Nat := fcv .f64 .f32 (fsq (fcv .f32 .f64 (vl .f32 b)))

theorem spec_any (b : Nat) (hb : b < 2 ^ 32) (w : World) : Calls Try.prog 27 #[.float .f32 b] w (FRet .f32 (rootV b) w) := by
  go_enter Try.func27, Try.ntmps27
  go_wp2_with (first | (refine wpList_fcv_g (by rfl) 28 22 _ (by rfl) .f32 .f64 isSome_f32 Try.underlying22 b (by rfl) hb (over_widen' b) ?_; intro r n hr hv) | (go_at_call 29; refine (sqrt_any _ _).mono ?_; rintro e w' ⟨q, m, rfl, hq, hq2, rfl⟩; have Hq := Lib.hid hq; clear hq) | (go_at_call 32; refine (l01Narrow_any _ (by assumption) (by rw [Hq.out, hv.out]; exact over_root b) _).mono ?_; rintro e w' ⟨q3, m3, rfl, hq3, hq4, rfl⟩; have Hq3 := Lib.hid hq3; clear hq3))
  go_ret
  exact ⟨q3, _, rfl, by rw [Hq3.out, Hq.out, hv.out]; rfl, hq4, rfl⟩

theorem impl_any (b : Nat) (hb : b < 2 ^ 32) (w : World) : Calls Try.prog 12 #[.float .f32 b] w (FRet .f32 (rootV b) w) := by
  go_enter Try.func12, Try.ntmps12
  go_wp2_with (first | (refine wpList_fcv_g (by rfl) 28 22 _ (by rfl) .f32 .f64 isSome_f32 Try.underlying22 b (by rfl) hb (over_widen' b) ?_; intro r n hr hv) | (go_at_call 29; refine (sqrt_any _ _).mono ?_; rintro e w' ⟨q, m, rfl, hq, hq2, rfl⟩; have Hq := Lib.hid hq; clear hq) | (go_at_call 28; refine (narrow_any _ (by assumption) (by rw [Hq.out, hv.out]; exact over_root b) _).mono ?_; rintro e w' ⟨q3, m3, rfl, hq3, hq4, rfl⟩; have Hq3 := Lib.hid hq3; clear hq3))
  go_ret
  exact ⟨q3, _, rfl, by rw [Hq3.out, Hq.out, hv.out]; rfl, hq4, rfl⟩

theorem walk (a0 : Nat) (w0 : (Lit.float .f32 a0).wf = true) (w : World) :
    Calls Try.prog 5 #[.float .f32 a0] w fun e w' => e = .returned (.bool true) ∧ Below w.heap.size w w' := by
  have hb : a0 < 2 ^ 32 := lt_of_wf w0
  go_enter Try.func5, Try.ntmps5
  go_wp2_with (first | (go_at_call 27; refine (spec_any _ hb _).mono ?_; rintro e w' ⟨x1, m1, rfl, hx1, hl1, rfl⟩; have H1 := Lib.hid hx1; clear hx1) | (go_at_call 12; refine (impl_any _ hb _).mono ?_; rintro e w' ⟨x2, m2, rfl, hx2, hl2, rfl⟩; have H2 := Lib.hid hx2; clear hx2) | (go_at_call 11; go_in) | (refine wpList_fcv_g (o := ⟨some 10, _, _, _, _, _⟩) (by rfl) 28 22 _ (by rfl) .f32 .f64 isSome_f32 Try.underlying22 _ (by rfl) hl2 (over_widen' _) ?_; intro r1 n1 hr1 hv1) | (refine wpList_fcv_g (o := ⟨some 12, _, _, _, _, _⟩) (by rfl) 28 22 _ (by rfl) .f32 .f64 isSome_f32 Try.underlying22 _ (by rfl) hl1 (over_widen' _) ?_; intro r2 n2 hr2 hv2) | (go_at_call 13; refine (sameFloat_any _ _ (by rw [hv1.out, hv2.out, H1.out, H2.out]) _).mono ?_; rintro e w' ⟨m, rfl, rfl⟩))
  go_ret
  exact ⟨rfl, below_drawn _ _⟩
end Go.Proofs.Ytceeeeggehlglab.fnExactRootNumber
