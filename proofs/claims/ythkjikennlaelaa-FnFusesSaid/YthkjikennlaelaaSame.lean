/-
  Walks: the laws' own test whether two floats are the same value. No theorem of a claim stands here.
-/
import Derived.Test.YthkjikennlaelaaBits
set_option linter.unusedVariables false
namespace Go.Proofs.Ythkjikennlaelaa.Fl
open Go Go.RowKit

theorem vl_cases (k : FloatKind) (b : Nat) : vl k b = none ∨ vl k b = some b := by
  cases h : vl k b with
  | none => exact .inl rfl
  | some c => obtain rfl := vl_some h; exact .inr rfl

theorem order_self_nan {k : FloatKind} {b : Nat} (h : vl k b = none) : (k.format.order b b != some .eq) = true := by rw [order_self, h]; rfl
theorem order_self_num {k : FloatKind} {b c : Nat} (h : vl k b = some c) : (k.format.order b b != some .eq) = false := by rw [order_self, h]; rfl
theorem order_self_num' {k : FloatKind} {b c : Nat} (h : vl k b = some c) : (k.format.order b b == some .eq) = true := by rw [order_self, h]; rfl

theorem sameFloat_any (a b : Nat) (h : vl .f64 a = vl .f64 b) (w : World) :
    Calls Try.prog 33 #[.float .f64 a, .float .f64 b] w (VRet (.bool true) w) := by
  rcases vl_cases .f64 a with ha | ha
  · have h1 := order_self_nan ha
    have h2 := order_self_nan (h.symm.trans ha)
    clear ha h
    go_enter Try.func33, Try.ntmps33
    go_wp2
    go_ret
    exact ⟨0, rfl, rfl⟩
  · obtain rfl : b = a := vl_some (h.symm.trans ha)
    have h1 := order_self_num ha
    have h2 := order_self_num' ha
    clear ha h
    by_cases hz : (FloatKind.f64.format.order b 0 == some .eq) = true
    · go_enter Try.func33, Try.ntmps33
      go_wp2_with (first | (refine wpList_fop (o := ⟨some 28, _, _, _, _, _⟩) (by rfl) _ _ _ _ _ (by rfl) (by rfl) _ _ _ (by rfl) (by rfl) ?_; intro r1 n1 hr1 hv1) | (refine wpList_fop (o := ⟨some 31, _, _, _, _, _⟩) (by rfl) _ _ _ _ _ (by rfl) (by rfl) _ _ _ (by rfl) (by rfl) ?_; intro r2 n2 hr2 hv2))
      go_ret
      refine ⟨_, ?_, rfl⟩
      rw [order_vl, order_vl _ r2, hv1.out, hv2.out]; simp
    · have hz' : (FloatKind.f64.format.order b 0 == some .eq) = false := by simpa using hz
      clear hz
      go_enter Try.func33, Try.ntmps33
      go_wp2
      go_ret
      exact ⟨0, rfl, rfl⟩
end Go.Proofs.Ythkjikennlaelaa.Fl
