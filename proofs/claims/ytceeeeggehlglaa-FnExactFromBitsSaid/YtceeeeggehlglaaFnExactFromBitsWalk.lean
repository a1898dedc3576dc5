/-
  The walk of the law on numbers from bits.
-/
import Derived.Test.YtceeeeggehlglaaSame
set_option linter.unusedVariables false
namespace Go.Proofs.Ytceeeeggehlglaa.fnExactFromBits
open Go Go.RowKit Go.Proofs.Ytceeeeggehlglaa.Fl

def fromBits (n : Int) : Nat := if 0 ≤ n ∧ n ≤ 4294967295 then n.toNat else 0
def fromBitsOk (n : Int) : Bool := decide (0 ≤ n ∧ n ≤ 4294967295)

theorem spec_any (n : Int) (w : World) : Calls Try.prog 33 #[.int .i64 n] w (VRet (.tuple #[.float .f32 (fromBits n), .bool (fromBitsOk n)]) w) := by
  have hf := run_f32frombits
  by_cases c1 : n < 0
  · have e1 : fromBits n = 0 := if_neg (by omega)
    have e2 : fromBitsOk n = false := decide_eq_false (by omega)
    rw [e1, e2]; clear e1 e2
    go_enter Try.func33, Try.ntmps33
    go_wp2
    go_ret2
    exact ⟨0, rfl, rfl⟩
  · by_cases c2 : 4294967295 < n
    · have e1 : fromBits n = 0 := if_neg (by omega)
      have e2 : fromBitsOk n = false := decide_eq_false (by omega)
      rw [e1, e2]; clear e1 e2
      have d1 : decide (n ≤ 4294967295) = false := by simp; omega
      have d2 : decide (4294967295 < n) = true := by simp; omega
      go_enter Try.func33, Try.ntmps33
      go_wp2
      go_ret2
      exact ⟨0, rfl, rfl⟩
    · have e1 : fromBits n = n.toNat := if_pos (by omega)
      have e2 : fromBitsOk n = true := decide_eq_true (by omega)
      rw [e1, e2]; clear e1 e2
      have d1 : decide (n ≤ 4294967295) = true := by simp; omega
      have d2 : decide (4294967295 < n) = false := by simp; omega
      go_enter Try.func33, Try.ntmps33
      go_wp2
      go_ret2
      exact ⟨0, rfl, rfl⟩

theorem impl_any (n : Int) (w : World) : Calls Try.prog 34 #[.int .i64 n] w (VRet (.tuple #[.float .f32 (fromBits n), .bool (fromBitsOk n)]) w) := by
  have hf := run_f32frombits
  by_cases c1 : n < 0
  · have e1 : fromBits n = 0 := if_neg (by omega)
    have e2 : fromBitsOk n = false := decide_eq_false (by omega)
    rw [e1, e2]; clear e1 e2
    go_enter Try.func34, Try.ntmps34
    go_wp2
    go_ret2
    exact ⟨0, rfl, rfl⟩
  · by_cases c2 : 4294967295 < n
    · have e1 : fromBits n = 0 := if_neg (by omega)
      have e2 : fromBitsOk n = false := decide_eq_false (by omega)
      rw [e1, e2]; clear e1 e2
      have d1 : decide (n ≤ 4294967295) = false := by simp; omega
      have d2 : decide (4294967295 < n) = true := by simp; omega
      go_enter Try.func34, Try.ntmps34
      go_wp2
      go_ret2
      exact ⟨0, rfl, rfl⟩
    · have e1 : fromBits n = n.toNat := if_pos (by omega)
      have e2 : fromBitsOk n = true := decide_eq_true (by omega)
      rw [e1, e2]; clear e1 e2
      have d1 : decide (n ≤ 4294967295) = true := by simp; omega
      have d2 : decide (4294967295 < n) = false := by simp; omega
      go_enter Try.func34, Try.ntmps34
      go_wp2
      go_ret2
      exact ⟨0, rfl, rfl⟩

theorem walk (a0 : Int) (w0 : (Lit.int .i64 a0).wf = true) (w : World) :
    Calls Try.prog 8 #[.int .i64 a0] w fun e w' => e = .returned (.bool true) ∧ Below w.heap.size w w' := by
  have hb : fromBits a0 < 2 ^ FloatKind.f32.format.width := by
    show _ < 2 ^ 32
    unfold fromBits; split <;> omega
  have hz : (fromBitsOk a0 != fromBitsOk a0) = false := by simp
  go_enter Try.func8, Try.ntmps8
  go_wp2_with (first | (go_at_call 33; refine (spec_any _ _).mono ?_; rintro e w' ⟨m, rfl, rfl⟩) | (go_at_call 34; refine (impl_any _ _).mono ?_; rintro e w' ⟨m, rfl, rfl⟩) | (refine wpList_fcv (o := ⟨some 18, _, _, _, _, _⟩) (by rfl) 28 27 _ (by rfl) .f32 .f64 isSome_f32 Try.underlying27 _ (by rfl) hb (over_widen' _) ?_; intro r1 n1 hr1 hv1) | (refine wpList_fcv (o := ⟨some 20, _, _, _, _, _⟩) (by rfl) 28 27 _ (by rfl) .f32 .f64 isSome_f32 Try.underlying27 _ (by rfl) hb (over_widen' _) ?_; intro r2 n2 hr2 hv2) | (go_at_call 35; refine (sameFloat_any _ _ (hv1.out.trans hv2.out.symm) _).mono ?_; rintro e w' ⟨m, rfl, rfl⟩))
  go_ret
  exact ⟨rfl, below_drawn _ _⟩
end Go.Proofs.Ytceeeeggehlglaa.fnExactFromBits
