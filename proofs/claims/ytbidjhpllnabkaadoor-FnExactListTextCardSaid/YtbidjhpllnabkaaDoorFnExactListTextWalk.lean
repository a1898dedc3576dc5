/-
  The walk of the law on the texts of lists.
-/
import Derived.Test.YtbidjhpllnabkaaDoorListT
set_option linter.unusedVariables false
namespace Go.Proofs.YtbidjhpllnabkaaDoor
open Go Go.RowKit Go.Deep

theorem specList_any (w : World) (a : Option Addr) (len cap : Nat) (l : List Int) (ha : IRd w a len cap l) (hl : len ≤ 1048576) :
    Calls Tryd.prog 8 #[.slice a len cap] w fun e w' => e = .returned (.tuple #[.string (textRes l), .bool (listOk l)]) ∧ Below w.heap.size w w' := by
  cases hok : listOk l with
  | false =>
    have Hf := Lib.hid (show textRes l = ⟨#[]⟩ from if_neg (by rw [hok]; simp))
    have hL := l01List_any w a len cap l ha hl
    rw [hok] at hL
    clear hok
    go_enter Tryd.func8, Tryd.ntmps8
    go_wp2_with (go_at_call 20; refine hL.mono ?_; rintro e w' ⟨rfl, rfl⟩)
    go_ret2
    exact ⟨by rw [Hf.out]; rfl, Below.refl _ _⟩
  | true =>
    have Hf := Lib.hid (show textRes l = ⟨(listTextOf l).toArray⟩ from if_pos hok)
    have hL := l01List_any w a len cap l ha hl
    rw [hok] at hL
    have h64 : len ≤ 64 := by
      rw [← ha.1]
      unfold listOk at hok
      simp at hok
      exact hok.2
    have hT := l01Text_any w a len cap l ha h64
    clear hok
    go_enter Tryd.func8, Tryd.ntmps8
    go_wp2_with (first | (go_at_call 20; refine hL.mono ?_; rintro e w' ⟨rfl, rfl⟩) | (go_at_call 21; refine hT.mono ?_; rintro e w2 ⟨rfl, hb⟩; have Hb := Lib.hid hb; clear hb))
    go_ret2
    exact ⟨by rw [Hf.out]; rfl, Hb.out⟩

namespace fnExactListText
theorem walk (a0 : Option Addr) (len0 cap0 : Nat) (z0 : List Int) (w : World) (w0 : IRd w a0 len0 cap0 z0) (hv : TabOk w) :
    Calls Tryd.prog 4 #[.slice a0 len0 cap0] w fun e w' => e = .returned (.bool true) ∧ Below w.heap.size w w' := by
  have hmax : len0 ≤ 9223372036854775807 := by
    have h1 := w0.2.1
    have h2 := w0.2.2.1
    unfold maxLen at h2; omega
  by_cases hl : len0 ≤ 1048576
  · have hz : (listOk z0 != listOk z0) = false := by simp
    have hz2 : ((textRes z0).toList == (textRes z0).toList) = true := by simp
    have W0 := Lib.hid w0
    clear w0
    go_enter Tryd.func4, Tryd.ntmps4
    go_wp2_with fail
    refine (copyInts _ _ _ _ _ W0.out hl).mono ?_
    rintro e w1 ⟨x1, rfl, hx1, hb1⟩
    have X1 := Lib.hid hx1
    have B1 := Lib.hid hb1
    clear hx1 hb1
    go_wp2_with fail
    refine (specList_any _ _ _ _ _ X1.out hl).mono ?_
    rintro e w2 ⟨rfl, hb2⟩
    have B2 := Lib.hid (below_th B1.out hb2)
    clear hb2
    go_wp2_with fail
    refine (copyInts _ _ _ _ _ (W0.out.stays B2.out (Nat.le_refl _)) hl).mono ?_
    rintro e w3 ⟨x3, rfl, hx3, hb3⟩
    have X3 := Lib.hid hx3
    have B3 := Lib.hid (below_th B2.out hb3)
    clear hx3 hb3
    go_wp2_with fail
    refine (implList_any _ (hv.stays B3.out (Nat.le_refl _)) _ _ _ _ X3.out hl).mono ?_
    rintro e w4 ⟨rfl, hb4⟩
    have X4 := Lib.hid (X3.out.stays hb4 (Nat.le_refl _))
    have B4 := Lib.hid (below_th B3.out hb4)
    clear hb4
    go_wp2_with fail
    refine (copyInts _ _ _ _ _ (W0.out.stays B4.out (Nat.le_refl _)) hl).mono ?_
    rintro e w5 ⟨x5, rfl, hx5, hb5⟩
    have X5 := Lib.hid hx5
    have Y5 := Lib.hid (X4.out.stays hb5 (Nat.le_refl _))
    have B5 := Lib.hid (below_th B4.out hb5)
    clear hx5 hb5
    go_wp2_with fail
    refine (eqInts_any _ _ _ _ _ _ _ Y5.out X5.out hl).mono ?_
    rintro e w6 ⟨rfl, hb6⟩
    have B6 := Lib.hid (below_th B5.out hb6)
    clear hb6
    go_wp2
    go_ret
    exact ⟨rfl, B6.out⟩
  · have hs' : 1048576 < (len0 : Int) := by omega
    go_enter Tryd.func4, Tryd.ntmps4
    go_wp2
    go_ret
    exact ⟨rfl, Below.refl _ _⟩
end fnExactListText
end Go.Proofs.YtbidjhpllnabkaaDoor
