/-
  The walk of the law on the texts of numbers.
-/
import Derived.Test.YtilebahnfbepgaaDoorNumT
set_option linter.unusedVariables false
namespace Go.Proofs.YtilebahnfbepgaaDoor
open Go Go.RowKit Go.Deep Go.Proofs.YtilebahnfbepgaaDoor.Fl

namespace fnExactNumbersText
theorem walk (a0 : Option Addr) (len0 cap0 : Nat) (z0 : List Nat) (w : World) (w0 : IsRowF .f32 w a0 len0 cap0 z0) (hT : Tz w) :
    Calls Tryd.prog 4 #[.slice a0 len0 cap0] w fun e w' => e = .returned (.bool true) ∧ Below w.heap.size w w' := by
  have hmax : len0 ≤ 9223372036854775807 := by
    rcases w0 with ⟨_, rfl, _, _⟩ | ⟨x, _, h2, h3, _⟩
    · omega
    · unfold maxLen at h3; omega
  by_cases hl : len0 ≤ 1048576
  · have Htt := Lib.hid (show (z0.take len0).take len0 = z0.take len0 by rw [List.take_take, Nat.min_self])
    have Hlt := Lib.hid (row_lt w0)
    have W0 := Lib.hid w0
    clear w0
    have hz : (numOk (z0.take len0) != numOk (z0.take len0)) = false := by simp
    have hz2 : ((numRes (z0.take len0)).toList == (numRes (z0.take len0)).toList) = true := by simp
    go_enter Tryd.func4, Tryd.ntmps4
    go_wp2_with fail
    refine (copyFloats _ _ _ _ _ W0.out hl Hlt.out).mono ?_
    rintro e w1 ⟨x1, rfl, hx1, -, hb1⟩
    have X1 := Lib.hid (fRd_of hx1)
    have B1 := Lib.hid hb1
    clear hx1 hb1
    rw [Htt.out] at X1
    go_wp2_with fail
    refine (specNums_any _ _ _ _ _ X1.out hl).mono ?_
    rintro e w2 ⟨rfl, hb2⟩
    have B2 := Lib.hid (below_then B1.out hb2)
    clear hb2
    go_wp2_with fail
    refine (copyFloats _ _ _ _ _ (isRowF_below W0.out B2.out (Nat.le_refl _)) hl Hlt.out).mono ?_
    rintro e w3 ⟨x3, rfl, hx3, -, hb3⟩
    have R3 := Lib.hid hx3
    have X3 := Lib.hid (fRd_of hx3)
    have B3 := Lib.hid (below_then B2.out hb3)
    clear hx3 hb3
    rw [Htt.out] at X3
    go_wp2_with fail
    refine (implNums_any _ (hT.stays B3.out (Nat.le_refl _)) _ _ _ _ X3.out hl).mono ?_
    rintro e w4 ⟨rfl, hb4⟩
    have R4 := Lib.hid (isRowF_below R3.out hb4 (Nat.le_refl _))
    have B4 := Lib.hid (below_then B3.out hb4)
    clear hb4
    go_wp2_with fail
    refine (copyFloats _ _ _ _ _ (isRowF_below W0.out B4.out (Nat.le_refl _)) hl Hlt.out).mono ?_
    rintro e w5 ⟨x5, rfl, hx5, -, hb5⟩
    have R5 := Lib.hid hx5
    have Y5 := Lib.hid (isRowF_below R4.out hb5 (Nat.le_refl _))
    have B5 := Lib.hid (below_then B4.out hb5)
    clear hx5 hb5
    go_wp2_with fail
    refine (eqFloats_any _ _ _ _ _ _ _ _ Y5.out R5.out hl rfl).mono ?_
    rintro e w' ⟨m4, rfl, rfl⟩
    go_wp2
    go_ret
    exact ⟨rfl, below_then B5.out (below_drawn w5 _)⟩
  · have hs' : 1048576 < (len0 : Int) := by omega
    go_enter Tryd.func4, Tryd.ntmps4
    go_wp2
    go_ret
    exact ⟨rfl, Below.refl _ _⟩
end fnExactNumbersText
end Go.Proofs.YtilebahnfbepgaaDoor
