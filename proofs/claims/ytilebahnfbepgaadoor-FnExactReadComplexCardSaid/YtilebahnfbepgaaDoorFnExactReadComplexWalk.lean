/-
  The walk of the law on the reading of complex numbers.
-/
import Derived.Test.YtilebahnfbepgaaDoorMarksC
set_option linter.unusedVariables false
namespace Go.Proofs.YtilebahnfbepgaaDoor
open Go Go.RowKit Go.Deep Go.Proofs.YtilebahnfbepgaaDoor.Fl

theorem clistVal_len (s : List UInt8) : (clistVal s).length ≤ 256 := by
  unfold clistVal
  cases hr : readCList s with
  | none => simp
  | some l =>
    show l.length ≤ 256
    unfold readCList at hr
    split at hr
    · injection hr with hr; subst hr; simp
    · split at hr
      · rw [readPrs_len hr]; assumption
      · cases hr

namespace fnExactReadComplex
theorem walk (s : ByteArray) (hs : s.size ≤ maxLen) (w : World) (hv : VarsN w) :
    Calls Tryd.prog 3 #[.string s] w fun e w' => e = .returned (.bool true) ∧ Below w.heap.size w w' := by
  unfold maxLen at hs
  by_cases hl : s.size ≤ 1048576
  · have hlen := clistVal_len s.data.toList
    have hS := specReadC s hl w
    have hI := fun w' (h : VarsN w') => implReadC s hl w' h
    generalize hL : clistVal s.data.toList = L at *
    generalize hG : clistGood s.data.toList = G at *
    clear hL hG
    have hz : (G != G) = false := by simp
    go_enter Tryd.func3, Tryd.ntmps3
    go_wp2_with fail
    refine hS.mono ?_
    rintro e w1 ⟨a1, c1, rfl, ho1, hb1⟩
    have B1 := Lib.hid hb1
    have R1 := Lib.hid (ho1.reads)
    clear ho1 hb1
    go_wp2_with fail
    refine (hI _ (hv.stays B1.out (Nat.le_refl _))).mono ?_
    rintro e w2 ⟨a2, c2, rfl, ho2, hb2⟩
    have O2 := Lib.hid ho2
    have B12 := Lib.hid hb2
    have R2 := Lib.hid (R1.out.stays hb2 (Nat.le_refl _))
    have S2 := Lib.hid (ho2.reads)
    clear ho2 hb2
    go_wp2_with fail
    refine (eqC_any _ _ _ _ _ _ _ S2.out R2.out (by omega)).mono ?_
    rintro e w3 ⟨n3, rfl, hw3⟩
    have hb3 : Below w2.heap.size w2 w3 := by rw [hw3]; exact below_drawn w2 n3
    have O3 := Lib.hid (O2.out.below hb3 (Nat.le_refl _))
    have B13 := Lib.hid (B12.out.trans (hb3.mono B12.out.size))
    clear hb3 hw3
    go_wp2_with fail
    refine (markC_any _ _ _ _ _ O3.out (by omega) B13.out.size).mono ?_
    rintro e w4 ⟨rfl, ho4, hb4⟩
    have B14 := Lib.hid (B13.out.trans hb4)
    have M4 := Lib.hid (show CRd w4 a2 L.length c2 (cmarks L.length) by
      have := ho4.reads
      rwa [cmarks_len] at this)
    clear ho4 hb4
    go_wp2_with fail
    refine (heldC_any _ _ _ _ M4.out (by omega)).mono ?_
    rintro e w' ⟨rfl, rfl⟩
    have hq : ((1 + (L.length : Int)) != (1 + (L.length : Int))) = false := by simp
    go_wp2_with fail
    refine (hI _ (hv.stays (B1.out.trans (B14.out.mono B1.out.size)) (Nat.le_refl _))).mono ?_
    rintro e w5 ⟨a5, c5, rfl, ho5, hb5⟩
    have R5 := Lib.hid (R1.out.stays (B14.out.trans (hb5.mono B14.out.size)) (Nat.le_refl _))
    have S5 := Lib.hid (ho5.reads)
    have M5 := Lib.hid (M4.out.stays hb5 (Nat.le_refl _))
    have B5 := Lib.hid ((B1.out.trans (B14.out.mono B1.out.size)).trans (hb5.mono (Nat.le_trans B1.out.size B14.out.size)))
    clear ho5 hb5
    go_wp2_with fail
    refine (eqC_any _ _ _ _ _ _ _ S5.out R5.out (by omega)).mono ?_
    rintro e w6 ⟨n6, rfl, hw6⟩
    have hb6 : Below w5.heap.size w5 w6 := by rw [hw6]; exact below_drawn w5 n6
    have M6 := Lib.hid (M5.out.stays hb6 (Nat.le_refl _))
    have B6 := Lib.hid (B5.out.trans (hb6.mono B5.out.size))
    clear hb6 hw6
    go_wp2_with fail
    refine (heldC_any _ _ _ _ M6.out (by omega)).mono ?_
    rintro e w' ⟨rfl, rfl⟩
    go_wp2
    go_ret
    exact ⟨rfl, B6.out⟩
  · have hs' : 1048576 < (s.size : Int) := by omega
    go_enter Tryd.func3, Tryd.ntmps3
    go_wp2
    go_ret
    exact ⟨rfl, Below.refl _ _⟩
end fnExactReadComplex
end Go.Proofs.YtilebahnfbepgaaDoor
