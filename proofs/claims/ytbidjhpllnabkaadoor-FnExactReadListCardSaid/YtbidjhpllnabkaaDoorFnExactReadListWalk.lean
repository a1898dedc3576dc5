/-
  The walk of the law on the reading of lists.
-/
import Derived.Test.YtbidjhpllnabkaaDoorReadI
set_option linter.unusedVariables false
namespace Go.Proofs.YtbidjhpllnabkaaDoor
open Go Go.RowKit Go.Deep

theorem listVal_in (s : List UInt8) : ∀ n ∈ listVal s, -9223372036854775808 ≤ n ∧ n ≤ 9223372036854775807 := by
  intro n hn
  unfold listVal at hn
  cases hr : readList s with
  | none => rw [hr] at hn; cases hn
  | some l =>
    rw [hr] at hn
    unfold readList at hr
    split at hr
    · injection hr with hr; subst hr; cases hn
    · split at hr
      · have := readAll_in hr n hn; omega
      · cases hr
theorem listVal_len (s : List UInt8) : (listVal s).length ≤ 64 := by
  unfold listVal
  cases hr : readList s with
  | none => simp
  | some l =>
    show l.length ≤ 64
    unfold readList at hr
    split at hr
    · injection hr with hr; subst hr; simp
    · split at hr
      · rw [readAll_len hr]; assumption
      · cases hr

namespace fnExactReadList
theorem walk (s : ByteArray) (hs : s.size ≤ maxLen) (w : World) (hv : VarsS w) :
    Calls Tryd.prog 5 #[.string s] w fun e w' => e = .returned (.bool true) ∧ Below w.heap.size w w' := by
  unfold maxLen at hs
  by_cases hl : s.size ≤ 1048576
  · have hlen := listVal_len s.data.toList
    have hin := listVal_in s.data.toList
    have hS := specReadL s hl w
    have hI := fun w' (h : VarsS w') => implList s hl w' h
    generalize hL : listVal s.data.toList = L at *
    generalize hG : listGood s.data.toList = G at *
    clear hL hG
    have hz : (G != G) = false := by simp
    have Hin := Lib.hid hin
    clear hin
    go_enter Tryd.func5, Tryd.ntmps5
    go_wp2_with fail
    refine hS.mono ?_
    rintro e w1 ⟨a1, c1, rfl, ho1, hb1⟩
    have O1 := Lib.hid ho1
    have B1 := Lib.hid hb1
    have R1 := Lib.hid (ho1.reads Hin.out)
    clear ho1 hb1
    go_wp2_with fail
    refine (hI _ (hv.stays B1.out (Nat.le_refl _))).mono ?_
    rintro e w2 ⟨a2, c2, rfl, ho2, hb2⟩
    have O2 := Lib.hid ho2
    have B12 := Lib.hid hb2
    have R2 := Lib.hid (R1.out.stays hb2 (Nat.le_refl _))
    have S2 := Lib.hid (ho2.reads Hin.out)
    clear ho2 hb2
    go_wp2_with fail
    refine (eqInts_any _ _ _ _ _ _ _ S2.out R2.out (by omega)).mono ?_
    rintro e w3 ⟨rfl, hb3⟩
    have O3 := Lib.hid (O2.out.below hb3 (Nat.le_refl _))
    have B13 := Lib.hid (B12.out.trans (hb3.mono B12.out.size))
    clear hb3
    go_wp2_with fail
    refine (mark_any _ _ _ _ _ 1 O3.out (by omega) (by omega) (by omega) B13.out.size).mono ?_
    rintro e w4 ⟨rfl, ho4, hb4⟩
    have O4 := Lib.hid ho4
    have B14 := Lib.hid (B13.out.trans hb4)
    have M4 := Lib.hid (show IRd w4 a2 L.length c2 (marksOf 1 L.length) by
      have := ho4.reads (marksOf_in (by omega) (by omega))
      rwa [marksOf_len] at this)
    clear ho4 hb4
    go_wp2_with fail
    refine (held_any _ _ _ _ 1 M4.out (by omega) (by omega) (by omega)).mono ?_
    rintro e w' ⟨rfl, rfl⟩
    have hq : ((1 + (L.length : Int)) != (1 + (L.length : Int))) = false := by simp
    go_wp2_with fail
    refine (hI _ (hv.stays (B1.out.trans (B14.out.mono B1.out.size)) (Nat.le_refl _))).mono ?_
    rintro e w5 ⟨a5, c5, rfl, ho5, hb5⟩
    have R5 := Lib.hid (R1.out.stays (B14.out.trans (hb5.mono B14.out.size)) (Nat.le_refl _))
    have S5 := Lib.hid (ho5.reads Hin.out)
    have M5 := Lib.hid (M4.out.stays hb5 (Nat.le_refl _))
    have B5 := Lib.hid ((B1.out.trans (B14.out.mono B1.out.size)).trans (hb5.mono (Nat.le_trans B1.out.size B14.out.size)))
    clear ho5 hb5
    go_wp2_with fail
    refine (eqInts_any _ _ _ _ _ _ _ S5.out R5.out (by omega)).mono ?_
    rintro e w6 ⟨rfl, hb6⟩
    have M6 := Lib.hid (M5.out.stays hb6 (Nat.le_refl _))
    have B6 := Lib.hid (B5.out.trans (hb6.mono B5.out.size))
    clear hb6
    go_wp2_with fail
    refine (held_any _ _ _ _ 1 M6.out (by omega) (by omega) (by omega)).mono ?_
    rintro e w' ⟨rfl, rfl⟩
    go_wp2
    go_ret
    exact ⟨rfl, B6.out⟩
  · have hs' : 1048576 < (s.size : Int) := by omega
    go_enter Tryd.func5, Tryd.ntmps5
    go_wp2
    go_ret
    exact ⟨rfl, Below.refl _ _⟩
end fnExactReadList
end Go.Proofs.YtbidjhpllnabkaaDoor
