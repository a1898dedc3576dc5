/-
  Pairs of 8 digits: in the program and in the model. No theorem of a claim stands here.
-/
import Derived.Test.YtcjkcoibeieeeaaGreatDoorCplx
import Derived.Laws.Strings3
set_option linter.unusedVariables false
namespace Go.Proofs.YtcjkcoibeieeeaaGreatDoor
open Go Go.RowKit Go.Deep Go.Proofs.YtcjkcoibeieeeaaGreatDoor.Fl

def readPr (l : List UInt8) : Option (Nat × Nat) := if l.length = 16 then
  match readNum (l.take 8), readNum (l.drop 8) with
  | some a, some b => some (a, b)
  | _, _ => none
  else none
def resPr : Option (Nat × Nat) → Value
  | some (a, b) => .tuple #[.complex .f32 a b, .bool true]
  | none => .tuple #[.complex .f32 0 0, .bool false]
theorem readPr_in {l : List UInt8} {p : Nat × Nat} (h : readPr l = some p) : p.1 < 2 ^ 32 ∧ p.2 < 2 ^ 32 := by
  unfold readPr at h
  split at h
  · cases h1 : readNum (l.take 8) with
    | none => rw [h1] at h; simp at h
    | some a =>
      cases h2 : readNum (l.drop 8) with
      | none => rw [h1, h2] at h; simp at h
      | some b =>
        rw [h1, h2] at h
        simp at h
        subst h
        exact ⟨(readNum_some h1).1, (readNum_some h2).1⟩
  · cases h
theorem ext_lo (s : ByteArray) : (s.extract 0 8).data.toList = s.data.toList.take 8 := by rw [ext_list]; simp
theorem ext_hi (s : ByteArray) (h : s.size = 16) : (s.extract 8 s.size).data.toList = s.data.toList.drop 8 := by
  rw [ext_list]
  exact List.take_of_length_le (by rw [List.length_drop, Array.length_toList]; have : s.data.size = s.size := rfl; omega)
theorem ext_lo_size (s : ByteArray) (h : s.size = 16) : (s.extract 0 8).size = 8 := by
  have := congrArg List.length (ext_lo s)
  rw [Array.length_toList, List.length_take, Array.length_toList] at this
  have e : s.data.size = s.size := rfl
  have e2 : (s.extract 0 8).data.size = (s.extract 0 8).size := rfl
  omega
theorem ext_hi_size (s : ByteArray) (h : s.size = 16) : (s.extract 8 s.size).size = 8 := by
  have := congrArg List.length (ext_hi s h)
  rw [Array.length_toList, List.length_drop, Array.length_toList] at this
  have e : s.data.size = s.size := rfl
  have e2 : (s.extract 8 s.size).data.size = (s.extract 8 s.size).size := rfl
  omega

theorem readPair_any (s : ByteArray) (hs : s.size ≤ 1048576) (w : World) (hv : VarsH w) :
    Calls Tryz.prog 69 #[.string s] w fun e w' => e = .returned (resPr (readPr s.data.toList)) ∧ Below w.heap.size w w' := by
  by_cases h16 : s.size = 16
  · have hl16 : s.data.toList.length = 16 := by rw [Array.length_toList]; exact h16
    have hne : ((s.size : Int) != 16) = false := by rw [h16]; rfl
    have hsl1 : ∀ w, (Instr.slice 9 (.string s) none (some (.int .i64 8)) none).run Tryz.prog w = .ok (.string (s.extract 0 8)) w := fun w => by
      rw [run_slice_string_to_if (P := Tryz.prog) w 9 s .i64 8 Tryz.underlying9]
      rw [if_pos (by omega)]; rfl
    have hsl2 : ∀ w, (Instr.slice 9 (.string s) (some (.int .i64 8)) none none).run Tryz.prog w = .ok (.string (s.extract 8 s.size)) w := fun w => by
      rw [run_slice_string_from_if (P := Tryz.prog) w 9 s .i64 8 Tryz.underlying9]
      rw [if_pos (by omega)]; rfl
    have hA := readNumber_any (s.extract 0 8) (by rw [ext_lo_size s h16]; omega) w hv
    have hB := fun w' (h : Below w.heap.size w w') => readNumber_any (s.extract 8 s.size) (by rw [ext_hi_size s h16]; omega) w' (hv.stays h (Nat.le_refl _))
    rw [ext_lo] at hA
    simp only [ext_hi s h16] at hB
    have hP : readPr s.data.toList = match readNum (s.data.toList.take 8), readNum (s.data.toList.drop 8) with
      | some a, some b => some (a, b)
      | _, _ => none := if_pos hl16
    generalize s.extract 0 8 = p1 at *
    generalize s.extract 8 s.size = p2 at *
    clear hl16
    cases h1 : readNum (s.data.toList.take 8) with
    | none =>
      rw [h1] at hP hA
      have HP := Lib.hid (show readPr s.data.toList = none by rw [hP])
      clear hP h1
      cases h2 : readNum (s.data.toList.drop 8) with
      | none =>
        simp only [h2, resNum] at hB hA
        clear h2
        go_enter Tryz.func69, Tryz.ntmps69
        go_wp2_with fail
        refine hA.mono ?_
        rintro e w1 ⟨rfl, hb1⟩
        have B1 := Lib.hid hb1
        clear hb1
        go_wp2_with fail
        refine (hB _ B1.out).mono ?_
        rintro e w2 ⟨rfl, hb2⟩
        have B2 := Lib.hid (B1.out.trans (hb2.mono B1.out.size))
        clear hb2
        go_wp2
        go_ret2
        exact ⟨by rw [HP.out]; rfl, B2.out⟩
      | some b =>
        simp only [h2, resNum] at hB hA
        clear h2
        go_enter Tryz.func69, Tryz.ntmps69
        go_wp2_with fail
        refine hA.mono ?_
        rintro e w1 ⟨rfl, hb1⟩
        have B1 := Lib.hid hb1
        clear hb1
        go_wp2_with fail
        refine (hB _ B1.out).mono ?_
        rintro e w2 ⟨rfl, hb2⟩
        have B2 := Lib.hid (B1.out.trans (hb2.mono B1.out.size))
        clear hb2
        go_wp2
        go_ret2
        exact ⟨by rw [HP.out]; rfl, B2.out⟩
    | some a =>
      rw [h1] at hP hA
      cases h2 : readNum (s.data.toList.drop 8) with
      | none =>
        rw [h2] at hP
        have HP := Lib.hid (show readPr s.data.toList = none by rw [hP])
        simp only [h2, resNum] at hB hA
        clear hP h1 h2
        go_enter Tryz.func69, Tryz.ntmps69
        go_wp2_with fail
        refine hA.mono ?_
        rintro e w1 ⟨rfl, hb1⟩
        have B1 := Lib.hid hb1
        clear hb1
        go_wp2_with fail
        refine (hB _ B1.out).mono ?_
        rintro e w2 ⟨rfl, hb2⟩
        have B2 := Lib.hid (B1.out.trans (hb2.mono B1.out.size))
        clear hb2
        go_wp2
        go_ret2
        exact ⟨by rw [HP.out]; rfl, B2.out⟩
      | some b =>
        rw [h2] at hP
        have HP := Lib.hid (show readPr s.data.toList = some (a, b) by rw [hP])
        simp only [h2, resNum] at hB hA
        clear hP h1 h2
        go_enter Tryz.func69, Tryz.ntmps69
        go_wp2_with fail
        refine hA.mono ?_
        rintro e w1 ⟨rfl, hb1⟩
        have B1 := Lib.hid hb1
        clear hb1
        go_wp2_with fail
        refine (hB _ B1.out).mono ?_
        rintro e w2 ⟨rfl, hb2⟩
        have B2 := Lib.hid (B1.out.trans (hb2.mono B1.out.size))
        clear hb2
        go_wp2
        go_ret2
        exact ⟨by rw [HP.out]; rfl, B2.out⟩
  · have hne : ((s.size : Int) != 16) = true := by rw [bne_iff_ne]; omega
    have Hv := Lib.hid (show readPr s.data.toList = none from if_neg (by rw [Array.length_toList]; exact h16))
    go_enter Tryz.func69, Tryz.ntmps69
    go_wp2
    go_ret2
    exact ⟨by rw [Hv.out]; rfl, Below.refl _ _⟩
end Go.Proofs.YtcjkcoibeieeeaaGreatDoor
