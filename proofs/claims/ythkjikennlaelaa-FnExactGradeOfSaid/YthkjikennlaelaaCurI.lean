/-
  The grades of two curves' copies. No theorem of a claim stands here.
-/
import Derived.Test.YthkjikennlaelaaCurH
import Derived.Test.YthkjikennlaelaaCurN
set_option linter.unusedVariables false
set_option linter.unusedSimpArgs false
set_option maxRecDepth 8000
namespace Go.Proofs.Ythkjikennlaelaa
open Go Go.RowKit Go.Deep Go.Proofs.Ythkjikennlaelaa.Fl

theorem margV_cp (K L : CK) (g h : Nat) (v : Option Nat) : margV (K.cp g) (L.cp h) v = margV K L v := by
  cases v <;> rfl
theorem gradeL_cp (K L : CK) (g h lo hi : Nat) (cnt : Int) (k : Nat) : gradeL (K.cp g) (L.cp h) lo hi cnt k = gradeL K L lo hi cnt k := by
  induction k with
  | zero => rfl
  | succ k ih =>
    show leastS (gradeL (K.cp g) (L.cp h) lo hi cnt k) (margV (K.cp g) (L.cp h) _) = leastS (gradeL K L lo hi cnt k) (margV K L _)
    rw [ih, margV_cp]
theorem gradeR_cp (K L : CK) (g h lo hi : Nat) (cnt : Int) : gradeR (K.cp g) (L.cp h) lo hi cnt = gradeR K L lo hi cnt := by
  unfold gradeR
  rw [gradeL_cp]
theorem GradeP_cp (K L : CK) (g h lo hi : Nat) (cnt : Int) (w : World) : GradeP (K.cp g) (L.cp h) lo hi cnt w = GradeP K L lo hi cnt w := by
  funext en w'
  unfold GradeP
  rw [gradeR_cp]
theorem specGradeCp (K L : CK) (g h lo hi : Nat) (cnt : Int) (w : World) (hK : (K.cp g).rd w) (hL : (L.cp h).rd w) :
    Calls Try.prog 21 #[(K.cp g).val, (L.cp h).val, .float .f32 lo, .float .f32 hi, .int .i64 cnt] w (GradeP K L lo hi cnt w) :=
  GradeP_cp K L g h lo hi cnt w ▸ specGrade_any (K.cp g) (L.cp h) lo hi cnt w hK hL
theorem implGradeCp (K L : CK) (g h lo hi : Nat) (cnt : Int) (w : World) (hK : (K.cp g).rd w) (hL : (L.cp h).rd w) (l1 : lo < 2 ^ 32) (l2 : hi < 2 ^ 32) :
    Calls Try.prog 20 #[(K.cp g).val, (L.cp h).val, .float .f32 lo, .float .f32 hi, .int .i64 cnt] w (GradeP K L lo hi cnt w) :=
  GradeP_cp K L g h lo hi cnt w ▸ implGrade_any (K.cp g) (L.cp h) lo hi cnt w hK hL l1 l2
end Go.Proofs.Ythkjikennlaelaa
