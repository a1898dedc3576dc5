/-
  Balanced phases of a source. No theorem of a claim stands here.
-/
import Derived.Test.YtljclagfplildaaDrawP
import Derived.Test.YtljclagfplildaaThird
set_option linter.unusedVariables false
set_option maxRecDepth 8000
namespace Go.Proofs.Ytljclagfplildaa
open Go Go.RowKit Go.Deep Go.Proofs.Ytljclagfplildaa.Fl

set_option maxHeartbeats 4000000 in
theorem even_any (n : Nat) (h0 : 8 ≤ n) (h1 : n ≤ 15) (w : World) :
    Calls Try.prog 88 #[.complex .f32 (floatOfInt .f32 (n : Int)) 0] w fun e w' => ∃ (a0 a1 b0 b1 c0 c1 : Nat), e = .returned (.agg #[.complex .f32 a0 a1, .complex .f32 b0 b1, .complex .f32 c0 c1]) ∧
      a0 < 2 ^ 32 ∧ a1 < 2 ^ 32 ∧ b0 < 2 ^ 32 ∧ b1 < 2 ^ 32 ∧ c0 < 2 ^ 32 ∧ c1 < 2 ^ 32 ∧ w.grownBy w' none := by
  have hl := source_lt n h0 h1
  have S0 : Hid True := Lib.hid trivial
  have Sb := Lib.hid (source_bd n h0 h1)
  have hst := fun (a : Addr) (x y : Nat) (m : Mode) (w : World) => run_store Try.prog w a (.complex .f32 x y) m rfl
  have hn : ∀ w : World, (Op.unary UnOp.neg (.float .f64 4599676419421066581)).run Try.prog w = .ok (.float .f64 13823048456275842389) w := fun w => rfl
  generalize hA : floatOfInt .f32 (n : Int) = A at *
  go_enter Try.func88, Try.ntmps88
  go_wp2_with (first | (have h_ := S0; clear h_; go_at_call 161; refine (l01Phasor_any 13823048456275842389 (by decide) _).mono ?_; rintro e w' ⟨x1, y1, n1, rfl, hp1, l1, l2, rfl⟩; have B1 := Lib.hid (dthird_bd hp1); clear S0; clear hp1) | (have h_ := B1; clear h_; go_at_call 160; refine (mul_any A 0 x1 y1 4 0 hl (by decide) l1 l2 (by decide) (by decide) (by decide) Sb.out zero_bd B1.out.1 B1.out.2 _).mono ?_; rintro e w' ⟨x2, y2, n2, rfl, _, l3, l4, rfl⟩; have S1 : Hid True := Lib.hid trivial; clear B1) | (have h_ := S1; clear h_; go_at_call 161; refine (l01Phasor_any 4599676419421066581 (by decide) _).mono ?_; rintro e w' ⟨x3, y3, n3, rfl, hp3, l5, l6, rfl⟩; have B2 := Lib.hid (third_bd hp3); clear S1; clear hp3) | (have h_ := B2; clear h_; go_at_call 160; refine (mul_any A 0 x3 y3 4 0 hl (by decide) l5 l6 (by decide) (by decide) (by decide) Sb.out zero_bd B2.out.1 B2.out.2 _).mono ?_; rintro e w' ⟨x4, y4, n4, rfl, _, l7, l8, rfl⟩; clear B2))
  have V := set3c (set3b (set3a (show ((w.alloc (.cells #[.complex .f32 0 0, .complex .f32 0 0, .complex .f32 0 0] 37)).drewN (n1 + n2 + n3 + n4)).rowIs w.heap.size 37 3 (three (.complex .f32 0 0) (.complex .f32 0 0) (.complex .f32 0 0)) from new3 w _ _ _ _) (.complex .f32 A 0)) (.complex .f32 x2 y2)) (.complex .f32 x4 y4)
  have v0 : _ = some (Value.complex .f32 A 0) := V.cell (i := 0) (by omega)
  have v1 : _ = some (Value.complex .f32 x2 y2) := V.cell (i := 1) (by omega)
  have v2 : _ = some (Value.complex .f32 x4 y4) := V.cell (i := 2) (by omega)
  try simp only [Exit.inBlock, Exit.then]
  refine bodyPost_ret (by simp [results, Try.results88, go_sem, v0, v1, v2]; try rfl) rfl ?_
  exact ⟨A, 0, x2, y2, x4, y4, rfl, hl, by decide, l3, l4, l7, l8, gfresh (gfresh (gfresh (gdrew (World.grownBy_alloc w _ none) _) (Nat.le_refl _) _ _) (Nat.le_refl _) _ _) (Nat.le_refl _) _ _⟩
end Go.Proofs.Ytljclagfplildaa
