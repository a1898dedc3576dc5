/-
  Currents of loads. No theorem of a claim stands here.
-/
import Derived.Test.YtljclagfplildaaPhs2
set_option linter.unusedVariables false
set_option linter.unusedSimpArgs false
set_option maxRecDepth 8000
namespace Go.Proofs.Ytljclagfplildaa
open Go Go.RowKit Go.Deep Go.Proofs.Ytljclagfplildaa.Fl

def isZ (b : Nat) : Bool := FloatKind.f32.format.order b 0 == some .eq
theorem bus_alloc (w : World) (par : Int) (o0 o1 s0 s1 : Nat) (kind : Int) (l : Nat → Nat) (cust : Int) : Below w.heap.size w (w.alloc (.cells (BL par o0 o1 s0 s1 kind l cust).toArray 77)) := bel_alloc w _

theorem curZ_any (par : Int) (o0 o1 s0 s1 : Nat) (kind : Int) (l : Nat → Nat) (cust : Int) (a b c d : Nat) (ha : isZ a = true) (hb : isZ b = true) (w : World) :
    Calls Try.prog 191 #[BusL par o0 o1 s0 s1 kind l cust, .complex .f32 a b, .complex .f32 c d] w (RB (.complex .f32 0 0) w) := by
  unfold isZ at ha hb
  have hW := bus_alloc w par o0 o1 s0 s1 kind l cust
  unfold BusL
  unfold BL at *
  go_enter Try.func191, Try.ntmps191
  go_wp2
  go_ret
  exact ⟨rfl, hW⟩
theorem curC_any (par : Int) (o0 o1 s0 s1 : Nat) (l : Nat → Nat) (cust : Int) (a b c d : Nat) (hz : (isZ a && isZ b) = false) (w : World) :
    Calls Try.prog 191 #[BusL par o0 o1 s0 s1 1 l cust, .complex .f32 a b, .complex .f32 c d] w (RB (.complex .f32 a b) w) := by
  have hW := bus_alloc w par o0 o1 s0 s1 1 l cust
  unfold isZ at hz
  unfold BusL
  unfold BL at *
  have hy : ∀ w : World, (binOp .eql 25 (.complex .f32 a b) (.complex .f32 0 0)).run Try.prog w = .ok (.bool false) w := by
    intro w; rw [← hz]; simp [go_sem]
  go_enter Try.func191, Try.ntmps191
  go_wp2
  go_ret
  exact ⟨rfl, hW⟩
theorem curP_any (par : Int) (o0 o1 s0 s1 : Nat) (l : Nat → Nat) (cust : Int) (a b c d r s : Nat) (hz : (isZ a && isZ b) = false) (hq : QuoV a b c d r s) (w : World) :
    Calls Try.prog 191 #[BusL par o0 o1 s0 s1 0 l cust, .complex .f32 a b, .complex .f32 c d] w (RB (.complex .f32 r (Op.negFloat .f32 s)) w) := by
  have hW := Lib.hid (bus_alloc w par o0 o1 s0 s1 0 l cust)
  have hQ := fun w' => quoV_any hq w'
  have hC := fun w' => conjC_any r s w'
  unfold isZ at hz
  unfold BusL
  unfold BL at *
  have hy : ∀ w : World, (binOp .eql 25 (.complex .f32 a b) (.complex .f32 0 0)).run Try.prog w = .ok (.bool false) w := by
    intro w; rw [← hz]; simp [go_sem]
  go_enter Try.func191, Try.ntmps191
  go_wp2_with fail
  refine (hQ _).mono ?_
  rintro e w1 ⟨rfl, hb⟩
  have H1 := Lib.hid (bel_then hW.out hb)
  clear hb hQ
  go_wp2_with fail
  refine (hC _).mono ?_
  rintro e w2 ⟨rfl, hb⟩
  have H2 := Lib.hid (bel_then H1.out hb)
  clear hb hC
  go_wp2_with fail
  go_ret
  exact ⟨rfl, H2.out⟩
theorem curI_any (par : Int) (o0 o1 s0 s1 : Nat) (l : Nat → Nat) (cust : Int) (a b c d r s : Nat) (hz : (isZ a && isZ b) = false) (hq : QuoV c d a b r s) (w : World) :
    Calls Try.prog 191 #[BusL par o0 o1 s0 s1 2 l cust, .complex .f32 a b, .complex .f32 c d] w (RB (.complex .f32 r s) w) := by
  have hW := Lib.hid (bus_alloc w par o0 o1 s0 s1 2 l cust)
  have hQ := fun w' => quoV_any hq w'
  unfold isZ at hz
  unfold BusL
  unfold BL at *
  have hy : ∀ w : World, (binOp .eql 25 (.complex .f32 a b) (.complex .f32 0 0)).run Try.prog w = .ok (.bool false) w := by
    intro w; rw [← hz]; simp [go_sem]
  go_enter Try.func191, Try.ntmps191
  go_wp2_with fail
  refine (hQ _).mono ?_
  rintro e w1 ⟨rfl, hb⟩
  have H1 := Lib.hid (bel_then hW.out hb)
  clear hb hQ
  go_wp2_with fail
  go_ret
  exact ⟨rfl, H1.out⟩
/-- (r, s) is the current of a load a + b i at a voltage c + d i. -/
def CurAt (kind : Int) (a b c d r s : Nat) : Prop := ((isZ a && isZ b) = true ∧ r = 0 ∧ s = 0) ∨ ((isZ a && isZ b) = false ∧ (kind = 1 ∧ r = a ∧ s = b ∨ kind = 2 ∧ QuoV c d a b r s ∨ kind = 0 ∧ ∃ s', QuoV a b c d r s' ∧ s = Op.negFloat .f32 s'))
theorem cur_any (par : Int) (o0 o1 s0 s1 : Nat) (kind : Int) (l : Nat → Nat) (cust : Int) (a b c d r s : Nat) (h : CurAt kind a b c d r s) (w : World) :
    Calls Try.prog 191 #[BusL par o0 o1 s0 s1 kind l cust, .complex .f32 a b, .complex .f32 c d] w (RB (.complex .f32 r s) w) := by
  rcases h with ⟨hz, rfl, rfl⟩ | ⟨hz, ⟨rfl, rfl, rfl⟩ | ⟨rfl, hq⟩ | ⟨rfl, s', hq, rfl⟩⟩
  · rw [Bool.and_eq_true] at hz
    exact curZ_any par o0 o1 s0 s1 kind l cust a b c d hz.1 hz.2 w
  · exact curC_any par o0 o1 s0 s1 l cust r s c d hz w
  · exact curI_any par o0 o1 s0 s1 l cust a b c d r s hz hq w
  · exact curP_any par o0 o1 s0 s1 l cust a b c d r s' hz hq w
set_option maxHeartbeats 1000000 in
theorem loadV_any (par : Int) (o0 o1 s0 s1 : Nat) (kind : Int) (l : Nat → Nat) (cust : Int) (v r : Nat → Nat) (h0 : CurAt kind (l 0) (l 1) (v 0) (v 1) (r 0) (r 1)) (h1 : CurAt kind (l 2) (l 3) (v 2) (v 3) (r 2) (r 3)) (h2 : CurAt kind (l 4) (l 5) (v 4) (v 5) (r 4) (r 5)) (w : World) :
    Calls Try.prog 133 #[BusL par o0 o1 s0 s1 kind l cust, PV v] w (RB (PV r) w) := by
  have hP := fun w' => pairLoad_any (BusL par o0 o1 s0 s1 kind l cust) l v r (fun w => cur_any par o0 o1 s0 s1 kind l cust _ _ _ _ _ _ h0 w) (fun w => cur_any par o0 o1 s0 s1 kind l cust _ _ _ _ _ _ h1 w) (fun w => cur_any par o0 o1 s0 s1 kind l cust _ _ _ _ _ _ h2 w) w'
  have T := box3 w (BL par o0 o1 s0 s1 kind l cust) [.complex .f32 (v 0) (v 1), .complex .f32 (v 2) (v 3), .complex .f32 (v 4) (v 5)] [.complex .f32 0 0, .complex .f32 0 0, .complex .f32 0 0] 77 37 37
  have hst := fun (a : Addr) (x y : Nat) (m : Mode) (w : World) => run_store Try.prog w a (.complex .f32 x y) m rfl
  clear h0 h1 h2
  unfold BusL PV BL at *
  go_enter Try.func133, Try.ntmps133
  go_wp2_with fail
  generalize hW3 : (((w.alloc (.cells #[.int .i64 par, .complex .f32 o0 o1, .complex .f32 s0 s1, .int .i64 kind, .complex .f32 (l 0) (l 1), .complex .f32 (l 2) (l 3), .complex .f32 (l 4) (l 5), .int .i64 cust] 77)).alloc (.cells #[.complex .f32 (v 0) (v 1), .complex .f32 (v 2) (v 3), .complex .f32 (v 4) (v 5)] 37)).alloc (.cells #[.complex .f32 0 0, .complex .f32 0 0, .complex .f32 0 0] 37)) = W3 at *
  clear hW3
  refine (hP _).mono ?_
  rintro e w2 ⟨rfl, hb⟩
  have R := T.2.2.1.below hb T.2.2.1.lt
  have HB := Lib.hid (T.2.2.2.trans (hb.mono T.2.2.2.size))
  clear T hb hP
  have k0 := R.cell 0 (by simp)
  have k1 := R.cell 1 (by simp)
  have k2 := R.cell 2 (by simp)
  have z0 := R.frozen 0
  have z1 := R.frozen 1
  have z2 := R.frozen 2
  simp only [List.getD_cons_zero, List.getD_cons_succ] at k0 k1 k2
  have R2 := ((R.set 0 (.complex .f32 (r 0) (r 1))).set 1 (.complex .f32 (r 2) (r 3))).set 2 (.complex .f32 (r 4) (r 5))
  have v0 := R2.cell 0 (by simp)
  have v1 := R2.cell 1 (by simp)
  have v2 := R2.cell 2 (by simp)
  simp only [List.set_cons_zero, List.set_cons_succ, List.getD_cons_zero, List.getD_cons_succ] at v0 v1 v2
  clear R R2
  go_wp2_with fail
  try simp only [Exit.inBlock, Exit.then]
  refine bodyPost_ret (by simp [results, Try.results133, go_sem, v0, v1, v2]; try rfl) rfl ?_
  exact ⟨rfl, ((HB.out.setCell (by simp; omega) _).setCell (by simp; omega) _).setCell (by simp; omega) _⟩
end Go.Proofs.Ytljclagfplildaa
