/-
  Phases: sums and differences of them. No theorem of a claim stands here.
-/
import Derived.Test.YtljclagfplildaaQTail
import Derived.Test.YtljclagfplildaaFdr
import Derived.Laws.ComplexArith
import Derived.Deep.RegionWith
set_option linter.unusedVariables false
set_option linter.unusedSimpArgs false
set_option maxRecDepth 8000
namespace Go.Proofs.Ytljclagfplildaa
open Go Go.RowKit Go.Deep Go.Proofs.Ytljclagfplildaa.Fl

/-- A call that hands back v and leaves all old memory alone. -/
def RB (v : Value) (w : World) (e : Ending) (w' : World) : Prop := e = .returned v ∧ Below w.heap.size w w'
/-- The value of phases. -/
def PV (s : Nat → Nat) : Value := .agg #[.complex .f32 (s 0) (s 1), .complex .f32 (s 2) (s 3), .complex .f32 (s 4) (s 5)]

theorem run_csum (op : BinOp) (hop : op = .add ∨ op = .sub) (t : TypeId) {a b c d r s : Nat} (h1 : fop op .f32 (vl .f32 a) (vl .f32 c) = some r) (h2 : fop op .f32 (vl .f32 b) (vl .f32 d) = some s) (w : World) :
    (binOp op t (.complex .f32 a b) (.complex .f32 c d)).run Try.prog w = .ok (.complex .f32 r s) w := by
  refine run_complex_sum w op hop t .f32 a b c d r s ?_
  unfold cSumBits
  rw [floatBits_vl, floatBits_vl, h1, h2]; rfl

theorem addC_any {a b c d r s : Nat} (h1 : fop .add .f32 (vl .f32 a) (vl .f32 c) = some r) (h2 : fop .add .f32 (vl .f32 b) (vl .f32 d) = some s) (w : World) :
    Calls Try.prog 227 #[.complex .f32 a b, .complex .f32 c d] w (RB (.complex .f32 r s) w) := by
  have hc := run_csum .add (.inl rfl) 25 h1 h2
  clear h1 h2
  go_enter Try.func227, Try.ntmps227
  go_wp2
  go_ret
  exact ⟨rfl, Below.refl _ _⟩
/-- Two and three boxes, laid one after another. -/
theorem box2 (w : World) (L M : List Value) (t u : TypeId) : RL ((w.alloc (.cells L.toArray t)).alloc (.cells M.toArray u)) w.heap.size t L ∧ RL ((w.alloc (.cells L.toArray t)).alloc (.cells M.toArray u)) (w.heap.size + 1) u M ∧
    Below w.heap.size w ((w.alloc (.cells L.toArray t)).alloc (.cells M.toArray u)) := by
  have h2 := RL.new (w.alloc (.cells L.toArray t)) M u
  simp only [World.size_alloc] at h2
  exact ⟨(RL.new w L t).allocd _, h2, ((Below.refl _ w).alloc (Nat.le_refl _) _).alloc (by simp only [World.size_alloc]; omega) _⟩
theorem box3 (w : World) (L M N : List Value) (t u v : TypeId) : RL (((w.alloc (.cells L.toArray t)).alloc (.cells M.toArray u)).alloc (.cells N.toArray v)) w.heap.size t L ∧ RL (((w.alloc (.cells L.toArray t)).alloc (.cells M.toArray u)).alloc (.cells N.toArray v)) (w.heap.size + 1) u M ∧
    RL (((w.alloc (.cells L.toArray t)).alloc (.cells M.toArray u)).alloc (.cells N.toArray v)) (w.heap.size + 1 + 1) v N ∧ Below w.heap.size w (((w.alloc (.cells L.toArray t)).alloc (.cells M.toArray u)).alloc (.cells N.toArray v)) := by
  obtain ⟨h1, h2, h3⟩ := box2 w L M t u
  have h4 := RL.new ((w.alloc (.cells L.toArray t)).alloc (.cells M.toArray u)) N v
  simp only [World.size_alloc] at h4
  exact ⟨h1.allocd _, h2.allocd _, h4, h3.alloc (by simp only [World.size_alloc]; omega) _⟩
theorem Grown.rl {w : World} {g : Nat} {t : TypeId} {L : List Value} (x : Grown w) (h : RL w g t L) : RL x.1 g t L := h.below x.2 h.lt

set_option maxHeartbeats 1000000 in
theorem pairAdd_any (p q r : Nat → Nat) (h : ∀ j, j < 6 → fop .add .f32 (vl .f32 (p j)) (vl .f32 (q j)) = some (r j)) (w : World) :
    Calls Try.prog 171 #[PV p, PV q, .func (.func 227) #[] #[]] w (RB (PV r) w) := by
  unfold PV
  have hA := fun w' => addC_any (h 0 (by omega)) (h 1 (by omega)) w'
  have hB := fun w' => addC_any (h 2 (by omega)) (h 3 (by omega)) w'
  have hC := fun w' => addC_any (h 4 (by omega)) (h 5 (by omega)) w'
  clear h
  have hst := fun (a : Addr) (x y : Nat) (m : Mode) (w : World) => run_store Try.prog w a (.complex .f32 x y) m rfl
  have T := box3 w [.complex .f32 (p 0) (p 1), .complex .f32 (p 2) (p 3), .complex .f32 (p 4) (p 5)] [.complex .f32 (q 0) (q 1), .complex .f32 (q 2) (q 3), .complex .f32 (q 4) (q 5)] [.complex .f32 0 0, .complex .f32 0 0, .complex .f32 0 0] 37 37 37
  go_enter Try.func171, Try.ntmps171
  go_wp2_with fail
  generalize hW3 : (((w.alloc (.cells #[.complex .f32 (p 0) (p 1), .complex .f32 (p 2) (p 3), .complex .f32 (p 4) (p 5)] 37)).alloc (.cells #[.complex .f32 (q 0) (q 1), .complex .f32 (q 2) (q 3), .complex .f32 (q 4) (q 5)] 37)).alloc (.cells #[.complex .f32 0 0, .complex .f32 0 0, .complex .f32 0 0] 37)) = W3 at *
  clear hW3
  obtain ⟨T1, T2, T3, TB⟩ := T
  have c0 := fun x : Grown W3 => x.cell (T1.cell 0 (by simp))
  have c1 := fun x : Grown W3 => x.cell (T1.cell 1 (by simp))
  have c2 := fun x : Grown W3 => x.cell (T1.cell 2 (by simp))
  have d0 := fun x : Grown W3 => x.cell (T2.cell 0 (by simp))
  have d1 := fun x : Grown W3 => x.cell (T2.cell 1 (by simp))
  have d2 := fun x : Grown W3 => x.cell (T2.cell 2 (by simp))
  simp only [List.getD_cons_zero, List.getD_cons_succ] at c0 c1 c2 d0 d1 d2
  have H1 := Lib.hid T1
  have H2 := Lib.hid T2
  have H3 := Lib.hid T3
  have HB := Lib.hid TB
  clear T1 T2 T3 TB
  refine wp_grown_tail 19 (by kernel_rfl) (by kernel_rfl) ?_
  simp only [List.take_succ_cons, List.take_zero, List.drop_succ_cons, List.drop_zero]
  repeat (go_big_quiet_step (first | (go_at_call_of 227 (Value.complex .f32 (p 0) (p 1)); exact Grown.calls _ (hA _)) | (go_at_call_of 227 (Value.complex .f32 (p 2) (p 3)); exact Grown.calls _ (hB _)) | (go_at_call_of 227 (Value.complex .f32 (p 4) (p 5)); exact Grown.calls _ (hC _))))
  refine wpQuiet_nil ?_
  rintro _ ⟨x, rfl⟩
  have R := x.rl H3.out
  have hB5 := Lib.hid ((HB.out.trans (x.2.mono HB.out.size)))
  generalize x.1 = w5 at *
  clear c0 c1 c2 d0 d1 d2 hA hB hC H1 H2 H3 HB
  have k0 := R.cell 0 (by simp)
  have k1 := R.cell 1 (by simp)
  have k2 := R.cell 2 (by simp)
  have z0 := R.frozen 0
  have z1 := R.frozen 1
  have z2 := R.frozen 2
  simp only [List.getD_cons_zero, List.getD_cons_succ] at k0 k1 k2
  go_wp2_with fail
  have R2 := ((R.set 0 (.complex .f32 (r 0) (r 1))).set 1 (.complex .f32 (r 2) (r 3))).set 2 (.complex .f32 (r 4) (r 5))
  have v0 := R2.cell 0 (by simp)
  have v1 := R2.cell 1 (by simp)
  have v2 := R2.cell 2 (by simp)
  simp only [List.set_cons_zero, List.set_cons_succ, List.getD_cons_zero, List.getD_cons_succ] at v0 v1 v2
  try simp only [Exit.inBlock, Exit.then]
  refine bodyPost_ret (by simp [results, Try.results171, go_sem, v0, v1, v2]; try rfl) rfl ?_
  exact ⟨rfl, ((hB5.out.setCell (by simp; omega) _).setCell (by simp; omega) _).setCell (by simp; omega) _⟩
end Go.Proofs.Ytljclagfplildaa
