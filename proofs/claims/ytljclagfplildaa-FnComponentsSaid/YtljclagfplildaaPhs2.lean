/-
  Phases: differences, products with a number, currents of loads. No theorem of a claim stands here.
-/
import Derived.Test.YtljclagfplildaaDrop
import Derived.Deep.RegionWith
set_option linter.unusedVariables false
set_option linter.unusedSimpArgs false
set_option maxRecDepth 8000
namespace Go.Proofs.Ytljclagfplildaa
open Go Go.RowKit Go.Deep Go.Proofs.Ytljclagfplildaa.Fl

theorem subC_any {a b c d r s : Nat} (h1 : fop .sub .f32 (vl .f32 a) (vl .f32 c) = some r) (h2 : fop .sub .f32 (vl .f32 b) (vl .f32 d) = some s) (w : World) :
    Calls Try.prog 172 #[.complex .f32 a b, .complex .f32 c d] w (RB (.complex .f32 r s) w) := by
  have hc := run_csum .sub (.inr rfl) 25 h1 h2
  clear h1 h2
  go_enter Try.func172, Try.ntmps172
  go_wp2
  go_ret
  exact ⟨rfl, Below.refl _ _⟩
set_option maxHeartbeats 1000000 in
theorem pairLess_any (p q r : Nat → Nat) (h : ∀ j, j < 6 → fop .sub .f32 (vl .f32 (p j)) (vl .f32 (q j)) = some (r j)) (w : World) :
    Calls Try.prog 171 #[PV p, PV q, .func (.func 172) #[] #[]] w (RB (PV r) w) := by
  unfold PV
  have hA := fun w' => subC_any (h 0 (by omega)) (h 1 (by omega)) w'
  have hB := fun w' => subC_any (h 2 (by omega)) (h 3 (by omega)) w'
  have hC := fun w' => subC_any (h 4 (by omega)) (h 5 (by omega)) w'
  clear h
  have hst := fun (a : Addr) (x y : Nat) (m : Mode) (w : World) => run_store Try.prog w a (.complex .f32 x y) m rfl
  have T := box3 w [.complex .f32 (p 0) (p 1), .complex .f32 (p 2) (p 3), .complex .f32 (p 4) (p 5)] [.complex .f32 (q 0) (q 1), .complex .f32 (q 2) (q 3), .complex .f32 (q 4) (q 5)] [.complex .f32 0 0, .complex .f32 0 0, .complex .f32 0 0] 37 37 37
  go_enter Try.func171, Try.ntmps171
  go_wp2_with fail
  generalize hW3 : (((w.alloc (.cells #[.complex .f32 (p 0) (p 1), .complex .f32 (p 2) (p 3), .complex .f32 (p 4) (p 5)] 37)).alloc (.cells #[.complex .f32 (q 0) (q 1), .complex .f32 (q 2) (q 3), .complex .f32 (q 4) (q 5)] 37)).alloc (.cells #[.complex .f32 0 0, .complex .f32 0 0, .complex .f32 0 0] 37)) = W3 at *
  clear hW3
  obtain ⟨T1, T2, T3, TB⟩ := T
  have c0 := fun x : Grown W3 => x.cell (T1.cell 0 (by simp))
  have c1 := fun x : Grown W3 => x.cell (T1.cell 1 (by simp))
  have c2 := fun x : Grown W3 => x.cell (T1.cell 2 (by simp))
  have d0 := fun x : Grown W3 => x.cell (T2.cell 0 (by simp))
  have d1 := fun x : Grown W3 => x.cell (T2.cell 1 (by simp))
  have d2 := fun x : Grown W3 => x.cell (T2.cell 2 (by simp))
  simp only [List.getD_cons_zero, List.getD_cons_succ] at c0 c1 c2 d0 d1 d2
  have H1 := Lib.hid T1
  have H2 := Lib.hid T2
  have H3 := Lib.hid T3
  have HB := Lib.hid TB
  clear T1 T2 T3 TB
  refine wp_grown_tail 19 (by kernel_rfl) (by kernel_rfl) ?_
  simp only [List.take_succ_cons, List.take_zero, List.drop_succ_cons, List.drop_zero]
  repeat (go_big_quiet_step (first | (go_at_call_of 172 (Value.complex .f32 (p 0) (p 1)); exact Grown.calls _ (hA _)) | (go_at_call_of 172 (Value.complex .f32 (p 2) (p 3)); exact Grown.calls _ (hB _)) | (go_at_call_of 172 (Value.complex .f32 (p 4) (p 5)); exact Grown.calls _ (hC _))))
  refine wpQuiet_nil ?_
  rintro _ ⟨x, rfl⟩
  have R := x.rl H3.out
  have hB5 := Lib.hid ((HB.out.trans (x.2.mono HB.out.size)))
  generalize x.1 = w5 at *
  clear c0 c1 c2 d0 d1 d2 hA hB hC H1 H2 H3 HB
  have k0 := R.cell 0 (by simp)
  have k1 := R.cell 1 (by simp)
  have k2 := R.cell 2 (by simp)
  have z0 := R.frozen 0
  have z1 := R.frozen 1
  have z2 := R.frozen 2
  simp only [List.getD_cons_zero, List.getD_cons_succ] at k0 k1 k2
  go_wp2_with fail
  have R2 := ((R.set 0 (.complex .f32 (r 0) (r 1))).set 1 (.complex .f32 (r 2) (r 3))).set 2 (.complex .f32 (r 4) (r 5))
  have v0 := R2.cell 0 (by simp)
  have v1 := R2.cell 1 (by simp)
  have v2 := R2.cell 2 (by simp)
  simp only [List.set_cons_zero, List.set_cons_succ, List.getD_cons_zero, List.getD_cons_succ] at v0 v1 v2
  try simp only [Exit.inBlock, Exit.then]
  refine bodyPost_ret (by simp [results, Try.results171, go_sem, v0, v1, v2]; try rfl) rfl ?_
  exact ⟨rfl, ((hB5.out.setCell (by simp; omega) _).setCell (by simp; omega) _).setCell (by simp; omega) _⟩

set_option maxHeartbeats 1000000 in
theorem pairLoad_any (B : Value) (p q r : Nat → Nat) (h0 : ∀ w, Calls Try.prog 191 #[B, .complex .f32 (p 0) (p 1), .complex .f32 (q 0) (q 1)] w (RB (.complex .f32 (r 0) (r 1)) w)) (h1 : ∀ w, Calls Try.prog 191 #[B, .complex .f32 (p 2) (p 3), .complex .f32 (q 2) (q 3)] w (RB (.complex .f32 (r 2) (r 3)) w)) (h2 : ∀ w, Calls Try.prog 191 #[B, .complex .f32 (p 4) (p 5), .complex .f32 (q 4) (q 5)] w (RB (.complex .f32 (r 4) (r 5)) w)) (w : World) :
    Calls Try.prog 171 #[PV p, PV q, .func (.func 191) #[B] #[]] w (RB (PV r) w) := by
  unfold PV
  have hA := fun w' => h0 w'
  have hB := fun w' => h1 w'
  have hC := fun w' => h2 w'
  clear h0 h1 h2
  have hst := fun (a : Addr) (x y : Nat) (m : Mode) (w : World) => run_store Try.prog w a (.complex .f32 x y) m rfl
  have T := box3 w [.complex .f32 (p 0) (p 1), .complex .f32 (p 2) (p 3), .complex .f32 (p 4) (p 5)] [.complex .f32 (q 0) (q 1), .complex .f32 (q 2) (q 3), .complex .f32 (q 4) (q 5)] [.complex .f32 0 0, .complex .f32 0 0, .complex .f32 0 0] 37 37 37
  go_enter Try.func171, Try.ntmps171
  go_wp2_with fail
  generalize hW3 : (((w.alloc (.cells #[.complex .f32 (p 0) (p 1), .complex .f32 (p 2) (p 3), .complex .f32 (p 4) (p 5)] 37)).alloc (.cells #[.complex .f32 (q 0) (q 1), .complex .f32 (q 2) (q 3), .complex .f32 (q 4) (q 5)] 37)).alloc (.cells #[.complex .f32 0 0, .complex .f32 0 0, .complex .f32 0 0] 37)) = W3 at *
  clear hW3
  obtain ⟨T1, T2, T3, TB⟩ := T
  have c0 := fun x : Grown W3 => x.cell (T1.cell 0 (by simp))
  have c1 := fun x : Grown W3 => x.cell (T1.cell 1 (by simp))
  have c2 := fun x : Grown W3 => x.cell (T1.cell 2 (by simp))
  have d0 := fun x : Grown W3 => x.cell (T2.cell 0 (by simp))
  have d1 := fun x : Grown W3 => x.cell (T2.cell 1 (by simp))
  have d2 := fun x : Grown W3 => x.cell (T2.cell 2 (by simp))
  simp only [List.getD_cons_zero, List.getD_cons_succ] at c0 c1 c2 d0 d1 d2
  have H1 := Lib.hid T1
  have H2 := Lib.hid T2
  have H3 := Lib.hid T3
  have HB := Lib.hid TB
  clear T1 T2 T3 TB
  refine wp_grown_tail 19 (by kernel_rfl) (by kernel_rfl) ?_
  simp only [List.take_succ_cons, List.take_zero, List.drop_succ_cons, List.drop_zero]
  repeat (go_big_quiet_step (first | (go_at_call_of 191 (Value.complex .f32 (p 0) (p 1)); exact Grown.calls _ (hA _)) | (go_at_call_of 191 (Value.complex .f32 (p 2) (p 3)); exact Grown.calls _ (hB _)) | (go_at_call_of 191 (Value.complex .f32 (p 4) (p 5)); exact Grown.calls _ (hC _))))
  refine wpQuiet_nil ?_
  rintro _ ⟨x, rfl⟩
  have R := x.rl H3.out
  have hB5 := Lib.hid ((HB.out.trans (x.2.mono HB.out.size)))
  generalize x.1 = w5 at *
  clear c0 c1 c2 d0 d1 d2 hA hB hC H1 H2 H3 HB
  have k0 := R.cell 0 (by simp)
  have k1 := R.cell 1 (by simp)
  have k2 := R.cell 2 (by simp)
  have z0 := R.frozen 0
  have z1 := R.frozen 1
  have z2 := R.frozen 2
  simp only [List.getD_cons_zero, List.getD_cons_succ] at k0 k1 k2
  go_wp2_with fail
  have R2 := ((R.set 0 (.complex .f32 (r 0) (r 1))).set 1 (.complex .f32 (r 2) (r 3))).set 2 (.complex .f32 (r 4) (r 5))
  have v0 := R2.cell 0 (by simp)
  have v1 := R2.cell 1 (by simp)
  have v2 := R2.cell 2 (by simp)
  simp only [List.set_cons_zero, List.set_cons_succ, List.getD_cons_zero, List.getD_cons_succ] at v0 v1 v2
  try simp only [Exit.inBlock, Exit.then]
  refine bodyPost_ret (by simp [results, Try.results171, go_sem, v0, v1, v2]; try rfl) rfl ?_
  exact ⟨rfl, ((hB5.out.setCell (by simp; omega) _).setCell (by simp; omega) _).setCell (by simp; omega) _⟩

theorem addP_any (p q r : Nat → Nat) (h : ∀ j, j < 6 → fop .add .f32 (vl .f32 (p j)) (vl .f32 (q j)) = some (r j)) (w : World) : Calls Try.prog 218 #[PV p, PV q] w (RB (PV r) w) := by
  have hP := fun w' => pairAdd_any p q r h w'
  have T := fun M => box3 w [.complex .f32 (p 0) (p 1), .complex .f32 (p 2) (p 3), .complex .f32 (p 4) (p 5)] [.complex .f32 (q 0) (q 1), .complex .f32 (q 2) (q 3), .complex .f32 (q 4) (q 5)] M 37 37 37
  have T := T [.complex .f32 0 0, .complex .f32 0 0, .complex .f32 0 0]
  have hst := fun (a : Addr) (x y : Nat) (m : Mode) (w : World) => run_store Try.prog w a (.complex .f32 x y) m rfl
  clear h
  unfold PV at *
  go_enter Try.func218, Try.ntmps218
  go_wp2_with fail
  generalize hW3 : (((w.alloc (.cells #[.complex .f32 (p 0) (p 1), .complex .f32 (p 2) (p 3), .complex .f32 (p 4) (p 5)] 37)).alloc (.cells #[.complex .f32 (q 0) (q 1), .complex .f32 (q 2) (q 3), .complex .f32 (q 4) (q 5)] 37)).alloc (.cells #[.complex .f32 0 0, .complex .f32 0 0, .complex .f32 0 0] 37)) = W3 at *
  clear hW3
  refine (hP _).mono ?_
  rintro e w2 ⟨rfl, hb⟩
  have R := T.2.2.1.below hb T.2.2.1.lt
  have HB := Lib.hid (T.2.2.2.trans (hb.mono T.2.2.2.size))
  clear T hb hP
  have k0 := R.cell 0 (by simp)
  have k1 := R.cell 1 (by simp)
  have k2 := R.cell 2 (by simp)
  have z0 := R.frozen 0
  have z1 := R.frozen 1
  have z2 := R.frozen 2
  simp only [List.getD_cons_zero, List.getD_cons_succ] at k0 k1 k2
  have R2 := ((R.set 0 (.complex .f32 (r 0) (r 1))).set 1 (.complex .f32 (r 2) (r 3))).set 2 (.complex .f32 (r 4) (r 5))
  have v0 := R2.cell 0 (by simp)
  have v1 := R2.cell 1 (by simp)
  have v2 := R2.cell 2 (by simp)
  simp only [List.set_cons_zero, List.set_cons_succ, List.getD_cons_zero, List.getD_cons_succ] at v0 v1 v2
  clear R R2
  go_wp2_with fail
  try simp only [Exit.inBlock, Exit.then]
  refine bodyPost_ret (by simp [results, Try.results218, go_sem, v0, v1, v2]; try rfl) rfl ?_
  exact ⟨rfl, ((HB.out.setCell (by simp; omega) _).setCell (by simp; omega) _).setCell (by simp; omega) _⟩

theorem lessP_any (p q r : Nat → Nat) (h : ∀ j, j < 6 → fop .sub .f32 (vl .f32 (p j)) (vl .f32 (q j)) = some (r j)) (w : World) : Calls Try.prog 103 #[PV p, PV q] w (RB (PV r) w) := by
  have hP := fun w' => pairLess_any p q r h w'
  have T := fun M => box3 w [.complex .f32 (p 0) (p 1), .complex .f32 (p 2) (p 3), .complex .f32 (p 4) (p 5)] [.complex .f32 (q 0) (q 1), .complex .f32 (q 2) (q 3), .complex .f32 (q 4) (q 5)] M 37 37 37
  have T := T [.complex .f32 0 0, .complex .f32 0 0, .complex .f32 0 0]
  have hst := fun (a : Addr) (x y : Nat) (m : Mode) (w : World) => run_store Try.prog w a (.complex .f32 x y) m rfl
  clear h
  unfold PV at *
  go_enter Try.func103, Try.ntmps103
  go_wp2_with fail
  generalize hW3 : (((w.alloc (.cells #[.complex .f32 (p 0) (p 1), .complex .f32 (p 2) (p 3), .complex .f32 (p 4) (p 5)] 37)).alloc (.cells #[.complex .f32 (q 0) (q 1), .complex .f32 (q 2) (q 3), .complex .f32 (q 4) (q 5)] 37)).alloc (.cells #[.complex .f32 0 0, .complex .f32 0 0, .complex .f32 0 0] 37)) = W3 at *
  clear hW3
  refine (hP _).mono ?_
  rintro e w2 ⟨rfl, hb⟩
  have R := T.2.2.1.below hb T.2.2.1.lt
  have HB := Lib.hid (T.2.2.2.trans (hb.mono T.2.2.2.size))
  clear T hb hP
  have k0 := R.cell 0 (by simp)
  have k1 := R.cell 1 (by simp)
  have k2 := R.cell 2 (by simp)
  have z0 := R.frozen 0
  have z1 := R.frozen 1
  have z2 := R.frozen 2
  simp only [List.getD_cons_zero, List.getD_cons_succ] at k0 k1 k2
  have R2 := ((R.set 0 (.complex .f32 (r 0) (r 1))).set 1 (.complex .f32 (r 2) (r 3))).set 2 (.complex .f32 (r 4) (r 5))
  have v0 := R2.cell 0 (by simp)
  have v1 := R2.cell 1 (by simp)
  have v2 := R2.cell 2 (by simp)
  simp only [List.set_cons_zero, List.set_cons_succ, List.getD_cons_zero, List.getD_cons_succ] at v0 v1 v2
  clear R R2
  go_wp2_with fail
  try simp only [Exit.inBlock, Exit.then]
  refine bodyPost_ret (by simp [results, Try.results103, go_sem, v0, v1, v2]; try rfl) rfl ?_
  exact ⟨rfl, ((HB.out.setCell (by simp; omega) _).setCell (by simp; omega) _).setCell (by simp; omega) _⟩
end Go.Proofs.Ytljclagfplildaa
