/-
  Joined from: Parts Parts2 Parts3 Near Near2 Small Gap Comp Comp2 CompW SameC.
-/
import Derived.Test.YtljclagfplildaaPhasI
import Derived.Test.YtljclagfplildaaThird
import Derived.Test.YtljclagfplildaaScale
import Derived.Test.YtljclagfplildaaRelL
import Derived.Test.YtljclagfplildaaCx
import Derived.Test.YtljclagfplildaaR8N
import Derived.Test.YtljclagfplildaaEven
import Derived.Test.YtljclagfplildaaSame

section
set_option linter.unusedVariables false
set_option linter.unusedSimpArgs false
set_option maxRecDepth 8000
namespace Go.Proofs.Ytljclagfplildaa
open Go Go.RowKit Go.Deep Go.Proofs.Ytljclagfplildaa.Fl

/-- The imaginary part of the phasor of a third of a turn, forth (false) or back; the turns. -/
def thI (g : Bool) : Nat := if g then 3210589143 else 1063105495
def thT (g : Bool) : Nat := if g then 13823048456275842389 else 4599676419421066581

def PlainV (p : Nat → Nat) (r s : Nat) : Prop := ∃ t0 t1, fop .add .f32 (vl .f32 (p 0)) (vl .f32 (p 2)) = some t0 ∧ fop .add .f32 (vl .f32 (p 1)) (vl .f32 (p 3)) = some t1 ∧
  fop .add .f32 (vl .f32 t0) (vl .f32 (p 4)) = some r ∧ fop .add .f32 (vl .f32 t1) (vl .f32 (p 5)) = some s
def TurnV (g : Bool) (p : Nat → Nat) (r s : Nat) : Prop := ∃ u0 u1 v0 v1 t0 t1, MulV 3204448256 (thI g) (p 2) (p 3) u0 u1 ∧ MulV 3204448256 (thI (!g)) (p 4) (p 5) v0 v1 ∧
  fop .add .f32 (vl .f32 (p 0)) (vl .f32 u0) = some t0 ∧ fop .add .f32 (vl .f32 (p 1)) (vl .f32 u1) = some t1 ∧
  fop .add .f32 (vl .f32 t0) (vl .f32 v0) = some r ∧ fop .add .f32 (vl .f32 t1) (vl .f32 v1) = some s

theorem ph_any (g : Bool) (w : World) : Calls Try.prog 12 #[.float .f64 (thT g)] w fun e w' => ∃ n, e = .returned (.complex .f32 3204448256 (thI g)) ∧ w' = w.drewN n := by
  refine (phasorOf_any (thT g) (by cases g <;> decide) w).mono ?_
  rintro e w' ⟨x, y, n, rfl, hp, l1, l2, rfl⟩
  refine ⟨n, ?_, rfl⟩
  cases g
  · obtain ⟨e1, e2⟩ := phOf_unique hp ph_third
    obtain rfl := vl_some e1; obtain rfl := vl_some e2; rfl
  · obtain ⟨e1, e2⟩ := phOf_unique hp ph_dthird
    obtain rfl := vl_some e1; obtain rfl := vl_some e2; rfl
theorem ph_rb (g : Bool) (w : World) : Calls Try.prog 12 #[.float .f64 (thT g)] w (RB (.complex .f32 3204448256 (thI g)) w) := by
  refine (ph_any g w).mono ?_
  rintro e w' ⟨n, rfl, rfl⟩
  exact ⟨rfl, (Grown.drawn w n).2⟩

theorem box1 (w : World) (L : List Value) (t : TypeId) : RL (w.alloc (.cells L.toArray t)) w.heap.size t L ∧ Below w.heap.size w (w.alloc (.cells L.toArray t)) := ⟨RL.new w L t, bel_alloc w _⟩

theorem plain_any (p : Nat → Nat) (r s : Nat) (h : PlainV p r s) (w : World) : Calls Try.prog 139 #[PV p] w (RB (.complex .f32 r s) w) := by
  obtain ⟨t0, t1, h1, h2, h3, h4⟩ := h
  have q1 := run_csum .add (.inl rfl) 25 h1 h2
  have q2 := run_csum .add (.inl rfl) 25 h3 h4
  clear h1 h2 h3 h4
  have T := box1 w [.complex .f32 (p 0) (p 1), .complex .f32 (p 2) (p 3), .complex .f32 (p 4) (p 5)] 175
  have c0 := T.1.cell 0 (by simp)
  have c1 := T.1.cell 1 (by simp)
  have c2 := T.1.cell 2 (by simp)
  simp only [List.getD_cons_zero, List.getD_cons_succ] at c0 c1 c2
  have HB := Lib.hid T.2
  clear T
  unfold PV
  go_enter Try.func139, Try.ntmps139
  go_wp2_with fail
  go_ret
  exact ⟨rfl, HB.out⟩
set_option maxHeartbeats 1000000 in
theorem turned_any (g : Bool) (p : Nat → Nat) (r s : Nat) (h : TurnV g p r s) (w : World) : Calls Try.prog 194 #[PV p, .float .f64 (thT g)] w (RB (.complex .f32 r s) w) := by
  obtain ⟨u0, u1, v0, v1, t0, t1, m1, m2, h1, h2, h3, h4⟩ := h
  have q1 := run_csum .add (.inl rfl) 25 h1 h2
  have q2 := run_csum .add (.inl rfl) 25 h3 h4
  have hn : ∀ w : World, (Op.unary UnOp.neg (.float .f64 (thT g))).run Try.prog w = .ok (.float .f64 (thT (!g))) w := fun w => by cases g <;> rfl
  have hP := fun w' => ph_rb g w'
  have hQ := fun w' => ph_rb (!g) w'
  have hM := fun w' => mulV_any m1 w'
  have hN := fun w' => mulV_any m2 w'
  clear h1 h2 h3 h4 m1 m2
  have T := box1 w [.complex .f32 (p 0) (p 1), .complex .f32 (p 2) (p 3), .complex .f32 (p 4) (p 5)] 175
  unfold PV
  go_enter Try.func194, Try.ntmps194
  go_wp2_with fail
  generalize hW3 : (w.alloc (.cells #[.complex .f32 (p 0) (p 1), .complex .f32 (p 2) (p 3), .complex .f32 (p 4) (p 5)] 175)) = W3 at *
  clear hW3
  have c0 := fun x : Grown W3 => x.cell (T.1.cell 0 (by simp))
  have c1 := fun x : Grown W3 => x.cell (T.1.cell 1 (by simp))
  have c2 := fun x : Grown W3 => x.cell (T.1.cell 2 (by simp))
  simp only [List.getD_cons_zero, List.getD_cons_succ] at c0 c1 c2
  have HB := Lib.hid T.2
  clear T
  refine wp_grown_tail 15 (by kernel_rfl) (by kernel_rfl) ?_
  simp only [List.take_succ_cons, List.take_zero, List.drop_succ_cons, List.drop_zero]
  repeat (go_big_quiet_step (first | (go_at_call_of 12 (Value.float .f64 (thT g)); exact Grown.calls _ (hP _)) | (go_at_call_of 12 (Value.float .f64 (thT (!g))); exact Grown.calls _ (hQ _)) | (go_at_call_of 17 (Value.complex .f32 3204448256 (thI g)); exact Grown.calls _ (hM _)) | (go_at_call_of 17 (Value.complex .f32 3204448256 (thI (!g))); exact Grown.calls _ (hN _))))
  refine wpQuiet_nil ?_
  rintro _ ⟨x, rfl⟩
  have hB5 := Lib.hid ((HB.out.trans (x.2.mono HB.out.size)))
  generalize x.1 = w5 at *
  clear c0 c1 c2 hP hQ hM hN HB
  go_wp2_with fail
  go_ret
  exact ⟨rfl, hB5.out⟩
end Go.Proofs.Ytljclagfplildaa
end

section
set_option linter.unusedVariables false
set_option linter.unusedSimpArgs false
set_option maxRecDepth 8000
namespace Go.Proofs.Ytljclagfplildaa
open Go Go.RowKit Go.Deep Go.Proofs.Ytljclagfplildaa.Fl

theorem forth_any (p : Nat → Nat) (r s : Nat) (h : TurnV false p r s) (w : World) : Calls Try.prog 140 #[PV p] w (RB (.complex .f32 r s) w) := by
  have hT := fun w' => turned_any false p r s h w'
  clear h
  have T := box1 w [.complex .f32 (p 0) (p 1), .complex .f32 (p 2) (p 3), .complex .f32 (p 4) (p 5)] 175
  have c0 := T.1.cell 0 (by simp)
  have c1 := T.1.cell 1 (by simp)
  have c2 := T.1.cell 2 (by simp)
  simp only [List.getD_cons_zero, List.getD_cons_succ] at c0 c1 c2
  have HB := Lib.hid T.2
  clear T
  unfold PV at *
  go_enter Try.func140, Try.ntmps140
  go_wp2_with fail
  refine (hT _).mono ?_
  rintro e w1 ⟨rfl, hb⟩
  have H2 := Lib.hid (bel_then HB.out hb)
  clear hb
  go_wp2_with fail
  go_ret
  exact ⟨rfl, H2.out⟩
theorem back_any (p : Nat → Nat) (r s : Nat) (h : TurnV true p r s) (w : World) : Calls Try.prog 141 #[PV p] w (RB (.complex .f32 r s) w) := by
  have hT := fun w' => turned_any true p r s h w'
  clear h
  have T := box1 w [.complex .f32 (p 0) (p 1), .complex .f32 (p 2) (p 3), .complex .f32 (p 4) (p 5)] 175
  have c0 := T.1.cell 0 (by simp)
  have c1 := T.1.cell 1 (by simp)
  have c2 := T.1.cell 2 (by simp)
  simp only [List.getD_cons_zero, List.getD_cons_succ] at c0 c1 c2
  have HB := Lib.hid T.2
  clear T
  unfold PV at *
  go_enter Try.func141, Try.ntmps141
  go_wp2_with fail
  refine (hT _).mono ?_
  rintro e w1 ⟨rfl, hb⟩
  have H2 := Lib.hid (bel_then HB.out hb)
  clear hb
  go_wp2_with fail
  go_ret
  exact ⟨rfl, H2.out⟩

/-- Bits of a third. -/
abbrev third32 : Nat := 1051372203
/-- A third of a sum. -/
def ThirdV (r s x y : Nat) : Prop := fop .mul .f32 (vl .f32 r) (vl .f32 third32) = some x ∧ fop .mul .f32 (vl .f32 s) (vl .f32 third32) = some y
/-- The parts of phases. -/
def PartsV (p q : Nat → Nat) : Prop := (∃ r s, PlainV p r s ∧ ThirdV r s (q 0) (q 1)) ∧ (∃ r s, TurnV false p r s ∧ ThirdV r s (q 2) (q 3)) ∧ (∃ r s, TurnV true p r s ∧ ThirdV r s (q 4) (q 5))
/-- The phases of parts. -/
def PhasesV (q p : Nat → Nat) : Prop := PlainV q (p 0) (p 1) ∧ TurnV true q (p 2) (p 3) ∧ TurnV false q (p 4) (p 5)

theorem by_plain (p : Nat → Nat) (r s x y g : Nat) (hv : PlainV p r s) (h : ThirdV r s x y) (w : World) (hg : C3 w g p) :
    Calls Try.prog 136 #[.func (.func 139) #[] #[], .pointer (some ⟨g, 0, none⟩)] w (RB (.complex .f32 x y) w) := by
  obtain ⟨hg0, c0, c1, c2⟩ := hg
  have hT := fun w' => three_any p w'
  have hS := fun w => plain_any p r s hv w
  clear hv
  have hC := fun w' => scaleV_any h.1 h.2 w'
  clear h
  unfold PV at *
  go_enter Try.func136, Try.ntmps136
  go_wp2_with fail
  refine (hT _).mono ?_
  rintro e w1 ⟨rfl, hb⟩
  have H1 := Lib.hid hb
  clear hb
  go_wp2_with fail
  refine (hS _).mono ?_
  rintro e w2 ⟨rfl, hb⟩
  have H2 := Lib.hid (bel_then H1.out hb)
  clear hb
  go_wp2_with fail
  refine (hC _).mono ?_
  rintro e w3 ⟨rfl, hb⟩
  have H3 := Lib.hid (bel_then H2.out hb)
  clear hb
  go_wp2_with fail
  go_ret
  exact ⟨rfl, H3.out⟩
theorem by_forth (p : Nat → Nat) (r s x y g : Nat) (hv : TurnV false p r s) (h : ThirdV r s x y) (w : World) (hg : C3 w g p) :
    Calls Try.prog 136 #[.func (.func 140) #[] #[], .pointer (some ⟨g, 0, none⟩)] w (RB (.complex .f32 x y) w) := by
  obtain ⟨hg0, c0, c1, c2⟩ := hg
  have hT := fun w' => three_any p w'
  have hS := fun w => forth_any p r s hv w
  clear hv
  have hC := fun w' => scaleV_any h.1 h.2 w'
  clear h
  unfold PV at *
  go_enter Try.func136, Try.ntmps136
  go_wp2_with fail
  refine (hT _).mono ?_
  rintro e w1 ⟨rfl, hb⟩
  have H1 := Lib.hid hb
  clear hb
  go_wp2_with fail
  refine (hS _).mono ?_
  rintro e w2 ⟨rfl, hb⟩
  have H2 := Lib.hid (bel_then H1.out hb)
  clear hb
  go_wp2_with fail
  refine (hC _).mono ?_
  rintro e w3 ⟨rfl, hb⟩
  have H3 := Lib.hid (bel_then H2.out hb)
  clear hb
  go_wp2_with fail
  go_ret
  exact ⟨rfl, H3.out⟩
theorem by_back (p : Nat → Nat) (r s x y g : Nat) (hv : TurnV true p r s) (h : ThirdV r s x y) (w : World) (hg : C3 w g p) :
    Calls Try.prog 136 #[.func (.func 141) #[] #[], .pointer (some ⟨g, 0, none⟩)] w (RB (.complex .f32 x y) w) := by
  obtain ⟨hg0, c0, c1, c2⟩ := hg
  have hT := fun w' => three_any p w'
  have hS := fun w => back_any p r s hv w
  clear hv
  have hC := fun w' => scaleV_any h.1 h.2 w'
  clear h
  unfold PV at *
  go_enter Try.func136, Try.ntmps136
  go_wp2_with fail
  refine (hT _).mono ?_
  rintro e w1 ⟨rfl, hb⟩
  have H1 := Lib.hid hb
  clear hb
  go_wp2_with fail
  refine (hS _).mono ?_
  rintro e w2 ⟨rfl, hb⟩
  have H2 := Lib.hid (bel_then H1.out hb)
  clear hb
  go_wp2_with fail
  refine (hC _).mono ?_
  rintro e w3 ⟨rfl, hb⟩
  have H3 := Lib.hid (bel_then H2.out hb)
  clear hb
  go_wp2_with fail
  go_ret
  exact ⟨rfl, H3.out⟩
end Go.Proofs.Ytljclagfplildaa
end

section
set_option linter.unusedVariables false
set_option linter.unusedSimpArgs false
set_option maxRecDepth 8000
namespace Go.Proofs.Ytljclagfplildaa
open Go Go.RowKit Go.Deep Go.Proofs.Ytljclagfplildaa.Fl

set_option maxHeartbeats 1000000 in
theorem parts_any (p q : Nat → Nat) (h : PartsV p q) (w : World) : Calls Try.prog 57 #[PV p] w (RB (PV q) w) := by
  obtain ⟨⟨r0, s0, h0, t0⟩, ⟨r1, s1, h1, t1⟩, ⟨r2, s2, h2, t2⟩⟩ := h
  have hA := fun w' hg => by_plain p r0 s0 (q 0) (q 1) w.heap.size h0 t0 w' hg
  have hB := fun w' hg => by_forth p r1 s1 (q 2) (q 3) w.heap.size h1 t1 w' hg
  have hC := fun w' hg => by_back p r2 s2 (q 4) (q 5) w.heap.size h2 t2 w' hg
  clear h0 t0 h1 t1 h2 t2
  have hst := fun (a : Addr) (x y : Nat) (m : Mode) (w : World) => run_store Try.prog w a (.complex .f32 x y) m rfl
  have T := box2 w [.complex .f32 (p 0) (p 1), .complex .f32 (p 2) (p 3), .complex .f32 (p 4) (p 5)] [.complex .f32 0 0, .complex .f32 0 0, .complex .f32 0 0] 37 89
  unfold PV
  go_enter Try.func57, Try.ntmps57
  go_wp2_with fail
  generalize hW3 : ((w.alloc (.cells #[.complex .f32 (p 0) (p 1), .complex .f32 (p 2) (p 3), .complex .f32 (p 4) (p 5)] 37)).alloc (.cells #[.complex .f32 0 0, .complex .f32 0 0, .complex .f32 0 0] 89)) = W3 at *
  clear hW3
  obtain ⟨T1, T3, TB⟩ := T
  have HC : Hid (C3 W3 w.heap.size p) := Lib.hid ⟨T1.lt, T1.cell 0 (by simp), T1.cell 1 (by simp), T1.cell 2 (by simp)⟩
  have hG : ∀ x : Grown W3, C3 x.1 w.heap.size p := fun x => HC.out.below x.2 HC.out.1
  have HG := Lib.hid hG
  have H3 := Lib.hid T3
  have HB := Lib.hid TB
  clear T1 T3 TB hG
  refine (hA _ (HG.out ⟨_, Below.refl _ _⟩)).mono ?_
  rintro e w1 ⟨rfl, hb⟩
  have X1 := Lib.hid hb
  clear hb
  go_wp2_with fail
  refine (hB _ (HG.out ⟨_, X1.out⟩)).mono ?_
  rintro e w2 ⟨rfl, hb⟩
  have X2 := Lib.hid (bel_then X1.out hb)
  clear hb
  go_wp2_with fail
  refine (hC _ (HG.out ⟨_, X2.out⟩)).mono ?_
  rintro e w5 ⟨rfl, hb⟩
  have X3 := Lib.hid (bel_then X2.out hb)
  clear hb
  have R := H3.out.below X3.out H3.out.lt
  have hB5 := Lib.hid (HB.out.trans (X3.out.mono HB.out.size))
  clear hA hB hC H3 HB HC HG X1 X2 X3
  have k0 := R.cell 0 (by simp)
  have k1 := R.cell 1 (by simp)
  have k2 := R.cell 2 (by simp)
  have z0 := R.frozen 0
  have z1 := R.frozen 1
  have z2 := R.frozen 2
  simp only [List.getD_cons_zero, List.getD_cons_succ] at k0 k1 k2
  go_wp2_with fail
  have R2 := ((R.set 0 (.complex .f32 (q 0) (q 1))).set 1 (.complex .f32 (q 2) (q 3))).set 2 (.complex .f32 (q 4) (q 5))
  have v0 := R2.cell 0 (by simp)
  have v1 := R2.cell 1 (by simp)
  have v2 := R2.cell 2 (by simp)
  simp only [List.set_cons_zero, List.set_cons_succ, List.getD_cons_zero, List.getD_cons_succ] at v0 v1 v2
  try simp only [Exit.inBlock, Exit.then]
  refine bodyPost_ret (by simp [results, Try.results57, go_sem, v0, v1, v2]; try rfl) rfl ?_
  exact ⟨rfl, ((hB5.out.setCell (by simp) _).setCell (by simp) _).setCell (by simp) _⟩
set_option maxHeartbeats 1000000 in
theorem phases_any (q p : Nat → Nat) (h : PhasesV q p) (w : World) : Calls Try.prog 58 #[PV q] w (RB (PV p) w) := by
  obtain ⟨h0, h1, h2⟩ := h
  have hA := fun w' => plain_any q (p 0) (p 1) h0 w'
  have hB := fun w' => back_any q (p 2) (p 3) h1 w'
  have hC := fun w' => forth_any q (p 4) (p 5) h2 w'
  clear h0 h1 h2
  have hst := fun (a : Addr) (x y : Nat) (m : Mode) (w : World) => run_store Try.prog w a (.complex .f32 x y) m rfl
  have T := box3 w [.complex .f32 (q 0) (q 1), .complex .f32 (q 2) (q 3), .complex .f32 (q 4) (q 5)] [.complex .f32 0 0, .complex .f32 0 0, .complex .f32 0 0] [.complex .f32 (q 0) (q 1), .complex .f32 (q 2) (q 3), .complex .f32 (q 4) (q 5)] 89 37 175
  unfold PV at *
  go_enter Try.func58, Try.ntmps58
  go_wp2_with fail
  generalize hW3 : (((w.alloc (.cells #[.complex .f32 (q 0) (q 1), .complex .f32 (q 2) (q 3), .complex .f32 (q 4) (q 5)] 89)).alloc (.cells #[.complex .f32 0 0, .complex .f32 0 0, .complex .f32 0 0] 37)).alloc (.cells #[.complex .f32 (q 0) (q 1), .complex .f32 (q 2) (q 3), .complex .f32 (q 4) (q 5)] 175)) = W3 at *
  clear hW3
  obtain ⟨T1, T3, T2, TB⟩ := T
  have c0 := fun x : Grown W3 => x.cell (T2.cell 0 (by simp))
  have c1 := fun x : Grown W3 => x.cell (T2.cell 1 (by simp))
  have c2 := fun x : Grown W3 => x.cell (T2.cell 2 (by simp))
  simp only [List.getD_cons_zero, List.getD_cons_succ] at c0 c1 c2
  have H3 := Lib.hid T3
  have HB := Lib.hid TB
  clear T1 T2 T3 TB
  refine wp_grown_tail 7 (by kernel_rfl) (by kernel_rfl) ?_
  simp only [List.take_succ_cons, List.take_zero, List.drop_succ_cons, List.drop_zero]
  repeat (go_big_quiet_step (first | (go_at_call_of 139 (Value.agg #[.complex .f32 (q 0) (q 1), .complex .f32 (q 2) (q 3), .complex .f32 (q 4) (q 5)]); exact Grown.calls _ (hA _)) | (go_at_call_of 141 (Value.agg #[.complex .f32 (q 0) (q 1), .complex .f32 (q 2) (q 3), .complex .f32 (q 4) (q 5)]); exact Grown.calls _ (hB _)) | (go_at_call_of 140 (Value.agg #[.complex .f32 (q 0) (q 1), .complex .f32 (q 2) (q 3), .complex .f32 (q 4) (q 5)]); exact Grown.calls _ (hC _))))
  refine wpQuiet_nil ?_
  rintro _ ⟨x, rfl⟩
  have R := x.rl H3.out
  have hB5 := Lib.hid ((HB.out.trans (x.2.mono HB.out.size)))
  generalize x.1 = w5 at *
  clear c0 c1 c2 hA hB hC H3 HB
  have k0 := R.cell 0 (by simp)
  have k1 := R.cell 1 (by simp)
  have k2 := R.cell 2 (by simp)
  have z0 := R.frozen 0
  have z1 := R.frozen 1
  have z2 := R.frozen 2
  simp only [List.getD_cons_zero, List.getD_cons_succ] at k0 k1 k2
  go_wp2_with fail
  have R2 := ((R.set 0 (.complex .f32 (p 0) (p 1))).set 1 (.complex .f32 (p 2) (p 3))).set 2 (.complex .f32 (p 4) (p 5))
  have v0 := R2.cell 0 (by simp)
  have v1 := R2.cell 1 (by simp)
  have v2 := R2.cell 2 (by simp)
  simp only [List.set_cons_zero, List.set_cons_succ, List.getD_cons_zero, List.getD_cons_succ] at v0 v1 v2
  try simp only [Exit.inBlock, Exit.then]
  refine bodyPost_ret (by simp [results, Try.results58, go_sem, v0, v1, v2]; try rfl) rfl ?_
  exact ⟨rfl, ((hB5.out.setCell (by simp) _).setCell (by simp) _).setCell (by simp) _⟩
end Go.Proofs.Ytljclagfplildaa
end

section
set_option linter.unusedSimpArgs false
set_option linter.unusedVariables false
set_option maxRecDepth 20000
namespace Go.Proofs.Ytljclagfplildaa
open Go Go.RowKit Go.Proofs.Ytljclagfplildaa.Fl

/-- The imaginary part of the phasor, in units of 2^-24. -/
def thK (g : Bool) : Int := if g then -14529495 else 14529495
instance (k : FloatKind) (d b : Nat) (n : Int) : Decidable (Dy k d b n) := by unfold Dy; infer_instance
theorem dy_phr : Dy .f32 24 3204448256 (-8388608) := by decide +kernel
theorem dy_phi (g : Bool) : Dy .f32 24 (thI g) (thK g) := by cases g <;> decide +kernel
theorem dy_third : Dy .f32 25 third32 11184811 := by decide +kernel

theorem pow_split (a b c : Nat) (h : a = b + c) : 2 ^ a = 2 ^ b * 2 ^ c := by rw [h, Nat.pow_add]

/-- Within e of x; at most M. -/
def Nr (n x e : Int) : Prop := x - e ≤ n ∧ n ≤ x + e
theorem off64 {n N X : Int} (h : OffI .f64 n N) (h1 : -X ≤ N) (h2 : N ≤ X) : -X ≤ 9007199254740992 * (n - N) ∧ 9007199254740992 * (n - N) ≤ X := by
  have h3 := h.e64
  clear h
  generalize n - N = D at *
  omega
theorem off32 {n N X : Int} (h : OffI .f32 n N) (h1 : -X ≤ N) (h2 : N ≤ X) : -X ≤ 16777216 * (n - N) ∧ 16777216 * (n - N) ≤ X := by
  have h3 := h.e32
  clear h
  generalize n - N = D at *
  omega
theorem lt_pow {d : Nat} {N : Int} (h1 : -(1125899906842624 * (2 ^ d : Nat)) ≤ N) (h2 : N ≤ 1125899906842624 * (2 ^ d : Nat)) : N.natAbs < 2 ^ (d + 100) := by
  rw [pow_split (d + 100) d 100 rfl]
  have hp := Nat.two_pow_pos d
  generalize 2 ^ d = Q at *
  omega

theorem addN {d a b : Nat} {A B : Int} (M : Nat) (ha : Dy .f32 d a A) (hb : Dy .f32 d b B) (hd : d ≤ 100) (h1 : -(M : Int) ≤ A + B) (h2 : A + B ≤ M) (hM : M ≤ 1125899906842624 * 2 ^ d) :
    ∃ r n, fop .add .f32 (vl .f32 a) (vl .f32 b) = some r ∧ Dy .f32 d r n ∧ -(M : Int) ≤ 16777216 * (n - (A + B)) ∧ 16777216 * (n - (A + B)) ≤ M := by
  have hb32 : bias .f32 = 127 := rfl
  have hM' : (M : Int) ≤ 1125899906842624 * (2 ^ d : Nat) := by omega
  obtain ⟨n, ⟨r, k1, k2⟩, k3⟩ := DyV.add' (DyV.of ha) (DyV.of hb) (by omega) (lt_pow (by omega) (by omega))
  exact ⟨r, n, k1, k2, off32 k3 h1 h2⟩
theorem subN {d a b : Nat} {A B : Int} (M : Nat) (ha : Dy .f32 d a A) (hb : Dy .f32 d b B) (hd : d ≤ 100) (h1 : -(M : Int) ≤ A - B) (h2 : A - B ≤ M) (hM : M ≤ 1125899906842624 * 2 ^ d) :
    ∃ r n, fop .sub .f32 (vl .f32 a) (vl .f32 b) = some r ∧ Dy .f32 d r n ∧ -(M : Int) ≤ 16777216 * (n - (A - B)) ∧ 16777216 * (n - (A - B)) ≤ M := by
  have hb32 : bias .f32 = 127 := rfl
  have hM' : (M : Int) ≤ 1125899906842624 * (2 ^ d : Nat) := by omega
  obtain ⟨n, ⟨r, k1, k2⟩, k3⟩ := DyV.sub' (DyV.of ha) (DyV.of hb) (by omega) (lt_pow (by omega) (by omega))
  exact ⟨r, n, k1, k2, off32 k3 h1 h2⟩
theorem thirdN {d a : Nat} {A : Int} (M : Nat) (ha : Dy .f32 d a A) (hd : d ≤ 75) (h1 : -(M : Int) ≤ A) (h2 : A ≤ M) (hM : M ≤ 1125899906842624 * 2 ^ d) :
    ∃ r n, fop .mul .f32 (vl .f32 a) (vl .f32 third32) = some r ∧ Dy .f32 (d + 25) r n ∧ -(11184811 * (M : Int)) ≤ 16777216 * (n - 11184811 * A) ∧ 16777216 * (n - 11184811 * A) ≤ 11184811 * M := by
  have hb32 : bias .f32 = 127 := rfl
  have hM' : (M : Int) ≤ 1125899906842624 * (2 ^ d : Nat) := by omega
  have e1 : A * 11184811 = 11184811 * A := Int.mul_comm _ _
  have e2 : ((2 ^ (d + 25) : Nat) : Int) = 33554432 * (2 ^ d : Nat) := by rw [Nat.pow_add]; omega
  obtain ⟨n, ⟨r, k1, k2⟩, k3⟩ := DyV.mul' (DyV.of ha) (DyV.of dy_third) (by omega) (lt_pow (by rw [e1, e2]; omega) (by rw [e1, e2]; omega))
  rw [e1] at k3
  exact ⟨r, n, k1, k2, off32 k3 (by omega) (by omega)⟩

theorem two_side {X : Int} {B : Nat} (h : X.natAbs ≤ B) : -(B : Int) ≤ X ∧ X ≤ B := by omega
theorem fin_close (M p q AC BD x n : Int) (a1 : -(16777216 * M) ≤ 9007199254740992 * (p - AC)) (a2 : 9007199254740992 * (p - AC) ≤ 16777216 * M) (b1 : -(16777216 * M) ≤ 9007199254740992 * (q - BD)) (b2 : 9007199254740992 * (q - BD) ≤ 16777216 * M)
    (c1 : -(67108864 * M) ≤ 9007199254740992 * (x - (p + q))) (c2 : 9007199254740992 * (x - (p + q)) ≤ 67108864 * M) (d1 : -(35651584 * M) ≤ 16777216 * (n - x)) (d2 : 16777216 * (n - x) ≤ 35651584 * M) (hM : 0 ≤ M) :
    AC + BD - (3 * M + 9) ≤ n ∧ n ≤ AC + BD + (3 * M + 9) := by omega

/-- One part of a complex product: what it is off. -/
theorem partN {D : Nat} {u v : Option Nat} {AC BD : Int} (M : Nat) (hu : ∃ p, DyV .f64 D u p ∧ OffI .f64 p AC) (hv : ∃ q, DyV .f64 D v q ∧ OffI .f64 q BD) (hid : D ≤ 100)
    (hA : AC.natAbs ≤ 16777216 * M) (hB : BD.natAbs ≤ 16777216 * M) (hQ : M ≤ 16777216 * 2 ^ D) (s : Bool) :
    ∃ r n, NarV (if s then fop .add .f64 u v else fop .sub .f64 u v) r ∧ Dy .f32 D r n ∧ Nr n (if s then AC + BD else AC - BD) (3 * M + 9) := by
  have hb64 : bias .f64 = 1023 := rfl
  obtain ⟨p, g1, f1⟩ := hu
  obtain ⟨q, g2, f2⟩ := hv
  obtain ⟨a1, a2⟩ := two_side hA
  obtain ⟨b1, b2⟩ := two_side hB
  obtain ⟨a3, a4⟩ := off64 f1 a1 a2
  obtain ⟨b3, b4⟩ := off64 f2 b1 b2
  clear hA hB f1 f2
  have hQ' : (M : Int) ≤ 16777216 * (2 ^ D : Nat) := by omega
  have ec : ((16777216 * M : Nat) : Int) = 16777216 * (M : Int) := by omega
  rw [ec] at *
  have pb : -(17825792 * (M : Int)) - 1 ≤ p ∧ p ≤ 17825792 * M + 1 := by omega
  have qb : -(17825792 * (M : Int)) - 1 ≤ q ∧ q ≤ 17825792 * M + 1 := by omega
  cases s
  · obtain ⟨x, gx, fx⟩ := DyV.sub' g1 g2 (by omega) (lt_pow (by omega) (by omega))
    obtain ⟨c1, c2⟩ := off64 (X := 67108864 * M) fx (by omega) (by omega)
    obtain ⟨n, ⟨r, k1, k2⟩, fn, on⟩ := gx.narrow' (by omega) (lt_pow (by omega) (by omega))
    obtain ⟨d1, d2⟩ := off32 (X := 35651584 * M + 2) fn (by omega) (by omega)
    refine ⟨r, n, ⟨on, k1⟩, k2, ?_⟩
    unfold Nr
    simp only [Bool.false_eq_true, if_false]
    omega
  · obtain ⟨x, gx, fx⟩ := DyV.add' g1 g2 (by omega) (lt_pow (by omega) (by omega))
    obtain ⟨c1, c2⟩ := off64 (X := 67108864 * M) fx (by omega) (by omega)
    obtain ⟨n, ⟨r, k1, k2⟩, fn, on⟩ := gx.narrow' (by omega) (lt_pow (by omega) (by omega))
    obtain ⟨d1, d2⟩ := off32 (X := 35651584 * M + 2) fn (by omega) (by omega)
    refine ⟨r, n, ⟨on, k1⟩, k2, ?_⟩
    unfold Nr
    simp only [if_true]
    omega

/-- A complex product: what it is off. -/
theorem mulN {i d a b c e : Nat} {A B C D : Int} (M : Nat) (ha : Dy .f32 i a A) (hb : Dy .f32 i b B) (hc : Dy .f32 d c C) (he : Dy .f32 d e D) (hid : i + d ≤ 100)
    (hA : A.natAbs ≤ 16777216) (hB : B.natAbs ≤ 16777216) (hC : C.natAbs ≤ M) (hD : D.natAbs ≤ M) (hM : M ≤ 16777216 * 2 ^ d) :
    ∃ r s n m, MulV a b c e r s ∧ Dy .f32 (i + d) r n ∧ Dy .f32 (i + d) s m ∧ Nr n (A * C - B * D) (3 * M + 9) ∧ Nr m (A * D + B * C) (3 * M + 9) := by
  have hb64 : bias .f64 = 1023 := rfl
  have wa := DyV.widen (DyV.of ha)
  have wb := DyV.widen (DyV.of hb)
  have wc := DyV.widen (DyV.of hc)
  have we := DyV.widen (DyV.of he)
  have b1 : (A * C).natAbs ≤ 16777216 * M := natAbs_mul_le hA hC
  have b2 : (B * D).natAbs ≤ 16777216 * M := natAbs_mul_le hB hD
  have b3 : (A * D).natAbs ≤ 16777216 * M := natAbs_mul_le hA hD
  have b4 : (B * C).natAbs ≤ 16777216 * M := natAbs_mul_le hB hC
  have hQ : 16777216 * M ≤ 281474976710656 * 2 ^ (i + d) := by
    have h1 := Nat.mul_le_mul_left 16777216 (Nat.le_trans hM (Nat.mul_le_mul_left 16777216 (Nat.pow_le_pow_right (n := 2) (by omega) (show d ≤ i + d by omega))))
    rw [← Nat.mul_assoc] at h1
    exact h1
  have hMM : M ≤ 16777216 * 2 ^ (i + d) := Nat.le_trans hM (Nat.mul_le_mul_left _ (Nat.pow_le_pow_right (by omega) (by omega)))
  have hbig : ∀ {N : Int}, N.natAbs ≤ 16777216 * M → N.natAbs < 2 ^ (i + d + 100) := by
    intro N hN
    have h1 := Nat.le_trans hN hQ
    clear hN hQ b1 b2 b3 b4
    exact lt_pow (by omega) (by omega)
  obtain ⟨r, n, h1, h2, h3⟩ := partN M (DyV.mul' wa wc (by omega) (hbig b1)) (DyV.mul' wb we (by omega) (hbig b2)) hid b1 b2 hMM false
  obtain ⟨s, m, h4, h5, h6⟩ := partN M (DyV.mul' wa we (by omega) (hbig b3)) (DyV.mul' wb wc (by omega) (hbig b4)) hid b3 b4 hMM true
  exact ⟨r, s, n, m, ⟨h1, h4⟩, h2, h5, h3, h6⟩
/-- A complex product: what it is off. -/
theorem mulM {i d a b c e : Nat} {A B C D : Int} (M : Nat) (ha : Dy .f32 i a A) (hb : Dy .f32 i b B) (hc : Dy .f32 d c C) (he : Dy .f32 d e D) (hid : i + d ≤ 100)
    (hA : A.natAbs ≤ M) (hB : B.natAbs ≤ M) (hC : C.natAbs ≤ 16777216) (hD : D.natAbs ≤ 16777216) (hM : M ≤ 16777216 * 2 ^ i) :
    ∃ r s n m, MulV a b c e r s ∧ Dy .f32 (i + d) r n ∧ Dy .f32 (i + d) s m ∧ Nr n (A * C - B * D) (3 * M + 9) ∧ Nr m (A * D + B * C) (3 * M + 9) := by
  have hb64 : bias .f64 = 1023 := rfl
  have wa := DyV.widen (DyV.of ha)
  have wb := DyV.widen (DyV.of hb)
  have wc := DyV.widen (DyV.of hc)
  have we := DyV.widen (DyV.of he)
  have b1 : (A * C).natAbs ≤ 16777216 * M := (by rw [Int.mul_comm]; exact natAbs_mul_le hC hA)
  have b2 : (B * D).natAbs ≤ 16777216 * M := (by rw [Int.mul_comm]; exact natAbs_mul_le hD hB)
  have b3 : (A * D).natAbs ≤ 16777216 * M := (by rw [Int.mul_comm]; exact natAbs_mul_le hD hA)
  have b4 : (B * C).natAbs ≤ 16777216 * M := (by rw [Int.mul_comm]; exact natAbs_mul_le hC hB)
  have hQ : 16777216 * M ≤ 281474976710656 * 2 ^ (i + d) := by
    have h1 := Nat.mul_le_mul_left 16777216 (Nat.le_trans hM (Nat.mul_le_mul_left 16777216 (Nat.pow_le_pow_right (n := 2) (by omega) (show i ≤ i + d by omega))))
    rw [← Nat.mul_assoc] at h1
    exact h1
  have hMM : M ≤ 16777216 * 2 ^ (i + d) := Nat.le_trans hM (Nat.mul_le_mul_left _ (Nat.pow_le_pow_right (by omega) (by omega)))
  have hbig : ∀ {N : Int}, N.natAbs ≤ 16777216 * M → N.natAbs < 2 ^ (i + d + 100) := by
    intro N hN
    have h1 := Nat.le_trans hN hQ
    clear hN hQ b1 b2 b3 b4
    exact lt_pow (by omega) (by omega)
  obtain ⟨r, n, h1, h2, h3⟩ := partN M (DyV.mul' wa wc (by omega) (hbig b1)) (DyV.mul' wb we (by omega) (hbig b2)) hid b1 b2 hMM false
  obtain ⟨s, m, h4, h5, h6⟩ := partN M (DyV.mul' wa we (by omega) (hbig b3)) (DyV.mul' wb wc (by omega) (hbig b4)) hid b3 b4 hMM true
  exact ⟨r, s, n, m, ⟨h1, h4⟩, h2, h5, h3, h6⟩
end Go.Proofs.Ytljclagfplildaa
end

section
set_option linter.unusedSimpArgs false
set_option linter.unusedVariables false
set_option maxRecDepth 20000
namespace Go.Proofs.Ytljclagfplildaa
open Go Go.RowKit Go.Proofs.Ytljclagfplildaa.Fl

/-- Six numbers, each so many units of 2^-d, and at most M. -/
def Six (d : Nat) (p : Nat → Nat) (P : Nat → Int) (M : Nat) : Prop := ∀ j, j < 6 → Dy .f32 d (p j) (P j) ∧ -(M : Int) ≤ P j ∧ P j ≤ M
theorem finer24 {d b : Nat} {n : Int} (h : Dy .f32 d b n) : Dy .f32 (24 + d) b (16777216 * n) := by
  have h1 := h.finer 24
  rw [show d + 24 = 24 + d from Nat.add_comm _ _, show n * ((2 ^ 24 : Nat) : Int) = 16777216 * n by omega] at h1
  exact h1
theorem abs_of {X : Int} {M : Nat} (h : -(M : Int) ≤ X ∧ X ≤ M) : X.natAbs ≤ M := by omega
theorem thK_abs (g : Bool) : (thK g).natAbs ≤ 16777216 := by cases g <;> decide
theorem thK_not (g : Bool) : thK (!g) = -thK g := by cases g <;> decide
theorem thK_or (g : Bool) : thK g = 14529495 ∨ thK g = -14529495 := by cases g <;> simp [thK]

/-- What the turned sum is nearly. -/
def tR (g : Bool) (P : Nat → Int) : Int := 16777216 * P 0 + (-8388608 * P 2 - thK g * P 3) + (-8388608 * P 4 + thK g * P 5)
def tI (g : Bool) (P : Nat → Int) : Int := 16777216 * P 1 + (-8388608 * P 3 + thK g * P 2) + (-8388608 * P 5 - thK g * P 4)

theorem sum_close (M a u v t r X Y Z : Int) (hM : 0 ≤ M) (ha : -M ≤ X ∧ X ≤ M) (hu : Nr u Y (3 * M + 9)) (hv : Nr v Z (3 * M + 9)) (hY : -(25165824 * M) ≤ Y ∧ Y ≤ 25165824 * M) (hZ : -(25165824 * M) ≤ Z ∧ Z ≤ 25165824 * M)
    (t1 : -(58720256 * M) ≤ 16777216 * (t - (16777216 * X + u))) (t2 : 16777216 * (t - (16777216 * X + u)) ≤ 58720256 * M)
    (r1 : -(92274688 * M) ≤ 16777216 * (r - (t + v))) (r2 : 16777216 * (r - (t + v)) ≤ 92274688 * M) : Nr r (16777216 * X + Y + Z) (16 * M + 40) := by
  unfold Nr at *; omega

theorem turnN (g : Bool) {d : Nat} {p : Nat → Nat} {P : Nat → Int} {M : Nat} (h : Six d p P M) (hd : d ≤ 75) (hM2 : M ≤ 1048576 * 2 ^ d) (hM1 : 1 ≤ M) :
    ∃ r s n m, TurnV g p r s ∧ Dy .f32 (24 + d) r n ∧ Dy .f32 (24 + d) s m ∧ Nr n (tR g P) (16 * M + 40) ∧ Nr m (tI g P) (16 * M + 40) := by
  obtain ⟨d0, b0⟩ := h 0 (by omega)
  obtain ⟨d1, b1⟩ := h 1 (by omega)
  obtain ⟨d2, b2⟩ := h 2 (by omega)
  obtain ⟨d3, b3⟩ := h 3 (by omega)
  obtain ⟨d4, b4⟩ := h 4 (by omega)
  obtain ⟨d5, b5⟩ := h 5 (by omega)
  have hM : M ≤ 16777216 * 2 ^ d := by omega
  obtain ⟨u0, u1, a0, a1, m1, e0, e1, n0, n1⟩ := mulN M dy_phr (dy_phi g) d2 d3 (by omega) (by decide) (thK_abs g) (abs_of b2) (abs_of b3) hM
  obtain ⟨v0, v1, c0, c1, m2, f0, f1, k0, k1⟩ := mulN M dy_phr (dy_phi (!g)) d4 d5 (by omega) (by decide) (thK_abs (!g)) (abs_of b4) (abs_of b5) hM
  rw [thK_not] at k0 k1
  have hM0 : (0 : Int) ≤ (M : Int) := by omega
  -- the products are at most 3/2 M
  have pb : ∀ X Y : Int, -(M : Int) ≤ X ∧ X ≤ M → -(M : Int) ≤ Y ∧ Y ≤ M → ∀ K : Int, K = 14529495 ∨ K = -14529495 → (-(25165824 * (M : Int)) ≤ -8388608 * X - K * Y ∧ -8388608 * X - K * Y ≤ 25165824 * M) ∧ (-(25165824 * (M : Int)) ≤ -8388608 * X + K * Y ∧ -8388608 * X + K * Y ≤ 25165824 * M) := by
    rintro X Y ⟨x1, x2⟩ ⟨y1, y2⟩ K (rfl | rfl)
    · omega
    · omega
  have q1 := (pb _ _ b2 b3 _ (thK_or g)).1
  have q2 := (pb _ _ b3 b2 _ (thK_or g)).2
  have q3 := (pb _ _ b4 b5 _ (thK_or g)).2
  have q4 := (pb _ _ b5 b4 _ (thK_or g)).1
  have r1 : -thK g * P 5 = -(thK g * P 5) := Int.neg_mul _ _
  have r2 : -thK g * P 4 = -(thK g * P 4) := Int.neg_mul _ _
  rw [r1] at k0
  rw [r2] at k1
  unfold tR tI
  generalize thK g * P 3 = K3 at *
  generalize thK g * P 2 = K2 at *
  generalize thK g * P 5 = K5 at *
  generalize thK g * P 4 = K4 at *
  have hMd : M ≤ 1048576 * 2 ^ (24 + d) := Nat.le_trans hM2 (Nat.mul_le_mul_left 1048576 (Nat.pow_le_pow_right (n := 2) (by omega) (show d ≤ 24 + d by omega)))
  clear hM2
  clear hM h pb d2 d3 d4 d5
  unfold Nr at n0 n1 k0 k1
  obtain ⟨t0, x0, g0, y0, z0, z0'⟩ := addN (58720256 * M) (finer24 d0) e0 (by omega) (by omega) (by omega) (by omega)
  obtain ⟨t1, x1, g1, y1, z1, z1'⟩ := addN (58720256 * M) (finer24 d1) e1 (by omega) (by omega) (by omega) (by omega)
  obtain ⟨r0, w0, g2, y2, z2, z2'⟩ := addN (92274688 * M) y0 f0 (by omega) (by omega) (by omega) (by omega)
  obtain ⟨r1, w1, g3, y3, z3, z3'⟩ := addN (92274688 * M) y1 f1 (by omega) (by omega) (by omega) (by omega)
  have s0 := sum_close M 0 a0 c0 x0 w0 (P 0) (-8388608 * P 2 - K3) (-8388608 * P 4 + K5) hM0 b0 n0 (by unfold Nr; omega) q1 q3 (by omega) (by omega) (by omega) (by omega)
  have s1 := sum_close M 0 a1 c1 x1 w1 (P 1) (-8388608 * P 3 + K2) (-8388608 * P 5 - K4) hM0 b1 n1 (by unfold Nr; omega) q2 q4 (by omega) (by omega) (by omega) (by omega)
  exact ⟨r0, r1, w0, w1, ⟨u0, u1, v0, v1, t0, t1, by assumption, by assumption, g0, g1, g2, g3⟩, y2, y3, s0, s1⟩

/-- A plain sum: what it is off. -/
theorem plainN {d : Nat} {p : Nat → Nat} {P : Nat → Int} {M : Nat} (h : Six d p P M) (hd : d ≤ 100) (hM : M ≤ 281474976710656 * 2 ^ d) (hM1 : 1 ≤ M) :
    ∃ r s n m, PlainV p r s ∧ Dy .f32 d r n ∧ Dy .f32 d s m ∧ (-(6 * (M : Int)) ≤ 16777216 * (n - (P 0 + P 2 + P 4)) ∧ 16777216 * (n - (P 0 + P 2 + P 4)) ≤ 6 * M) ∧ (-(6 * (M : Int)) ≤ 16777216 * (m - (P 1 + P 3 + P 5)) ∧ 16777216 * (m - (P 1 + P 3 + P 5)) ≤ 6 * M) := by
  obtain ⟨d0, b0⟩ := h 0 (by omega)
  obtain ⟨d1, b1⟩ := h 1 (by omega)
  obtain ⟨d2, b2⟩ := h 2 (by omega)
  obtain ⟨d3, b3⟩ := h 3 (by omega)
  obtain ⟨d4, b4⟩ := h 4 (by omega)
  obtain ⟨d5, b5⟩ := h 5 (by omega)
  clear h
  obtain ⟨t0, x0, g0, y0, z0, z0'⟩ := addN (2 * M) d0 d2 hd (by omega) (by omega) (by omega)
  obtain ⟨t1, x1, g1, y1, z1, z1'⟩ := addN (2 * M) d1 d3 hd (by omega) (by omega) (by omega)
  obtain ⟨r0, w0, g2, y2, z2, z2'⟩ := addN (4 * M) y0 d4 hd (by omega) (by omega) (by omega)
  obtain ⟨r1, w1, g3, y3, z3, z3'⟩ := addN (4 * M) y1 d5 hd (by omega) (by omega) (by omega)
  exact ⟨r0, r1, w0, w1, ⟨t0, t1, g0, g1, g2, g3⟩, y2, y3, by omega, by omega⟩

/-- What Zero is nearly, in units of the turned sums. -/
def zR (P : Nat → Int) : Int := 16777216 * (P 0 + P 2 + P 4)
def zI (P : Nat → Int) : Int := 16777216 * (P 1 + P 3 + P 5)
theorem third_close (M n X k : Int) (hM : 1 ≤ M) (hn : Nr n X (16 * M + 40)) (hX : -(83886080 * M) ≤ X ∧ X ≤ 83886080 * M)
    (k1 : -(11184811 * (83886080 * M + 16 * M + 40)) ≤ 16777216 * (k - 11184811 * n)) (k2 : 16777216 * (k - 11184811 * n) ≤ 11184811 * (83886080 * M + 16 * M + 40)) : Nr k (11184811 * X) (11184811 * (22 * M + 50)) := by
  unfold Nr at *; omega
theorem third_of {D r : Nat} {n X : Int} {M : Nat} (hr : Dy .f32 D r n) (hD : D ≤ 75) (hM : M ≤ 1048576 * 2 ^ D) (hM1 : 1 ≤ M) (hn : Nr n X (16 * M + 40)) (hX : -(83886080 * (M : Int)) ≤ X ∧ X ≤ 83886080 * M) :
    ∃ x k, fop .mul .f32 (vl .f32 r) (vl .f32 third32) = some x ∧ Dy .f32 (D + 25) x k ∧ Nr k (11184811 * X) (11184811 * (22 * M + 50)) := by
  have hn' := hn
  unfold Nr at hn'
  obtain ⟨x, k, h1, h2, h3, h4⟩ := thirdN (83886080 * M + 16 * M + 40) hr hD (by omega) (by omega) (by omega)
  exact ⟨x, k, h1, h2, third_close M n X k (by omega) hn hX (by omega) (by omega)⟩
theorem tR_le (g : Bool) {P : Nat → Int} {M : Nat} (h : ∀ j, j < 6 → -(M : Int) ≤ P j ∧ P j ≤ M) : (-(83886080 * (M : Int)) ≤ tR g P ∧ tR g P ≤ 83886080 * M) ∧ (-(83886080 * (M : Int)) ≤ tI g P ∧ tI g P ≤ 83886080 * M) := by
  have h0 := h 0 (by omega); have h1 := h 1 (by omega); have h2 := h 2 (by omega); have h3 := h 3 (by omega); have h4 := h 4 (by omega); have h5 := h 5 (by omega)
  unfold tR tI
  cases g <;> simp only [thK, Bool.false_eq_true, if_false, if_true] <;> omega

/-- The parts of phases: what they are off. -/
theorem partsN {d : Nat} {p : Nat → Nat} {P : Nat → Int} {M : Nat} (h : Six d p P M) (hd : d ≤ 51) (hM : M ≤ 1048576 * 2 ^ d) (hM1 : 1 ≤ M) :
    ∃ (q : Nat → Nat) (Q : Nat → Int), PartsV p q ∧ (∀ j, j < 6 → Dy .f32 (24 + d + 25) (q j) (Q j)) ∧
      Nr (Q 0) (11184811 * zR P) (11184811 * (22 * M + 50)) ∧ Nr (Q 1) (11184811 * zI P) (11184811 * (22 * M + 50)) ∧ Nr (Q 2) (11184811 * tR false P) (11184811 * (22 * M + 50)) ∧ Nr (Q 3) (11184811 * tI false P) (11184811 * (22 * M + 50)) ∧
      Nr (Q 4) (11184811 * tR true P) (11184811 * (22 * M + 50)) ∧ Nr (Q 5) (11184811 * tI true P) (11184811 * (22 * M + 50)) := by
  have hPb : ∀ j, j < 6 → -(M : Int) ≤ P j ∧ P j ≤ M := fun j hj => (h j hj).2
  have hMd : M ≤ 1048576 * 2 ^ (24 + d) := Nat.le_trans hM (Nat.mul_le_mul_left 1048576 (Nat.pow_le_pow_right (n := 2) (by omega) (show d ≤ 24 + d by omega)))
  obtain ⟨z0, z1, n0, n1, v0, e0, e1, c0, c1⟩ := plainN h (by omega) (by omega) hM1
  obtain ⟨r0, r1, m0, m1, w0, f0, f1, k0, k1⟩ := turnN false h (by omega) hM hM1
  obtain ⟨s0, s1, l0, l1, w1, g0, g1, i0, i1⟩ := turnN true h (by omega) hM hM1
  have e0 := finer24 e0
  have e1 := finer24 e1
  have b0 := hPb 0 (by omega); have b1 := hPb 1 (by omega); have b2 := hPb 2 (by omega); have b3 := hPb 3 (by omega); have b4 := hPb 4 (by omega); have b5 := hPb 5 (by omega)
  have j0 : Nr (16777216 * n0) (zR P) (16 * M + 40) := by unfold Nr zR; omega
  have j1 : Nr (16777216 * n1) (zI P) (16 * M + 40) := by unfold Nr zI; omega
  obtain ⟨x0, q0, o0, p0, y0⟩ := third_of e0 (by omega) hMd hM1 j0 (by unfold zR; omega)
  obtain ⟨x1, q1, o1, p1, y1⟩ := third_of e1 (by omega) hMd hM1 j1 (by unfold zI; omega)
  obtain ⟨x2, q2, o2, p2, y2⟩ := third_of f0 (by omega) hMd hM1 k0 (tR_le false hPb).1
  obtain ⟨x3, q3, o3, p3, y3⟩ := third_of f1 (by omega) hMd hM1 k1 (tR_le false hPb).2
  obtain ⟨x4, q4, o4, p4, y4⟩ := third_of g0 (by omega) hMd hM1 i0 (tR_le true hPb).1
  obtain ⟨x5, q5, o5, p5, y5⟩ := third_of g1 (by omega) hMd hM1 i1 (tR_le true hPb).2
  refine ⟨fun j => [x0, x1, x2, x3, x4, x5].getD j 0, fun j => [q0, q1, q2, q3, q4, q5].getD j 0, ⟨?_, ?_, ?_⟩, ?_, y0, y1, y2, y3, y4, y5⟩
  · exact ⟨z0, z1, v0, o0, o1⟩
  · exact ⟨r0, r1, w0, o2, o3⟩
  · exact ⟨s0, s1, w1, o4, o5⟩
  · intro j hj
    obtain rfl | rfl | rfl | rfl | rfl | rfl : j = 0 ∨ j = 1 ∨ j = 2 ∨ j = 3 ∨ j = 4 ∨ j = 5 := by omega
    · exact p0
    · exact p1
    · exact p2
    · exact p3
    · exact p4
    · exact p5
end Go.Proofs.Ytljclagfplildaa
end

section
set_option linter.unusedSimpArgs false
set_option linter.unusedVariables false
set_option maxRecDepth 20000
namespace Go.Proofs.Ytljclagfplildaa
open Go Go.RowKit Go.Proofs.Ytljclagfplildaa.Fl

/-- The bits of 0.001. -/
abbrev c001 : Nat := 4562254508917369340
def LongV (u v l : Nat) : Prop := NarV (fsq (pwW u v)) l
def ApartV (a b c d t : Nat) : Prop := ∃ u v l, fop .sub .f32 (vl .f32 a) (vl .f32 c) = some u ∧ fop .sub .f32 (vl .f32 b) (vl .f32 d) = some v ∧ LongV u v l ∧ fcv .f32 .f64 (vl .f32 l) = some t

theorem tops_at (a b : Nat) (ha : a = 116) (hb : b = 1012) : U .f32 (a * FloatKind.f32.format.binade + FloatKind.f32.format.binade) * scaleW = U .f64 (b * FloatKind.f64.format.binade + FloatKind.f64.format.binade) := by
  rw [U_word .f32 a _ (Nat.le_refl _) (by omega), U_word .f64 b _ (Nat.le_refl _) (by omega)]
  rw [show FloatKind.f32.format.binade = 8388608 by decide, show FloatKind.f64.format.binade = 8388608 * 2 ^ 29 by decide, Nat.mul_assoc, Nat.mul_assoc]
  have e2 := scaleW_eq a (29 + b) (by rw [gapW_eq]; omega)
  rw [← e2, Nat.pow_add]
theorem tops : U .f32 (117 * 8388608) * scaleW = U .f64 (1013 * 4503599627370496) := by
  have h := tops_at 116 1012 rfl rfl
  rw [show 116 * FloatKind.f32.format.binade + FloatKind.f32.format.binade = 117 * 8388608 by decide, show 1012 * FloatKind.f64.format.binade + FloatKind.f64.format.binade = 1013 * 4503599627370496 by decide] at h
  exact h
theorem sv_le (k : FloatKind) (b : Nat) : sv k b ≤ (U k (rung k b) : Int) := by
  unfold sv; split <;> omega
theorem c001_fin : rung .f64 c001 < FloatKind.f64.format.infRung := by decide
theorem c001_sv : sv .f64 c001 = U .f64 c001 := by
  have h1 : neg .f64 c001 = false := by decide
  have h2 : rung .f64 c001 = c001 := by decide
  unfold sv; rw [h1, h2]; rfl
theorem lt_c001 {t : Nat} (hf : rung .f64 t < FloatKind.f64.format.infRung) (h : U .f64 (rung .f64 t) ≤ U .f64 (1013 * 4503599627370496)) : FloatKind.f64.format.order t c001 = some .lt := by
  rw [order_units .f64 t c001 hf c001_fin, c001_sv]
  have h1 := sv_le .f64 t
  have h2 : U .f64 (1013 * 4503599627370496) < U .f64 c001 := U_lt .f64 (by decide)
  congr 1
  exact (Int.compare_eq_lt).2 (by omega)

theorem narrow_small {D : Nat} {x : Option Nat} {s : Nat} (hx : DyV .f64 D x (s : Int)) (hs : s * 2048 ≤ 2 ^ D) : ∃ l t, NarV x l ∧ fcv .f32 .f64 (vl .f32 l) = some t ∧ FloatKind.f64.format.order t c001 = some .lt := by
  obtain ⟨a, rfl, ha⟩ := hx
  obtain ⟨m, i, r1, i1, v1, _⟩ := dy_read ha
  have hB : FloatKind.f32.format.binade = 8388608 := by decide
  have hinf : FloatKind.f32.format.infRung = 255 * 8388608 := by decide
  have hfb : FloatKind.f32.format.fractionBits = 23 := by decide
  have hlp : FloatKind.f32.format.leastPlace = -149 := by decide
  have hpos := Nat.two_pow_pos
  generalize hl : FloatKind.f32.format.nearest (neg .f64 a) m i = l
  have hr : rung .f32 l ≤ 117 * 8388608 := by
    rw [← hl]
    unfold rung
    rw [nearest_rung]
    by_cases m0 : m = 0
    · rw [if_pos m0]; omega
    rw [if_neg m0]
    rw [Int.natAbs_natCast] at v1
    have s0 : s ≠ 0 := fun h => by
      subst h
      rw [Nat.zero_mul] at v1
      rcases Nat.mul_eq_zero.1 v1 with h | h
      · rcases Nat.mul_eq_zero.1 h with h | h
        · exact m0 h
        · exact absurd h (Nat.ne_of_gt (hpos _))
      · exact absurd h (Nat.ne_of_gt (hpos _))
    have hlog : m.log2 + ((i + (onu .f64 : Int)).toNat + D) = s.log2 + onu .f64 := by
      rw [← log2_shift m0, ← log2_shift s0, Nat.pow_add, ← Nat.mul_assoc, v1]
    have hs2 : s.log2 + 11 ≤ D := by
      have h1 := Nat.log2_self_le s0
      have h2 : 2 ^ (s.log2 + 11) ≤ 2 ^ D := by
        rw [Nat.pow_add]
        exact Nat.le_trans (Nat.mul_le_mul_right _ h1) hs
      exact (Nat.pow_le_pow_iff_right (by omega)).1 h2
    have hkept := nearest_kept FloatKind.f32.format (neg .f64 a) m i
    refine Nat.le_trans (Nat.min_le_left _ _) ?_
    rw [hfb, hlp, hB] at *
    generalize Ieee.Toward.even.cut (neg .f64 a) (m <<< (i - max (i + m.log2 - (23 : Nat)) (-149)).toNat) (max (i + m.log2 - (23 : Nat)) (-149) - i).toNat = K at *
    have hlast : (max (i + m.log2 - (23 : Nat)) (-149) - -149).toNat ≤ 115 := by omega
    generalize (max (i + m.log2 - (23 : Nat)) (-149) - -149).toNat = L at *
    have h3 : L * 8388608 ≤ 964689920 := Nat.mul_le_mul_right 8388608 hlast
    have h4 : K ≤ 16777216 := by split at hkept <;> omega
    exact Nat.le_trans (Nat.add_le_add h3 h4) (by decide)
  have hfin : rung .f32 l < FloatKind.f32.format.infRung := by rw [hinf]; omega
  have hvl := fin_vl hfin
  have hfin2 : (FloatKind.f32.decode (FloatKind.f32.encode (.number (neg .f64 a) m i))).isInfinity = false := by
    rw [show FloatKind.f32.encode (.number (neg .f64 a) m i) = l from hl]
    obtain ⟨m', i', h5, _⟩ := read_units .f32 l hfin
    rw [h5]
    rfl
  obtain ⟨t, k1, k2, k3, k4⟩ := widen_fin l hfin
  refine ⟨l, t, ⟨?_, ?_⟩, by rw [hvl]; exact k1, lt_c001 k2 ?_⟩
  · simp only [over, Option.any_some, r1, hfin2]
    rfl
  · simp only [fcv, Option.bind_some, floatToFloatBits, r1]
    rw [if_neg (by decide), hfin2]
    exact congrArg some hl
  · rw [k4, ← tops]
    exact Nat.mul_le_mul_right _ (U_le .f32 hr)

theorem sq_bound {n : Int} {S : Nat} (h : n.natAbs ≤ S) : 0 ≤ n * n ∧ n * n ≤ ((S * S : Nat) : Int) := by
  have h1 : (n * n).natAbs ≤ S * S := natAbs_mul_le h h
  have h2 : 0 ≤ n * n := by
    rcases Int.le_total 0 n with h | h
    · exact Int.mul_nonneg h h
    · exact Int.mul_nonneg_of_nonpos_of_nonpos h h
  exact ⟨h2, by omega⟩
theorem off_pos {n N X : Int} (h : OffI .f64 n N) (h0 : 0 ≤ N) (h2 : N ≤ X) : 0 ≤ n ∧ 9007199254740992 * (n - N) ≤ X ∧ -X ≤ 9007199254740992 * (n - N) := by
  have h3 := h.e64
  clear h
  have e : N.natAbs = N.toNat := by omega
  rw [e] at h3
  have e2 : (N.toNat : Int) = N := by omega
  refine ⟨?_, ?_, ?_⟩ <;> omega

/-- The power of a complex number: units of 2^-2d. -/
theorem power_dy {d u v S : Nat} {n m : Int} (hu : Dy .f32 d u n) (hv : Dy .f32 d v m) (hd : d ≤ 300) (hn : n.natAbs ≤ S) (hm : m.natAbs ≤ S) (hS : S * S ≤ 2 ^ (2 * d + 50)) :
    ∃ r : Int, DyV .f64 (2 * d) (pwW u v) r ∧ 0 ≤ r ∧ 4503599627370496 * (r - (n * n + m * m)) ≤ 4 * ((S * S : Nat) : Int) ∧ -(4 * ((S * S : Nat) : Int)) ≤ 4503599627370496 * (r - (n * n + m * m)) := by
  have hb64 : bias .f64 = 1023 := rfl
  have wu := DyV.widen (DyV.of hu)
  have wv := DyV.widen (DyV.of hv)
  obtain ⟨n0, n1⟩ := sq_bound hn
  obtain ⟨m0, m1⟩ := sq_bound hm
  have e2 : d + d = 2 * d := (Nat.two_mul d).symm
  have hbig : ∀ N : Int, N.natAbs ≤ 4 * (S * S) + 4 → N.natAbs < 2 ^ (2 * d + 100) := by
    intro N h
    have h5 : 2 ^ (2 * d + 100) = 2 ^ (2 * d + 50) * 2 ^ 50 := by rw [← Nat.pow_add]
    have h6 := Nat.two_pow_pos (2 * d + 50)
    rw [h5]
    clear n1 m1
    generalize 2 ^ (2 * d + 50) = Q at *
    omega
  obtain ⟨p, g1, f1⟩ := DyV.mul' wu wu (by omega) (by rw [e2]; exact hbig _ (by omega))
  obtain ⟨q, g2, f2⟩ := DyV.mul' wv wv (by omega) (by rw [e2]; exact hbig _ (by omega))
  rw [e2] at g1 g2
  generalize n * n = nn at *
  generalize m * m = mm at *
  obtain ⟨a0, a1, a2⟩ := off_pos f1 n0 n1
  obtain ⟨b0, b1, b2⟩ := off_pos f2 m0 m1
  obtain ⟨r, g3, f3⟩ := DyV.add' g1 g2 (by omega) (hbig _ (by omega))
  have hSS : 0 ≤ ((S * S : Nat) : Int) := Int.natCast_nonneg _
  clear hbig g1 g2 f1 f2 hS
  generalize ((S * S : Nat) : Int) = SS at *
  obtain ⟨c0, c1, c2⟩ := off_pos (X := 4 * SS) f3 (by omega) (by omega)
  clear f3
  exact ⟨r, g3, c0, by omega, by omega⟩

theorem root_le (M s r SS : Nat) (h1 : M * M * 4503599627370496 ≤ 4503599627370497 * (r * 2 ^ 120)) (hr : r ≤ 3 * SS) : M * M ≤ 4 * 2 ^ 120 * SS := by
  rw [Nat.mul_comm (M * M)] at h1
  have h2 : r * 2 ^ 120 ≤ 3 * (2 ^ 120 * SS) := by
    have := Nat.mul_le_mul_right (2 ^ 120) hr
    rw [Nat.mul_assoc, Nat.mul_comm SS] at this
    exact this
  rw [Nat.mul_assoc]
  generalize r * 2 ^ 120 = R at *
  generalize M * M = MM at *
  generalize 2 ^ 120 * SS = E at *
  omega
theorem sq_le_of {M T : Nat} (h : M * M ≤ T * T) : M ≤ T := by
  rcases Nat.lt_or_ge T M with h1 | h1
  · have := Nat.mul_lt_mul'' h1 h1
    omega
  · exact h1

theorem long_small {d u v S : Nat} {n m : Int} (hu : Dy .f32 d u n) (hv : Dy .f32 d v m) (hd : d ≤ 300) (hn : n.natAbs ≤ S) (hm : m.natAbs ≤ S) (hS : 8192 * S ≤ 2 ^ d) :
    ∃ l t, LongV u v l ∧ fcv .f32 .f64 (vl .f32 l) = some t ∧ FloatKind.f64.format.order t c001 = some .lt := by
  have hS2 : S * S ≤ 2 ^ (2 * d) := by
    rw [Nat.two_mul, Nat.pow_add]
    exact Nat.mul_le_mul (by omega) (by omega)
  obtain ⟨r, h1, h2, h3, h4⟩ := power_dy hu hv hd hn hm (Nat.le_trans hS2 (Nat.pow_le_pow_right (by omega) (by omega)))
  obtain ⟨n0, n1⟩ := sq_bound hn
  obtain ⟨m0, m1⟩ := sq_bound hm
  have hr3 : r.natAbs ≤ 3 * (S * S) := by omega
  obtain ⟨M, s, g1, g2, g3, g4⟩ := DyV.root' h1 (by omega) h2 (by
    have h5 : 2 ^ (2 * d + 60) = 2 ^ (2 * d) * 2 ^ 60 := by rw [← Nat.pow_add]
    have h6 := Nat.two_pow_pos (2 * d)
    rw [h5]
    clear n1 m1 h1 h3 h4
    generalize 2 ^ (2 * d) = Q at *
    omega)
  have hMM := root_le M s r.natAbs (S * S) g3 hr3
  have hM : M ≤ 2 ^ 61 * S := sq_le_of (by
    rw [Nat.mul_mul_mul_comm]
    rw [show (2 : Nat) ^ 61 * 2 ^ 61 = 4 * 2 ^ 120 by decide]
    exact hMM)
  have g5 := g2.e64
  clear h3 h4 n1 m1 hMM g3 g4 g2
  exact narrow_small g1 (by
    rw [Nat.pow_add]
    generalize 2 ^ d = Q at *
    rw [Nat.mul_comm s]
    omega)
end Go.Proofs.Ytljclagfplildaa
end

section
set_option linter.unusedSimpArgs false
set_option linter.unusedVariables false
set_option maxRecDepth 20000
namespace Go.Proofs.Ytljclagfplildaa
open Go Go.RowKit Go.Proofs.Ytljclagfplildaa.Fl

theorem near_m (P r M B C D : Int) (h1 : 4503599627370496 * (r - P) ≤ B) (h2 : -B ≤ 4503599627370496 * (r - P)) (h3 : 4503599627370496 * M ≤ 4503599627370497 * (C * r)) (h4 : 4503599627370496 * (C * r) ≤ 4503599627370497 * M) (hP : P ≤ 2 * B) (hB : 0 ≤ B)
    (hCr : 4503599627370496 * (C * r - C * P) ≤ C * B) (hCr2 : -(C * B) ≤ 4503599627370496 * (C * r - C * P)) (hCP : C * P ≤ 2 * (C * B)) (hCB : C * B = 4503599627370496 * D) : M ≤ C * P + 5 * D ∧ C * P ≤ M + 9 * D := by
  generalize C * P = CP at *
  generalize C * r = CR at *
  generalize C * B = CB at *
  omega

theorem len_dy {u v S : Nat} {n m : Int} (hu : Dy .f32 53 u n) (hv : Dy .f32 53 v m) (hn : n.natAbs ≤ S) (hm : m.natAbs ≤ S) (hS : S ≤ 2 ^ 54) :
    ∃ (l t a M : Nat), LongV u v l ∧ fcv .f32 .f64 (vl .f32 l) = some t ∧ Dy .f64 113 t (a : Int) ∧ (4194304 * a ≤ 4194305 * M ∧ 4194303 * M ≤ 4194304 * a) ∧ M ≤ 2 ^ 116 ∧
      ((M * M : Nat) : Int) ≤ 2 ^ 120 * (n * n + m * m) + 2 ^ 182 ∧ 2 ^ 120 * (n * n + m * m) ≤ ((M * M : Nat) : Int) + 2 ^ 182 := by
  have hSS : S * S ≤ 2 ^ 108 := by
    have := Nat.mul_le_mul hS hS
    rwa [← Nat.pow_add] at this
  obtain ⟨r, h1, h2, h3, h4⟩ := power_dy (d := 53) hu hv (by omega) hn hm (Nat.le_trans hSS (by decide))
  obtain ⟨n0, n1⟩ := sq_bound hn
  obtain ⟨m0, m1⟩ := sq_bound hm
  have hr3 : r.natAbs ≤ 3 * (S * S) := by omega
  obtain ⟨M, s, g1, g2, g3, g4⟩ := DyV.root' h1 (by omega) h2 (by
    clear n1 m1 h1 h3 h4
    refine Nat.lt_of_le_of_lt (Nat.le_trans hr3 (Nat.mul_le_mul_left 3 hSS)) (by decide))
  have hMM := root_le M s r.natAbs (S * S) g3 hr3
  have hM : M ≤ 2 ^ 61 * S := sq_le_of (by
    rw [Nat.mul_mul_mul_comm]
    rw [show (2 : Nat) ^ 61 * 2 ^ 61 = 4 * 2 ^ 120 by decide]
    exact hMM)
  have g5 := g2.e64
  have hM2 : M ≤ 2 ^ 115 := Nat.le_trans hM (Nat.le_trans (Nat.mul_le_mul_left _ hS) (by decide))
  clear hM hMM g2
  obtain ⟨a, ⟨l, k1, k2⟩, fa, oa⟩ := g1.narrow' (by omega) (by
    rw [Int.natAbs_natCast]
    have : s ≤ 2 ^ 116 := by omega
    exact Nat.lt_of_le_of_lt this (by decide))
  have fa := fa.e32
  obtain ⟨t, w1, w2⟩ := DyV.widen (DyV.of k2)
  have ha0 : 0 ≤ a := by omega
  obtain ⟨a, rfl⟩ : ∃ b : Nat, a = b := ⟨a.toNat, by omega⟩
  refine ⟨l, t, a, M, ⟨oa, k1⟩, w1, w2, ⟨by omega, by omega⟩, by omega, ?_⟩
  obtain ⟨R, rfl⟩ : ∃ R : Nat, r = R := ⟨r.toNat, by omega⟩
  rw [Int.natAbs_natCast, Nat.mul_comm (M * M), Nat.mul_comm R] at g3
  rw [Int.natAbs_natCast, Nat.mul_comm _ 4503599627370496, Nat.mul_comm R] at g4
  have g3' : 4503599627370496 * ((M * M : Nat) : Int) ≤ 4503599627370497 * (2 ^ 120 * (R : Int)) := by
    clear g4 h1 hr3 h3 h4 n1 m1
    generalize M * M = MM at *
    omega
  have g4' : 4503599627370496 * (2 ^ 120 * (R : Int)) ≤ 4503599627370497 * ((M * M : Nat) : Int) := by
    clear g3 g3' h1 hr3 h3 h4 n1 m1
    generalize M * M = MM at *
    omega
  have hS3 : 4 * ((S * S : Nat) : Int) ≤ 2 ^ 110 := by omega
  clear g3 g4 g5 fa k1 k2 oa w1 w2 g1 h1 hr3 hM2 hS hu hv hn hm
  have hP : n * n + m * m ≤ 2 * 2 ^ 110 := by omega
  have key := near_m (n * n + m * m) (R : Int) ((M * M : Nat) : Int) (2 ^ 110) (2 ^ 120) (2 ^ 178) (by omega) (by omega) g3' g4' hP (by decide) (by
      have := Int.mul_le_mul_of_nonneg_left (c := (2 : Int) ^ 120) (show 4503599627370496 * ((R : Int) - (n * n + m * m)) ≤ 2 ^ 110 by omega) (by decide)
      rw [Int.mul_left_comm, Int.mul_sub] at this
      exact this) (by
      have := Int.mul_le_mul_of_nonneg_left (c := (2 : Int) ^ 120) (show -(2 ^ 110) ≤ 4503599627370496 * ((R : Int) - (n * n + m * m)) by omega) (by decide)
      rw [Int.mul_left_comm, Int.mul_sub, Int.mul_neg] at this
      exact this) (by
      have := Int.mul_le_mul_of_nonneg_left (c := (2 : Int) ^ 120) hP (by decide)
      rw [Int.mul_left_comm] at this
      exact this) (by decide)
  generalize 2 ^ 120 * (n * n + m * m) = CP at *
  omega

/-- One length is not more than the other one and a little. -/
theorem gap_core (a b Ma Mb : Nat) (Pu Pv X : Int) (a1 : 4194304 * a ≤ 4194305 * Ma) (a2 : 4194303 * Ma ≤ 4194304 * a) (b1 : 4194304 * b ≤ 4194305 * Mb) (b2 : 4194303 * Mb ≤ 4194304 * b) (Ma1 : Ma ≤ 2 ^ 116) (Mb1 : Mb ≤ 2 ^ 116)
    (u1 : ((Ma * Ma : Nat) : Int) ≤ 2 ^ 120 * Pu + 2 ^ 182) (v2 : 2 ^ 120 * Pv ≤ ((Mb * Mb : Nat) : Int) + 2 ^ 182) (hX : Pu - Pv ≤ X)
    (h : (2 ^ 107 ≤ a ∧ X ≤ 800000000000000000000000000) ∨ X ≤ 40000000000000000000000000) : a ≤ b + 2 ^ 103 := by
  rcases Nat.lt_or_ge (b + 2 ^ 103) a with hlt | hle
  · exfalso
    -- the sum of both, and its square
    have e1 : ((Ma * Ma : Nat) : Int) - ((Mb * Mb : Nat) : Int) = ((Ma : Int) - Mb) * (Ma + Mb) := by
      rw [Int.natCast_mul, Int.natCast_mul, Int.sub_mul, Int.mul_add, Int.mul_add, Int.mul_comm (Mb : Int) Ma]; omega
    have e2 : 4194304 * ((Ma : Int) - Mb) + (Ma + Mb) ≥ 2 ^ 125 := by omega
    have e3 : 0 ≤ (Ma : Int) + Mb := by omega
    have e4 := Int.mul_le_mul_of_nonneg_right e2 e3
    rw [Int.add_mul, Int.mul_assoc, ← e1] at e4
    have e5 : ((Ma : Int) + Mb) * (Ma + Mb) ≤ 2 ^ 117 * (Ma + Mb) := Int.mul_le_mul_of_nonneg_right (by omega) e3
    generalize ((Ma * Ma : Nat) : Int) = aa at *
    generalize ((Mb * Mb : Nat) : Int) = bb at *
    generalize ((Ma : Int) + Mb) * (Ma + Mb) = ss at *
    clear e1
    omega
  · exact hle

theorem c001_dy : Dy .f64 62 c001 4611686018427388 := by decide +kernel
theorem c001_113 : Dy .f64 113 c001 (4611686018427388 * 2251799813685248) := c001_dy.finer 51
/-- The difference of two nearly equal lengths is less than a thousandth. -/
theorem gap_less {t1 t2 a b : Nat} (h1 : Dy .f64 113 t1 (a : Int)) (h2 : Dy .f64 113 t2 (b : Int)) (ha : a ≤ b + 2 ^ 103) (hb : b ≤ a + 2 ^ 103) :
    ∃ x, fop .sub .f64 (vl .f64 t1) (vl .f64 t2) = some x ∧ rung .f64 x < FloatKind.f64.format.infRung ∧ FloatKind.f64.format.order x c001 = some .lt := by
  have hb64 : bias .f64 = 1023 := rfl
  obtain ⟨n, ⟨x, k1, k2⟩, k3⟩ := DyV.sub' (DyV.of h1) (DyV.of h2) (by omega) (by
    have : ((a : Int) - b).natAbs ≤ 2 ^ 103 := by omega
    exact Nat.lt_of_le_of_lt this (by decide))
  obtain ⟨c1, c2⟩ := off64 (X := 2 ^ 103) k3 (by omega) (by omega)
  refine ⟨x, k1, k2.1, ?_⟩
  rw [dy_order k2 c001_113]
  congr 1
  exact Int.compare_eq_lt.2 (by omega)

/-- Powers of two numbers of which one is nearly the other one turned. -/
theorem turned_power (K U0 U1 V0 V1 E H : Int) (hK : K = 14529495 ∨ K = -14529495) (hE : 0 ≤ E) (hH : 0 ≤ H)
    (h0 : Nr (16777216 * U0) (-8388608 * V0 - K * V1) E) (h1 : Nr (16777216 * U1) (-8388608 * V1 + K * V0) E)
    (hU : (-H ≤ U0 ∧ U0 ≤ H) ∧ (-H ≤ U1 ∧ U1 ≤ H) ∨ (-H ≤ V0 ∧ V0 ≤ H) ∧ (-H ≤ V1 ∧ V1 ≤ H)) :
    281474976710656 * (U0 * U0 + U1 * U1) ≤ 281474969132689 * (V0 * V0 + V1 * V1) + 2 * (E * (45836206 * H + E)) ∧
    281474969132689 * (V0 * V0 + V1 * V1) ≤ 281474976710656 * (U0 * U0 + U1 * U1) + 2 * (E * (45836206 * H + E)) := by
  unfold Nr at h0 h1
  have key : ∀ x w : Int, w - E ≤ x → x ≤ w + E → (-(22918103 * H) ≤ x ∧ x ≤ 22918103 * H ∨ -(22918103 * H) ≤ w ∧ w ≤ 22918103 * H) → x * x ≤ w * w + E * (45836206 * H + E) ∧ w * w ≤ x * x + E * (45836206 * H + E) := by
    intro x w l1 l2 hb
    have e1 : x * x - w * w = (x - w) * (x + w) := by
      rw [Int.sub_mul, Int.mul_add, Int.mul_add, Int.mul_comm w x]; omega
    have e2 : ((x - w) * (x + w)).natAbs ≤ E.toNat * (45836206 * H + E).toNat := natAbs_mul_le (by omega) (by omega)
    have e3 : ((E.toNat * (45836206 * H + E).toNat : Nat) : Int) = E * (45836206 * H + E) := by
      rw [Int.natCast_mul]
      congr 1
      · omega
      · omega
    rw [← e1] at e2
    rw [← e3]
    generalize E.toNat * (45836206 * H + E).toNat = T at *
    generalize x * x = xx at *
    generalize w * w = ww at *
    clear e1 e3
    omega
  have hKs : K * K = 211106224955025 := by rcases hK with rfl | rfl <;> decide
  have q0 := key (16777216 * U0) (-8388608 * V0 - K * V1) h0.1 h0.2 (by
    rcases hU with ⟨p0, p1⟩ | ⟨p0, p1⟩
    · left; omega
    · right; rcases hK with rfl | rfl <;> omega)
  have q1 := key (16777216 * U1) (-8388608 * V1 + K * V0) h1.1 h1.2 (by
    rcases hU with ⟨p0, p1⟩ | ⟨p0, p1⟩
    · left; omega
    · right; rcases hK with rfl | rfl <;> omega)
  have s0 : 16777216 * U0 * (16777216 * U0) = 281474976710656 * (U0 * U0) := by rw [Int.mul_assoc, Int.mul_left_comm U0, ← Int.mul_assoc]; omega
  have s1 : 16777216 * U1 * (16777216 * U1) = 281474976710656 * (U1 * U1) := by rw [Int.mul_assoc, Int.mul_left_comm U1, ← Int.mul_assoc]; omega
  have s2 : (-8388608 * V0 - K * V1) * (-8388608 * V0 - K * V1) + (-8388608 * V1 + K * V0) * (-8388608 * V1 + K * V0) = 281474969132689 * (V0 * V0 + V1 * V1) := by
    rcases hK with rfl | rfl <;> grind
  rw [s0] at q0
  rw [s1] at q1
  clear s0 s1 key hKs
  generalize (-8388608 * V0 - K * V1) * (-8388608 * V0 - K * V1) = w0 at *
  generalize (-8388608 * V1 + K * V0) * (-8388608 * V1 + K * V0) = w1 at *
  generalize E * (45836206 * H + E) = F at *
  clear h0 h1 hU hK
  omega

theorem sq_abs (n : Int) : n * n = ((n.natAbs * n.natAbs : Nat) : Int) := by rw [Int.natCast_mul]; exact (Int.natAbs_mul_self' n).symm
/-- A short number has small parts. -/
theorem short_parts (a M : Nat) (n m : Int) (ha : a < 2 ^ 107) (h2 : 4194303 * M ≤ 4194304 * a) (h : 2 ^ 120 * (n * n + m * m) ≤ ((M * M : Nat) : Int) + 2 ^ 182) :
    (-(200000000000000 : Int) ≤ n ∧ n ≤ 200000000000000) ∧ (-(200000000000000 : Int) ≤ m ∧ m ≤ 200000000000000) := by
  have hM : M ≤ 2 ^ 107 + 2 ^ 86 := by omega
  have hMM : M * M ≤ (2 ^ 107 + 2 ^ 86) * (2 ^ 107 + 2 ^ 86) := Nat.mul_le_mul hM hM
  have hc : (2 ^ 107 + 2 ^ 86) * (2 ^ 107 + 2 ^ 86) ≤ 2 ^ 120 * (2 ^ 94 + 2 ^ 80) := by decide
  rw [sq_abs n, sq_abs m] at h
  have hn : n.natAbs ≤ 200000000000000 := sq_le_of (by
    refine Nat.le_trans ?_ (show 2 ^ 95 ≤ 200000000000000 * 200000000000000 by decide)
    generalize n.natAbs * n.natAbs = nn at *
    generalize m.natAbs * m.natAbs = mm at *
    generalize M * M = MM at *
    omega)
  have hm : m.natAbs ≤ 200000000000000 := sq_le_of (by
    refine Nat.le_trans ?_ (show 2 ^ 95 ≤ 200000000000000 * 200000000000000 by decide)
    generalize n.natAbs * n.natAbs = nn at *
    generalize m.natAbs * m.natAbs = mm at *
    generalize M * M = MM at *
    omega)
  omega

theorem gap_any (K : Int) {u0 u1 v0 v1 : Nat} {U0 U1 V0 V1 : Int} (hK : K = 14529495 ∨ K = -14529495) (du0 : Dy .f32 53 u0 U0) (du1 : Dy .f32 53 u1 U1) (dv0 : Dy .f32 53 v0 V0) (dv1 : Dy .f32 53 v1 V1)
    (bU0 : U0.natAbs ≤ 12000000000000000) (bU1 : U1.natAbs ≤ 12000000000000000) (bV0 : V0.natAbs ≤ 12000000000000000) (bV1 : V1.natAbs ≤ 12000000000000000)
    (h0 : Nr (16777216 * U0) (-8388608 * V0 - K * V1) 190000000000000000) (h1 : Nr (16777216 * U1) (-8388608 * V1 + K * V0) 190000000000000000) :
    ∃ lu tu lv tv x y, LongV u0 u1 lu ∧ fcv .f32 .f64 (vl .f32 lu) = some tu ∧ LongV v0 v1 lv ∧ fcv .f32 .f64 (vl .f32 lv) = some tv ∧
      (fop .sub .f64 (vl .f64 tu) (vl .f64 tv) = some x ∧ rung .f64 x < FloatKind.f64.format.infRung ∧ FloatKind.f64.format.order x c001 = some .lt) ∧
      (fop .sub .f64 (vl .f64 tv) (vl .f64 tu) = some y ∧ rung .f64 y < FloatKind.f64.format.infRung ∧ FloatKind.f64.format.order y c001 = some .lt) := by
  obtain ⟨lu, tu, a, Ma, g1, g2, g3, ⟨a1, a2⟩, a3, a4, a5⟩ := len_dy du0 du1 bU0 bU1 (by decide)
  obtain ⟨lv, tv, b, Mb, f1, f2, f3, ⟨b1, b2⟩, b3, b4, b5⟩ := len_dy dv0 dv1 bV0 bV1 (by decide)
  have big := turned_power K U0 U1 V0 V1 190000000000000000 12000000000000000 hK (by decide) (by decide) h0 h1 (.inl ⟨by omega, by omega⟩)
  have sV0 := (sq_bound bV0)
  have sV1 := (sq_bound bV1)
  have hab : a ≤ b + 2 ^ 103 := by
    refine gap_core a b Ma Mb (U0 * U0 + U1 * U1) (V0 * V0 + V1 * V1) (U0 * U0 + U1 * U1 - (V0 * V0 + V1 * V1)) a1 a2 b1 b2 a3 b3 a4 b5 (Int.le_refl _) ?_
    rcases Nat.lt_or_ge a (2 ^ 107) with hs | hb
    · right
      obtain ⟨p0, p1⟩ := short_parts a Ma U0 U1 hs a2 a5
      have sm := turned_power K U0 U1 V0 V1 190000000000000000 200000000000000 hK (by decide) (by decide) h0 h1 (.inl ⟨p0, p1⟩)
      clear big a4 a5 b4 b5 h0 h1
      generalize U0 * U0 + U1 * U1 = Pu at *
      omega
    · left
      refine ⟨hb, ?_⟩
      clear a4 a5 b4 b5 h0 h1
      generalize U0 * U0 + U1 * U1 = Pu at *
      omega
  have hba : b ≤ a + 2 ^ 103 := by
    refine gap_core b a Mb Ma (V0 * V0 + V1 * V1) (U0 * U0 + U1 * U1) (V0 * V0 + V1 * V1 - (U0 * U0 + U1 * U1)) b1 b2 a1 a2 b3 a3 b4 a5 (Int.le_refl _) ?_
    rcases Nat.lt_or_ge b (2 ^ 107) with hs | hb
    · right
      obtain ⟨p0, p1⟩ := short_parts b Mb V0 V1 hs b2 b5
      have sm := turned_power K U0 U1 V0 V1 190000000000000000 200000000000000 hK (by decide) (by decide) h0 h1 (.inr ⟨p0, p1⟩)
      have t0 := (sq_bound (S := 200000000000000) (show V0.natAbs ≤ 200000000000000 by omega)).2
      have t1 := (sq_bound (S := 200000000000000) (show V1.natAbs ≤ 200000000000000 by omega)).2
      clear big a4 a5 b4 b5 h0 h1 sV0 sV1
      generalize U0 * U0 + U1 * U1 = Pu at *
      generalize V0 * V0 = x0 at *
      generalize V1 * V1 = x1 at *
      omega
    · left
      refine ⟨hb, ?_⟩
      obtain ⟨_, t0⟩ := sV0
      obtain ⟨_, t1⟩ := sV1
      clear a4 a5 b4 b5 h0 h1
      generalize U0 * U0 + U1 * U1 = Pu at *
      generalize V0 * V0 = x0 at *
      generalize V1 * V1 = x1 at *
      omega
  obtain ⟨x, x1, x2, x3⟩ := gap_less g3 f3 hab hba
  obtain ⟨y, y1, y2, y3⟩ := gap_less f3 g3 hba hab
  exact ⟨lu, tu, lv, tv, x, y, g1, g2, f1, f2, ⟨x1, x2, x3⟩, ⟨y1, y2, y3⟩⟩
end Go.Proofs.Ytljclagfplildaa
end

section
set_option linter.unusedSimpArgs false
set_option linter.unusedVariables false
set_option maxRecDepth 20000
namespace Go.Proofs.Ytljclagfplildaa
open Go Go.RowKit Go.Proofs.Ytljclagfplildaa.Fl

theorem apartN {d a b c e : Nat} {A B C D : Int} (S : Nat) (ha : Dy .f32 d a A) (hb : Dy .f32 d b B) (hc : Dy .f32 d c C) (he : Dy .f32 d e D) (hd : d ≤ 100)
    (h1 : -(S : Int) ≤ A - C ∧ A - C ≤ S) (h2 : -(S : Int) ≤ B - D ∧ B - D ≤ S) (hS : 16384 * S ≤ 2 ^ d) : ∃ t, ApartV a b c e t ∧ FloatKind.f64.format.order t c001 = some .lt := by
  obtain ⟨u, n, k1, k2, k3, k4⟩ := subN S ha hc hd (by omega) (by omega) (by omega)
  obtain ⟨v, m, k5, k6, k7, k8⟩ := subN S hb he hd (by omega) (by omega) (by omega)
  obtain ⟨l, t, g1, g2, g3⟩ := long_small (S := 2 * S) k2 k6 (by omega) (by omega) (by omega) (by omega)
  exact ⟨t, ⟨u, v, l, k1, k5, g1, g2⟩, g3⟩

def nextP (p : Nat → Nat) : Nat → Nat := fun j => [p 4, p 5, p 0, p 1, p 2, p 3].getD j 0
def nextI (P : Nat → Int) : Nat → Int := fun j => [P 4, P 5, P 0, P 1, P 2, P 3].getD j 0
theorem Six.next {d M : Nat} {p : Nat → Nat} {P : Nat → Int} (h : Six d p P M) : Six d (nextP p) (nextI P) M := by
  intro j hj
  obtain rfl | rfl | rfl | rfl | rfl | rfl : j = 0 ∨ j = 1 ∨ j = 2 ∨ j = 3 ∨ j = 4 ∨ j = 5 := by omega
  · exact h 4 (by omega)
  · exact h 5 (by omega)
  · exact h 0 (by omega)
  · exact h 1 (by omega)
  · exact h 2 (by omega)
  · exact h 3 (by omega)

def r8PI (x y z : Nat) : Nat → Int := fun j => if j = 0 then r8A x else if j = 1 then r8B x else if j = 2 then r8A y else if j = 3 then r8B y else if j = 4 then r8A z else r8B z
theorem r8_abs : ∀ c, c < 256 → (-16 ≤ r8A c ∧ r8A c ≤ 16) ∧ (-16 ≤ r8B c ∧ r8B c ≤ 16) := by decide +kernel
theorem six_r8 {x y z : Nat} (hx : x < 256) (hy : y < 256) (hz : z < 256) : Six 4 (r8P x y z) (r8PI x y z) 16 := by
  intro j hj
  obtain rfl | rfl | rfl | rfl | rfl | rfl : j = 0 ∨ j = 1 ∨ j = 2 ∨ j = 3 ∨ j = 4 ∨ j = 5 := by omega
  · exact ⟨(r8_ok x hx).2.2.1, (r8_abs x hx).1⟩
  · exact ⟨(r8_ok x hx).2.2.2, (r8_abs x hx).2⟩
  · exact ⟨(r8_ok y hy).2.2.1, (r8_abs y hy).1⟩
  · exact ⟨(r8_ok y hy).2.2.2, (r8_abs y hy).2⟩
  · exact ⟨(r8_ok z hz).2.2.1, (r8_abs z hz).1⟩
  · exact ⟨(r8_ok z hz).2.2.2, (r8_abs z hz).2⟩
theorem fine49 {b : Nat} {n : Int} (h : Dy .f32 4 b n) : Dy .f32 53 b (562949953421312 * n) := by
  have h1 := h.finer 49
  rw [show n * ((2 ^ 49 : Nat) : Int) = 562949953421312 * n by omega] at h1
  exact h1
theorem fine73 {b : Nat} {n : Int} (h : Dy .f32 4 b n) : Dy .f32 77 b (9444732965739290427392 * n) := by
  have h1 := h.finer 73
  rw [show n * ((2 ^ 73 : Nat) : Int) = 9444732965739290427392 * n by omega] at h1
  exact h1

/-- The parts of small phases. -/
theorem parts16 {p : Nat → Nat} {P : Nat → Int} (h : Six 4 p P 16) : ∃ (q : Nat → Nat) (Q : Nat → Int), PartsV p q ∧ Six 53 q Q 12000000000000000 ∧
    (Nr (Q 0) (11184811 * zR P) 4496294022 ∧ Nr (Q 1) (11184811 * zI P) 4496294022) ∧ (Nr (Q 2) (11184811 * tR false P) 4496294022 ∧ Nr (Q 3) (11184811 * tI false P) 4496294022) ∧
    (Nr (Q 4) (11184811 * tR true P) 4496294022 ∧ Nr (Q 5) (11184811 * tI true P) 4496294022) := by
  obtain ⟨q, Q, h1, h2, a0, a1, a2, a3, a4, a5⟩ := partsN h (by omega) (by decide) (by omega)
  have b0 := (h 0 (by omega)).2; have b1 := (h 1 (by omega)).2; have b2 := (h 2 (by omega)).2; have b3 := (h 3 (by omega)).2; have b4 := (h 4 (by omega)).2; have b5 := (h 5 (by omega)).2
  refine ⟨q, Q, h1, ?_, ⟨a0, a1⟩, ⟨a2, a3⟩, ⟨a4, a5⟩⟩
  intro j hj
  refine ⟨h2 j hj, ?_⟩
  clear h1 h2 h
  unfold Nr zR zI tR tI at *
  simp only [thK, Bool.false_eq_true, if_false, if_true] at *
  obtain rfl | rfl | rfl | rfl | rfl | rfl : j = 0 ∨ j = 1 ∨ j = 2 ∨ j = 3 ∨ j = 4 ∨ j = 5 := by omega
  all_goals omega

/-- They lead back. -/
theorem back16 {p q : Nat → Nat} {P Q : Nat → Int} (hp : Six 4 p P 16) (h : Six 53 q Q 12000000000000000)
    (a0 : Nr (Q 0) (11184811 * zR P) 4496294022 ∧ Nr (Q 1) (11184811 * zI P) 4496294022) (a1 : Nr (Q 2) (11184811 * tR false P) 4496294022 ∧ Nr (Q 3) (11184811 * tI false P) 4496294022) (a2 : Nr (Q 4) (11184811 * tR true P) 4496294022 ∧ Nr (Q 5) (11184811 * tI true P) 4496294022) :
    ∃ (b : Nat → Nat), PhasesV q b ∧ (∃ t, ApartV (b 0) (b 1) (p 0) (p 1) t ∧ FloatKind.f64.format.order t c001 = some .lt) ∧ (∃ t, ApartV (b 2) (b 3) (p 2) (p 3) t ∧ FloatKind.f64.format.order t c001 = some .lt) ∧
      (∃ t, ApartV (b 4) (b 5) (p 4) (p 5) t ∧ FloatKind.f64.format.order t c001 = some .lt) := by
  obtain ⟨r0, r1, n0, n1, v0, e0, e1, c0, c1⟩ := plainN h (by omega) (by decide) (by omega)
  obtain ⟨s0, s1, m0, m1, w0, f0, f1, k0, k1⟩ := turnN true h (by omega) (by decide) (by omega)
  obtain ⟨t0, t1, l0, l1, w1, g0, g1, i0, i1⟩ := turnN false h (by omega) (by decide) (by omega)
  have b0 := (hp 0 (by omega)).2; have b1 := (hp 1 (by omega)).2; have b2 := (hp 2 (by omega)).2; have b3 := (hp 3 (by omega)).2; have b4 := (hp 4 (by omega)).2; have b5 := (hp 5 (by omega)).2
  have d0 := fine49 (hp 0 (by omega)).1; have d1 := fine49 (hp 1 (by omega)).1; have d2 := fine73 (hp 2 (by omega)).1; have d3 := fine73 (hp 3 (by omega)).1; have d4 := fine73 (hp 4 (by omega)).1; have d5 := fine73 (hp 5 (by omega)).1
  clear hp h
  unfold Nr zR zI tR tI at *
  simp only [thK, Bool.false_eq_true, if_false, if_true] at *
  refine ⟨fun j => [r0, r1, s0, s1, t0, t1].getD j 0, ⟨v0, w0, w1⟩, ?_, ?_, ?_⟩
  · exact apartN 100000000000 e0 e1 d0 d1 (by omega) (by omega) (by omega) (by decide)
  · exact apartN 1000000000000000000 f0 f1 d2 d3 (by omega) (by omega) (by omega) (by decide)
  · exact apartN 1000000000000000000 g0 g1 d4 d5 (by omega) (by omega) (by omega) (by decide)
end Go.Proofs.Ytljclagfplildaa
end

section
set_option linter.unusedSimpArgs false
set_option linter.unusedVariables false
set_option maxRecDepth 20000
namespace Go.Proofs.Ytljclagfplildaa
open Go Go.RowKit Go.Proofs.Ytljclagfplildaa.Fl

/-- Two lengths, in 64 bits, and that their gap is small. -/
def GapV (a b c d : Nat) (ta tb : Nat) : Prop := ∃ la lb x y, LongV a b la ∧ fcv .f32 .f64 (vl .f32 la) = some ta ∧ LongV c d lb ∧ fcv .f32 .f64 (vl .f32 lb) = some tb ∧
  (fop .sub .f64 (vl .f64 ta) (vl .f64 tb) = some x ∧ rung .f64 x < FloatKind.f64.format.infRung ∧ FloatKind.f64.format.order x c001 = some .lt) ∧
  (fop .sub .f64 (vl .f64 tb) (vl .f64 ta) = some y ∧ rung .f64 y < FloatKind.f64.format.infRung ∧ FloatKind.f64.format.order y c001 = some .lt)

theorem next16 {p q : Nat → Nat} {P Q : Nat → Int} (hp : Six 4 p P 16) (h : Six 53 q Q 12000000000000000)
    (a0 : Nr (Q 0) (11184811 * zR P) 4496294022 ∧ Nr (Q 1) (11184811 * zI P) 4496294022) (a1 : Nr (Q 2) (11184811 * tR false P) 4496294022 ∧ Nr (Q 3) (11184811 * tI false P) 4496294022) (a2 : Nr (Q 4) (11184811 * tR true P) 4496294022 ∧ Nr (Q 5) (11184811 * tI true P) 4496294022) :
    ∃ (r : Nat → Nat), PartsV (nextP p) r ∧ (∃ t, ApartV (r 0) (r 1) (q 0) (q 1) t ∧ FloatKind.f64.format.order t c001 = some .lt) ∧ (∃ s t, GapV (r 2) (r 3) (q 2) (q 3) s t) ∧ (∃ s t, GapV (r 4) (r 5) (q 4) (q 5) s t) := by
  obtain ⟨r, R, g, hr, c0, c1, c2⟩ := parts16 hp.next
  have b0 := (hp 0 (by omega)).2; have b1 := (hp 1 (by omega)).2; have b2 := (hp 2 (by omega)).2; have b3 := (hp 3 (by omega)).2; have b4 := (hp 4 (by omega)).2; have b5 := (hp 5 (by omega)).2
  have eR : zR (nextI P) = zR P ∧ zI (nextI P) = zI P := by
    unfold zR zI nextI
    simp only [List.getD_cons_zero, List.getD_cons_succ]
    omega
  have eF : ∀ g, tR g (nextI P) = 16777216 * P 4 + (-8388608 * P 0 - thK g * P 1) + (-8388608 * P 2 + thK g * P 3) ∧ tI g (nextI P) = 16777216 * P 5 + (-8388608 * P 1 + thK g * P 0) + (-8388608 * P 3 - thK g * P 2) := fun g => ⟨rfl, rfl⟩
  rw [(eF false).1, (eF false).2] at c1
  rw [(eF true).1, (eF true).2] at c2
  rw [eR.1, eR.2] at c0
  clear hp eF eR
  refine ⟨r, g, ?_, ?_, ?_⟩
  · refine apartN 100000000000 (hr 0 (by omega)).1 (hr 1 (by omega)).1 (h 0 (by omega)).1 (h 1 (by omega)).1 (by omega) ?_ ?_ (by decide)
    · clear h hr g
      unfold Nr at *; omega
    · clear h hr g
      unfold Nr at *; omega
  · have G := gap_any 14529495 (.inl rfl) (hr 2 (by omega)).1 (hr 3 (by omega)).1 (h 2 (by omega)).1 (h 3 (by omega)).1 (abs_of (hr 2 (by omega)).2) (abs_of (hr 3 (by omega)).2) (abs_of (h 2 (by omega)).2) (abs_of (h 3 (by omega)).2)
      (by
        clear h hr g
        unfold Nr tR tI at *
        simp only [thK, Bool.false_eq_true, if_false, if_true] at *
        omega) (by
        clear h hr g
        unfold Nr tR tI at *
        simp only [thK, Bool.false_eq_true, if_false, if_true] at *
        omega)
    obtain ⟨lu, tu, lv, tv, x, y, G⟩ := G
    exact ⟨tu, tv, lu, lv, x, y, G⟩
  · have G := gap_any (-14529495) (.inr rfl) (hr 4 (by omega)).1 (hr 5 (by omega)).1 (h 4 (by omega)).1 (h 5 (by omega)).1 (abs_of (hr 4 (by omega)).2) (abs_of (hr 5 (by omega)).2) (abs_of (h 4 (by omega)).2) (abs_of (h 5 (by omega)).2)
      (by
        clear h hr g
        unfold Nr tR tI at *
        simp only [thK, Bool.false_eq_true, if_false, if_true] at *
        omega) (by
        clear h hr g
        unfold Nr tR tI at *
        simp only [thK, Bool.false_eq_true, if_false, if_true] at *
        omega)
    obtain ⟨lu, tu, lv, tv, x, y, G⟩ := G
    exact ⟨tu, tv, lu, lv, x, y, G⟩

/-- Even phases of a number. -/
def EvenV (a b : Nat) (e : Nat → Nat) : Prop := e 0 = a ∧ e 1 = b ∧ MulV a b 3204448256 (thI true) (e 2) (e 3) ∧ MulV a b 3204448256 (thI false) (e 4) (e 5)
theorem even16 {c : Nat} (hc : c < 256) : ∃ (e q : Nat → Nat), EvenV (r8re c) (r8im c) e ∧ PartsV e q ∧ (∃ t, ApartV (q 2) (q 3) (r8re c) (r8im c) t ∧ FloatKind.f64.format.order t c001 = some .lt) ∧
    (∃ t, ApartV (q 0) (q 1) 0 0 t ∧ FloatKind.f64.format.order t c001 = some .lt) ∧ (∃ t, ApartV (q 4) (q 5) 0 0 t ∧ FloatKind.f64.format.order t c001 = some .lt) := by
  have dA := (r8_ok c hc).2.2.1
  have dB := (r8_ok c hc).2.2.2
  obtain ⟨bA, bB⟩ := r8_abs c hc
  obtain ⟨e2, e3, E2, E3, m1, f2, f3, n2, n3⟩ := mulM 16 dA dB dy_phr (dy_phi true) (by omega) (abs_of bA) (abs_of bB) (by decide) (by decide) (by decide)
  obtain ⟨e4, e5, E4, E5, m2, f4, f5, n4, n5⟩ := mulM 16 dA dB dy_phr (dy_phi false) (by omega) (abs_of bA) (abs_of bB) (by decide) (by decide) (by decide)
  have gA := finer24 dA
  have gB := finer24 dB
  have hA := fine73 dA
  have hB := fine73 dB
  generalize r8A c = A at *
  generalize r8B c = B at *
  unfold Nr at n2 n3 n4 n5
  simp only [thK, Bool.false_eq_true, if_false, if_true] at n2 n3 n4 n5
  have S6 : Six 28 (fun j => [r8re c, r8im c, e2, e3, e4, e5].getD j 0) (fun j => [16777216 * A, 16777216 * B, E2, E3, E4, E5].getD j 0) 500000000 := by
    intro j hj
    obtain rfl | rfl | rfl | rfl | rfl | rfl : j = 0 ∨ j = 1 ∨ j = 2 ∨ j = 3 ∨ j = 4 ∨ j = 5 := by omega
    · exact ⟨gA, by show -((500000000 : Nat) : Int) ≤ 16777216 * A ∧ 16777216 * A ≤ ((500000000 : Nat) : Int); omega⟩
    · exact ⟨gB, by show -((500000000 : Nat) : Int) ≤ 16777216 * B ∧ 16777216 * B ≤ ((500000000 : Nat) : Int); omega⟩
    · exact ⟨f2, by show -((500000000 : Nat) : Int) ≤ E2 ∧ E2 ≤ ((500000000 : Nat) : Int); omega⟩
    · exact ⟨f3, by show -((500000000 : Nat) : Int) ≤ E3 ∧ E3 ≤ ((500000000 : Nat) : Int); omega⟩
    · exact ⟨f4, by show -((500000000 : Nat) : Int) ≤ E4 ∧ E4 ≤ ((500000000 : Nat) : Int); omega⟩
    · exact ⟨f5, by show -((500000000 : Nat) : Int) ≤ E5 ∧ E5 ≤ ((500000000 : Nat) : Int); omega⟩
  obtain ⟨q, Q, h1, h2, a0, a1, a2, a3, a4, a5⟩ := partsN S6 (by omega) (by decide) (by omega)
  refine ⟨fun j => [r8re c, r8im c, e2, e3, e4, e5].getD j 0, q, ⟨rfl, rfl, m1, m2⟩, h1, ?_, ?_, ?_⟩
  · refine apartN 9000000000000000000 (h2 2 (by omega)) (h2 3 (by omega)) hA hB (by omega) ?_ ?_ (by decide)
    all_goals
      unfold Nr zR zI tR tI at *
      simp only [thK, Bool.false_eq_true, if_false, if_true, List.getD_cons_zero, List.getD_cons_succ] at *
      clear h1 h2 S6 gA gB hA hB m1 m2 dA dB f2 f3 f4 f5
      omega
  · refine apartN 9000000000000000000 (h2 0 (by omega)) (h2 1 (by omega)) (dy_zero _) (dy_zero _) (by omega) ?_ ?_ (by decide)
    all_goals
      unfold Nr zR zI tR tI at *
      simp only [thK, Bool.false_eq_true, if_false, if_true, List.getD_cons_zero, List.getD_cons_succ] at *
      clear h1 h2 S6 gA gB hA hB m1 m2 dA dB f2 f3 f4 f5
      omega
  · refine apartN 9000000000000000000 (h2 4 (by omega)) (h2 5 (by omega)) (dy_zero _) (dy_zero _) (by omega) ?_ ?_ (by decide)
    all_goals
      unfold Nr zR zI tR tI at *
      simp only [thK, Bool.false_eq_true, if_false, if_true, List.getD_cons_zero, List.getD_cons_succ] at *
      clear h1 h2 S6 gA gB hA hB m1 m2 dA dB f2 f3 f4 f5
      omega

/-- What flows through the ground is three times Zero. -/
theorem ground16 {p q : Nat → Nat} {P Q : Nat → Int} (hp : Six 4 p P 16) (h : Six 53 q Q 12000000000000000) (a0 : Nr (Q 0) (11184811 * zR P) 4496294022 ∧ Nr (Q 1) (11184811 * zI P) 4496294022) :
    ∃ g0 g1 u0 u1 z0 z1, PlainV p g0 g1 ∧ (fop .add .f32 (vl .f32 (q 0)) (vl .f32 (q 0)) = some u0 ∧ fop .add .f32 (vl .f32 (q 1)) (vl .f32 (q 1)) = some u1) ∧ (fop .add .f32 (vl .f32 u0) (vl .f32 (q 0)) = some z0 ∧ fop .add .f32 (vl .f32 u1) (vl .f32 (q 1)) = some z1) ∧
      ∃ t, ApartV g0 g1 z0 z1 t ∧ FloatKind.f64.format.order t c001 = some .lt := by
  obtain ⟨r0, r1, n0, n1, v0, e0, e1, c0, c1⟩ := plainN hp (by omega) (by decide) (by omega)
  have b0 := (hp 0 (by omega)).2; have b1 := (hp 1 (by omega)).2; have b2 := (hp 2 (by omega)).2; have b3 := (hp 3 (by omega)).2; have b4 := (hp 4 (by omega)).2; have b5 := (hp 5 (by omega)).2
  obtain ⟨d0, o0⟩ := h 0 (by omega)
  obtain ⟨d1, o1⟩ := h 1 (by omega)
  obtain ⟨u0, U0, k0, k1, k2, k3⟩ := addN 24000000000000000 d0 d0 (by omega) (by omega) (by omega) (by decide)
  obtain ⟨u1, U1, l0, l1, l2, l3⟩ := addN 24000000000000000 d1 d1 (by omega) (by omega) (by omega) (by decide)
  obtain ⟨z0, Z0, i0, i1, i2, i3⟩ := addN 40000000000000000 k1 d0 (by omega) (by omega) (by omega) (by decide)
  obtain ⟨z1, Z1, j0, j1, j2, j3⟩ := addN 40000000000000000 l1 d1 (by omega) (by omega) (by omega) (by decide)
  refine ⟨r0, r1, u0, u1, z0, z1, v0, ⟨k0, l0⟩, ⟨i0, j0⟩, apartN 100000000000 (fine49 e0) (fine49 e1) i1 j1 (by omega) ?_ ?_ (by decide)⟩
  all_goals
    clear v0 e0 e1 d0 d1 k0 k1 l0 l1 i0 i1 j0 j1 h hp
    unfold Nr zR zI at *
    omega
end Go.Proofs.Ytljclagfplildaa
end

section
set_option linter.unusedVariables false
set_option linter.unusedSimpArgs false
set_option maxRecDepth 8000
namespace Go.Proofs.Ytljclagfplildaa
open Go Go.RowKit Go.Deep Go.Proofs.Ytljclagfplildaa.Fl

theorem fcv_from {l t : Nat} (h : fcv .f32 .f64 (vl .f32 l) = some t) (w : World) : (convert 28 27 (.float .f32 l)).run Try.prog w = .ok (.float .f64 t) w := by
  rw [run_cv]
  have hn : vl .f32 l ≠ none := fun e => by rw [e] at h; cases h
  have h1 : cvv l w = t := by unfold cvv; rw [if_neg hn, h]; rfl
  have h2 : cvn l = 0 := by unfold cvn; rw [if_neg hn]
  rw [h1, h2]
  rfl
theorem nar_over {x : Option Nat} {r : Nat} (h : NarV x r) : over .f64 .f32 x = false := h.1

theorem longV_any {a b l : Nat} (h : LongV a b l) (w : World) : Calls Try.prog 62 #[.complex .f32 a b] w (RB (.float .f32 l) w) := by
  obtain ⟨h1, h2⟩ := h
  have hP := fun w' => wideW_any a b w'
  go_enter Try.func62, Try.ntmps62
  go_wp2_with fail
  refine (hP _).mono ?_
  rintro e w' ⟨x, n, rfl, hx, lx, rfl⟩
  rw [← hx] at h1 h2
  clear hx hP
  go_wp2_with fail
  refine (sqrt_any x _).mono ?_
  rintro e w' ⟨x2, n2, rfl, hx, lx2, rfl⟩
  rw [← hx] at h1 h2
  clear hx lx
  have H1 := Lib.hid h1
  have H2 := Lib.hid h2
  have L2 := Lib.hid lx2
  clear h1 h2 lx2
  go_wp2_with fail
  refine (narrow_any x2 L2.out H1.out _).mono ?_
  rintro e w' ⟨x3, n3, rfl, hx, lx3, rfl⟩
  rw [H2.out] at hx
  obtain rfl := vl_some hx
  clear hx H2 H1 L2 lx3
  go_wp2_with fail
  go_ret
  exact ⟨rfl, (Grown.drawn w _).2⟩
theorem apartV_any {a b c d t : Nat} (h : ApartV a b c d t) (w : World) :
    Calls Try.prog 54 #[.complex .f32 a b, .complex .f32 c d] w (RB (.float .f64 t) w) := by
  obtain ⟨u, v, l, h1, h2, h3, h4⟩ := h
  have hL := fun w' => longV_any h3 w'
  have hc := run_csum .sub (.inr rfl) 25 h1 h2
  have hv := fcv_from h4
  clear h1 h2 h3 h4
  go_enter Try.func54, Try.ntmps54
  go_wp2_with fail
  refine (hL _).mono ?_
  rintro e w1 ⟨rfl, hb⟩
  have H1 := Lib.hid hb
  clear hL hb
  go_wp2_with fail
  go_ret
  exact ⟨rfl, H1.out⟩
/-- The greater one of two finite floats. -/
def maxV (x y : Nat) : Nat := match FloatKind.f64.format.order x y with
  | some .lt => y
  | some .gt => x
  | _ => if (FloatKind.f64.decode x).neg then y else x
theorem run_maxf {P : Program} {x y : Nat} (hx : rung .f64 x < FloatKind.f64.format.infRung) (hy : rung .f64 y < FloatKind.f64.format.infRung) (ts : Array TypeId) (t : TypeId) (w : World) :
    (Builtin.max_ ts t #[.float .f64 x, .float .f64 y]).run P w = .ok (.float .f64 (maxV x y)) w := by
  have e := order_units .f64 x y hx hy
  unfold maxV
  rcases h : compare (sv .f64 x) (sv .f64 y) with _ | _ | _
  all_goals
    rw [h] at e
    simp [Builtin.max_, Builtin.max2, e]
theorem max_lt {x y : Nat} (hx : FloatKind.f64.format.order x c001 = some .lt) (hy : FloatKind.f64.format.order y c001 = some .lt) : FloatKind.f64.format.order (maxV x y) c001 = some .lt := by
  unfold maxV
  split
  · exact hy
  · exact hx
  · split
    · exact hy
    · exact hx
theorem gapV_any {a b x y : Nat} (h1 : fop .sub .f64 (vl .f64 a) (vl .f64 b) = some x) (h2 : fop .sub .f64 (vl .f64 b) (vl .f64 a) = some y) (hx : rung .f64 x < FloatKind.f64.format.infRung) (hy : rung .f64 y < FloatKind.f64.format.infRung) (w : World) :
    Calls Try.prog 61 #[.float .f64 a, .float .f64 b] w (RB (.float .f64 (maxV x y)) w) := by
  have q1 := fun w : World => run_float_arith (P := Try.prog) w .sub 27 .f64 a b x (by rw [floatBits_vl]; exact h1)
  have q2 := fun w : World => run_float_arith (P := Try.prog) w .sub 27 .f64 b a y (by rw [floatBits_vl]; exact h2)
  have q3 := fun ts t w => run_maxf (P := Try.prog) hx hy ts t w
  clear h1 h2 hx hy
  go_enter Try.func61, Try.ntmps61
  go_wp2
  go_ret
  exact ⟨rfl, Below.refl _ _⟩
theorem nextP_any (p : Nat → Nat) (w : World) : Calls Try.prog 60 #[PV p] w (RB (PV (nextP p)) w) := by
  have hst := fun (a : Addr) (x y : Nat) (m : Mode) (w : World) => run_store Try.prog w a (.complex .f32 x y) m rfl
  unfold PV
  go_enter Try.func60, Try.ntmps60
  go_wp2_with fail
  have T := box2 w [.complex .f32 (p 0) (p 1), .complex .f32 (p 2) (p 3), .complex .f32 (p 4) (p 5)] [.complex .f32 (p 4) (p 5), .complex .f32 (p 0) (p 1), .complex .f32 (p 2) (p 3)] 37 37
  have v0 := T.2.1.cell 0 (by simp)
  have v1 := T.2.1.cell 1 (by simp)
  have v2 := T.2.1.cell 2 (by simp)
  simp only [List.getD_cons_zero, List.getD_cons_succ] at v0 v1 v2
  try simp only [Exit.inBlock, Exit.then]
  refine bodyPost_ret (by simp [results, Try.results60, go_sem, v0, v1, v2]; try rfl) rfl ?_
  exact ⟨rfl, T.2.2⟩
theorem groundV_any (p : Nat → Nat) (r s : Nat) (h : PlainV p r s) (w : World) : Calls Try.prog 63 #[PV p] w (RB (.complex .f32 r s) w) := by
  have hA := fun w' => three_any p w'
  have hB := fun w' => plain_any p r s h w'
  clear h
  have T := box1 w [.complex .f32 (p 0) (p 1), .complex .f32 (p 2) (p 3), .complex .f32 (p 4) (p 5)] 37
  have c0 := T.1.cell 0 (by simp)
  have c1 := T.1.cell 1 (by simp)
  have c2 := T.1.cell 2 (by simp)
  simp only [List.getD_cons_zero, List.getD_cons_succ] at c0 c1 c2
  have HB := Lib.hid T.2
  clear T
  unfold PV at *
  go_enter Try.func63, Try.ntmps63
  go_wp2_with fail
  refine (hA _).mono ?_
  rintro e w1 ⟨rfl, hb⟩
  have H1 := Lib.hid (bel_then HB.out hb)
  clear hb
  go_wp2_with fail
  refine (hB _).mono ?_
  rintro e w2 ⟨rfl, hb⟩
  have H2 := Lib.hid (bel_then H1.out hb)
  clear hb
  go_wp2_with fail
  go_ret
  exact ⟨rfl, H2.out⟩
theorem evenV_any {a b : Nat} {e : Nat → Nat} (h : EvenV a b e) (w : World) : Calls Try.prog 59 #[.complex .f32 a b] w (RB (PV e) w) := by
  obtain ⟨h0, h1, m1, m2⟩ := h
  have hP := fun w' => ph_rb true w'
  have hQ := fun w' => ph_rb false w'
  have hM := fun w' => mulV_any m1 w'
  have hN := fun w' => mulV_any m2 w'
  clear m1 m2
  have hst := fun (a : Addr) (x y : Nat) (m : Mode) (w : World) => run_store Try.prog w a (.complex .f32 x y) m rfl
  have T := box1 w [.complex .f32 0 0, .complex .f32 0 0, .complex .f32 0 0] 37
  simp only [thT, Bool.false_eq_true, if_false, if_true] at hP hQ
  go_enter Try.func59, Try.ntmps59
  go_wp2_with fail
  refine (hP _).mono ?_
  rintro x w1 ⟨rfl, hb⟩
  have H1 := Lib.hid hb
  clear hb hP
  go_wp2_with fail
  refine (hM _).mono ?_
  rintro x w2 ⟨rfl, hb⟩
  have H2 := Lib.hid (bel_then H1.out hb)
  clear hb hM H1
  go_wp2_with fail
  refine (hQ _).mono ?_
  rintro x w3 ⟨rfl, hb⟩
  have H3 := Lib.hid (bel_then H2.out hb)
  clear hb hQ H2
  go_wp2_with fail
  refine (hN _).mono ?_
  rintro x w4 ⟨rfl, hb⟩
  have H4 := Lib.hid (bel_then H3.out hb)
  clear hb hN H3
  have R := T.1.below H4.out T.1.lt
  have hB5 := Lib.hid (T.2.trans (H4.out.mono T.2.size))
  clear T H4
  have k0 := R.cell 0 (by simp)
  have k1 := R.cell 1 (by simp)
  have k2 := R.cell 2 (by simp)
  have z0 := R.frozen 0
  have z1 := R.frozen 1
  have z2 := R.frozen 2
  simp only [List.getD_cons_zero, List.getD_cons_succ] at k0 k1 k2
  go_wp2_with fail
  have R2 := ((R.set 0 (.complex .f32 a b)).set 1 (.complex .f32 (e 2) (e 3))).set 2 (.complex .f32 (e 4) (e 5))
  have v0 := R2.cell 0 (by simp)
  have v1 := R2.cell 1 (by simp)
  have v2 := R2.cell 2 (by simp)
  simp only [List.set_cons_zero, List.set_cons_succ, List.getD_cons_zero, List.getD_cons_succ] at v0 v1 v2
  try simp only [Exit.inBlock, Exit.then]
  refine bodyPost_ret (by simp [results, Try.results59, go_sem, v0, v1, v2]; try rfl) rfl ?_
  refine ⟨?_, ((hB5.out.setCell (by simp) _).setCell (by simp) _).setCell (by simp) _⟩
  unfold PV
  rw [h0, h1]
end Go.Proofs.Ytljclagfplildaa
end

section
set_option linter.unusedVariables false
set_option linter.unusedSimpArgs false
set_option maxRecDepth 8000
namespace Go.Proofs.Ytljclagfplildaa
open Go Go.RowKit Go.Deep Go.Proofs.Ytljclagfplildaa.Fl

theorem sameI_any (a b : Nat) (ha : a < 2 ^ 32) (hb : b < 2 ^ 32) (h : vl .f32 a = vl .f32 b) (w : World) : Calls Try.prog 178 #[.float .f32 a, .float .f32 b] w (VRet (.bool true) w) := by
  have hA := fun w' => bitsOf_any a ha w'
  have hB := fun w' => bitsOf_any b hb w'
  rw [h] at hA
  clear h
  generalize bitsV (vl .f32 b) = y at *
  have hy : (y == y) = true := by simp
  go_enter Try.func178, Try.ntmps178
  go_wp2_with fail
  refine (hA _).mono ?_
  rintro e w' ⟨n, rfl, rfl⟩
  go_wp2_with fail
  refine (hB _).mono ?_
  rintro e w' ⟨m, rfl, rfl⟩
  go_wp2_with fail
  go_ret
  exact ⟨_, rfl, rfl⟩
theorem sameCxI_any (a b c d : Nat) (ha : a < 2 ^ 32) (hb : b < 2 ^ 32) (hc : c < 2 ^ 32) (hd : d < 2 ^ 32) (h1 : vl .f32 a = vl .f32 c) (h2 : vl .f32 b = vl .f32 d) (w : World) :
    Calls Try.prog 143 #[.complex .f32 a b, .complex .f32 c d] w (VRet (.bool true) w) := by
  have hA := fun w' => sameI_any a c ha hc h1 w'
  have hB := fun w' => sameI_any b d hb hd h2 w'
  clear h1 h2
  go_enter Try.func143, Try.ntmps143
  go_wp2_with fail
  refine (hA _).mono ?_
  rintro e w' ⟨n, rfl, rfl⟩
  go_wp2_with fail
  refine (hB _).mono ?_
  rintro e w' ⟨m, rfl, rfl⟩
  go_wp2_with fail
  go_ret
  exact ⟨_, rfl, rfl⟩

theorem VRet.rb {v : Value} {w w' : World} {e : Ending} (h : VRet v w e w') : RB v w e w' := by
  obtain ⟨n, rfl, rfl⟩ := h
  exact ⟨rfl, (Grown.drawn w n).2⟩
set_option maxHeartbeats 1000000 in
theorem sameParts_any (q : Nat → Nat) (hq : ∀ j, j < 6 → q j < 2 ^ 32) (w : World) : Calls Try.prog 64 #[PV q, PV q] w (RB (.bool true) w) := by
  have hA := fun w' => (sameCxI_any (q 0) (q 1) (q 0) (q 1) (hq 0 (by omega)) (hq 1 (by omega)) (hq 0 (by omega)) (hq 1 (by omega)) rfl rfl w').mono (fun e w'' h => VRet.rb h)
  have hB := fun w' => (sameCxI_any (q 2) (q 3) (q 2) (q 3) (hq 2 (by omega)) (hq 3 (by omega)) (hq 2 (by omega)) (hq 3 (by omega)) rfl rfl w').mono (fun e w'' h => VRet.rb h)
  have hC := fun w' => (sameCxI_any (q 4) (q 5) (q 4) (q 5) (hq 4 (by omega)) (hq 5 (by omega)) (hq 4 (by omega)) (hq 5 (by omega)) rfl rfl w').mono (fun e w'' h => VRet.rb h)
  clear hq
  have T := box2 w [.complex .f32 (q 0) (q 1), .complex .f32 (q 2) (q 3), .complex .f32 (q 4) (q 5)] [.complex .f32 (q 0) (q 1), .complex .f32 (q 2) (q 3), .complex .f32 (q 4) (q 5)] 89 89
  unfold PV at *
  go_enter Try.func64, Try.ntmps64
  obtain ⟨T1, T2, TB⟩ := T
  have HB := Lib.hid TB
  clear TB
  have c0 := T1.cell 0 (by simp)
  have d0 := T2.cell 0 (by simp)
  have c1 := T1.cell 1 (by simp)
  have d1 := T2.cell 1 (by simp)
  have c2 := T1.cell 2 (by simp)
  have d2 := T2.cell 2 (by simp)
  simp only [List.getD_cons_zero, List.getD_cons_succ] at c0 c1 c2 d0 d1 d2
  have R1 := Lib.hid T1
  have R2 := Lib.hid T2
  clear T1 T2
  go_wp2_with fail
  refine (hA _).mono ?_
  rintro e w4 ⟨rfl, hb⟩
  have T1 := R1.out.below hb R1.out.lt
  have T2 := R2.out.below hb R2.out.lt
  have HB1 := Lib.hid (HB.out.trans (hb.mono HB.out.size))
  clear hb R1 R2 c0 c1 c2 d0 d1 d2 hA
  have c0 := T1.cell 0 (by simp)
  have d0 := T2.cell 0 (by simp)
  have c1 := T1.cell 1 (by simp)
  have d1 := T2.cell 1 (by simp)
  have c2 := T1.cell 2 (by simp)
  have d2 := T2.cell 2 (by simp)
  simp only [List.getD_cons_zero, List.getD_cons_succ] at c0 c1 c2 d0 d1 d2
  have R1 := Lib.hid T1
  have R2 := Lib.hid T2
  clear T1 T2
  go_wp2_with fail
  refine (hB _).mono ?_
  rintro e w5 ⟨rfl, hb⟩
  have T1 := R1.out.below hb R1.out.lt
  have T2 := R2.out.below hb R2.out.lt
  have HB2 := Lib.hid (HB1.out.trans (hb.mono HB1.out.size))
  clear hb R1 R2 c0 c1 c2 d0 d1 d2 hB
  have c0 := T1.cell 0 (by simp)
  have d0 := T2.cell 0 (by simp)
  have c1 := T1.cell 1 (by simp)
  have d1 := T2.cell 1 (by simp)
  have c2 := T1.cell 2 (by simp)
  have d2 := T2.cell 2 (by simp)
  simp only [List.getD_cons_zero, List.getD_cons_succ] at c0 c1 c2 d0 d1 d2
  have R1 := Lib.hid T1
  have R2 := Lib.hid T2
  clear T1 T2
  go_wp2_with fail
  refine (hC _).mono ?_
  rintro e w6 ⟨rfl, hb⟩
  have T1 := R1.out.below hb R1.out.lt
  have T2 := R2.out.below hb R2.out.lt
  have HB3 := Lib.hid (HB2.out.trans (hb.mono HB2.out.size))
  clear hb R1 R2 c0 c1 c2 d0 d1 d2 hC
  clear T1 T2
  go_wp2_with fail
  go_ret
  exact ⟨rfl, HB3.out⟩
end Go.Proofs.Ytljclagfplildaa
end
