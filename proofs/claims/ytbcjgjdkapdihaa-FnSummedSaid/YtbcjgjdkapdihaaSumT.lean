/-
  The currents of all lines, and sums of phases in the specification. No theorem of a claim stands here.
-/
import Derived.Test.YtbcjgjdkapdihaaSumB
set_option linter.unusedVariables false
set_option linter.unusedSimpArgs false
set_option maxRecDepth 8000
namespace Go.Proofs.Ytbcjgjdkapdihaa
open Go Go.RowKit Go.Shelf Go.Deep Go.Proofs.Ytbcjgjdkapdihaa.Fl

/-- The answer: a row of the call's own that holds the sums. -/
def SumRet (w : World) (n : Nat) (V : Nat → Nat → Int) {m : Nat} (pre : List (IB m)) (e : Ending) (w' : World) : Prop := ∃ gs cs, e = .returned (.tuple #[.slice (some ⟨gs, 0, none⟩) n cs, .bool true]) ∧ w.heap.size ≤ gs ∧ n ≤ cs ∧ cs ≤ maxLen ∧ SumAt w' gs n V pre ∧ Below w.heap.size w w'

set_option maxHeartbeats 4000000 in
theorem madeOf_any (w : World) (s : Nat → Nat) (g n c : Nat) (Bs : List BusV) (hF : Fdr w g n c Bs) (hG : ∀ i (h : i < Bs.length), Good i Bs[i]) (h0 : 0 < Bs.length) (gl cl : Nat) (L : Nat → Nat → Nat) (V : Nat → Nat → Int) (hR : PhR w gl n L)
    (hD : ∀ i, i < n → ∀ q, q < 6 → Dy .f32 0 (L i q) (V q i)) (hV : ∀ q j, (V q j).natAbs ≤ 50) : Calls Try.prog 112 #[FV s g n c, .slice (some ⟨gl, 0, none⟩) n cl, .func (.func 113) #[FV s g n c] #[]] w (SumRet w n V (upto (gB Bs hG h0) Bs.length)) := by
  have hH := fun w' (h : Below w.heap.size w w') => hasP_any w' s g n c Bs (hF.below h (Nat.le_refl _)) gl cl
  have hS := fun w' (h : Below w.heap.size w w') => sumBack_any w' s g n c Bs (hF.below h (Nat.le_refl _)) hG h0 gl cl L V (hR.below h hR.lt) hD hV
  clear hR hD
  unfold SumRet
  unfold FV at *
  go_enter Try.func112, Try.ntmps112
  go_wp2_with fail
  refine (hH _ (bel_alloc _ _)).mono ?_
  rintro e w2 ⟨rfl, hb⟩
  have Hb := Lib.hid (bel_then (bel_alloc _ _) hb)
  clear hb hH
  go_wp2_with fail
  refine (hS _ Hb.out).mono ?_
  rintro e w3 ⟨gs, cs, rfl, hgs, hcs1, hcs2, hA, hb3⟩
  have Hb3 := Lib.hid (bel_then Hb.out hb3)
  have hsz := Hb.out.size
  have HA := Lib.hid hA
  clear hb3 hS hA
  go_wp2
  go_ret2
  exact ⟨gs, cs, rfl, by omega, hcs1, hcs2, HA.out, Hb3.out⟩

set_option maxHeartbeats 4000000 in
theorem sumTop_any (w : World) (s : Nat → Nat) (g n c : Nat) (Bs : List BusV) (hF : Fdr w g n c Bs) (hG : ∀ i (h : i < Bs.length), Good i Bs[i]) (h0 : 0 < Bs.length) (gl cl : Nat) (L : Nat → Nat → Nat) (V : Nat → Nat → Int) (hR : PhR w gl n L)
    (hD : ∀ i, i < n → ∀ q, q < 6 → Dy .f32 0 (L i q) (V q i)) (hV : ∀ q j, (V q j).natAbs ≤ 50) : Calls Try.prog 34 #[FV s g n c, .slice (some ⟨gl, 0, none⟩) n cl] w (SumRet w n V (upto (gB Bs hG h0) Bs.length)) := by
  have hM := madeOf_any (w.alloc (.cells #[.complex .f32 (s 0) (s 1), .complex .f32 (s 2) (s 3), .complex .f32 (s 4) (s 5), .slice (some ⟨g, 0, none⟩) n c] 40)) s g n c Bs (hF.below (bel_alloc _ _) (Nat.le_refl _)) hG h0 gl cl L V (hR.below (bel_alloc _ _) hR.lt) hD hV
  clear hR hD hF
  have RF := RL.new w [.complex .f32 (s 0) (s 1), .complex .f32 (s 2) (s 3), .complex .f32 (s 4) (s 5), .slice (some ⟨g, 0, none⟩) n c] 40
  unfold SumRet at *
  unfold FV at *
  go_enter Try.func34, Try.ntmps34
  go_wp2_with fail
  refine hM.mono ?_
  rintro e w3 ⟨gs, cs, rfl, hgs, hcs1, hcs2, hA, hb3⟩
  have Hb3 := Lib.hid (bel_then (bel_alloc _ _) hb3)
  have hgs' : w.heap.size ≤ gs := by have : w.heap.size + 1 ≤ gs := by simpa using hgs
                                     omega
  have HA := Lib.hid hA
  clear hb3 hM hA
  go_wp2
  go_ret2
  exact ⟨gs, cs, rfl, hgs', hcs1, hcs2, HA.out, Hb3.out⟩

set_option maxHeartbeats 4000000 in
theorem addS0_any (p q r : Nat → Nat) (h : ∀ j, j < 6 → fop .add .f32 (vl .f32 (p j)) (vl .f32 (q j)) = some (r j)) (w : World) : Calls Try.prog 115 #[PV p, PV q] w (RB (PV r) w) := by
  have hA := run_csum .add (.inl rfl) 25 (h 0 (by omega)) (h 1 (by omega))
  have hB := run_csum .add (.inl rfl) 25 (h 2 (by omega)) (h 3 (by omega))
  have hC := run_csum .add (.inl rfl) 25 (h 4 (by omega)) (h 5 (by omega))
  have hst := fun (a : Addr) (x y : Nat) (m : Mode) (w : World) => run_store Try.prog w a (.complex .f32 x y) m rfl
  obtain ⟨T1, T2, T3, TB⟩ := box3 w [.complex .f32 (p 0) (p 1), .complex .f32 (p 2) (p 3), .complex .f32 (p 4) (p 5)] [.complex .f32 (q 0) (q 1), .complex .f32 (q 2) (q 3), .complex .f32 (q 4) (q 5)] [.complex .f32 0 0, .complex .f32 0 0, .complex .f32 0 0] 37 37 37
  have c0 := T1.cell 0 (by simp)
  have c1 := T1.cell 1 (by simp)
  have c2 := T1.cell 2 (by simp)
  have d0 := T2.cell 0 (by simp)
  have d1 := T2.cell 1 (by simp)
  have d2 := T2.cell 2 (by simp)
  have k0 := T3.cell 0 (by simp)
  have k1 := T3.cell 1 (by simp)
  have k2 := T3.cell 2 (by simp)
  have z0 := T3.frozen 0
  have z1 := T3.frozen 1
  have z2 := T3.frozen 2
  simp only [List.getD_cons_zero, List.getD_cons_succ] at c0 c1 c2 d0 d1 d2 k0 k1 k2
  have R2 := ((T3.set 0 (.complex .f32 (r 0) (r 1))).set 1 (.complex .f32 (r 2) (r 3))).set 2 (.complex .f32 (r 4) (r 5))
  have v0 := R2.cell 0 (by simp)
  have v1 := R2.cell 1 (by simp)
  have v2 := R2.cell 2 (by simp)
  simp only [List.set_cons_zero, List.set_cons_succ, List.getD_cons_zero, List.getD_cons_succ] at v0 v1 v2
  have HB := Lib.hid (box3 w [.complex .f32 (p 0) (p 1), .complex .f32 (p 2) (p 3), .complex .f32 (p 4) (p 5)] [.complex .f32 (q 0) (q 1), .complex .f32 (q 2) (q 3), .complex .f32 (q 4) (q 5)] [.complex .f32 (r 0) (r 1), .complex .f32 (r 2) (r 3), .complex .f32 (r 4) (r 5)] 37 37 37).2.2.2
  clear h T1 T2 T3 TB R2
  unfold PV
  go_enter Try.func115, Try.ntmps115
  go_wp2_with fail
  try simp only [Exit.inBlock, Exit.then]
  refine bodyPost_ret (by simp [results, Try.results115, go_sem, v0, v1, v2]; try rfl) rfl ?_
  exact ⟨rfl, HB.out⟩

theorem addS_any (p q r : Nat → Nat) (h : ∀ j, j < 6 → fop .add .f32 (vl .f32 (p j)) (vl .f32 (q j)) = some (r j)) (w : World) : Calls Try.prog 36 #[PV p, PV q] w (RB (PV r) w) := by
  have hP := fun w' => addS0_any p q r h w'
  have T := fun M => box3 w [.complex .f32 (p 0) (p 1), .complex .f32 (p 2) (p 3), .complex .f32 (p 4) (p 5)] [.complex .f32 (q 0) (q 1), .complex .f32 (q 2) (q 3), .complex .f32 (q 4) (q 5)] M 37 37 37
  have T := T [.complex .f32 0 0, .complex .f32 0 0, .complex .f32 0 0]
  have hst := fun (a : Addr) (x y : Nat) (m : Mode) (w : World) => run_store Try.prog w a (.complex .f32 x y) m rfl
  clear h
  unfold PV at *
  go_enter Try.func36, Try.ntmps36
  go_wp2_with fail
  generalize hW3 : (((w.alloc (.cells #[.complex .f32 (p 0) (p 1), .complex .f32 (p 2) (p 3), .complex .f32 (p 4) (p 5)] 37)).alloc (.cells #[.complex .f32 (q 0) (q 1), .complex .f32 (q 2) (q 3), .complex .f32 (q 4) (q 5)] 37)).alloc (.cells #[.complex .f32 0 0, .complex .f32 0 0, .complex .f32 0 0] 37)) = W3 at *
  clear hW3
  refine (hP _).mono ?_
  rintro e w2 ⟨rfl, hb⟩
  have R := T.2.2.1.below hb T.2.2.1.lt
  have HB := Lib.hid (T.2.2.2.trans (hb.mono T.2.2.2.size))
  clear T hb hP
  have k0 := R.cell 0 (by simp)
  have k1 := R.cell 1 (by simp)
  have k2 := R.cell 2 (by simp)
  have z0 := R.frozen 0
  have z1 := R.frozen 1
  have z2 := R.frozen 2
  simp only [List.getD_cons_zero, List.getD_cons_succ] at k0 k1 k2
  have R2 := ((R.set 0 (.complex .f32 (r 0) (r 1))).set 1 (.complex .f32 (r 2) (r 3))).set 2 (.complex .f32 (r 4) (r 5))
  have v0 := R2.cell 0 (by simp)
  have v1 := R2.cell 1 (by simp)
  have v2 := R2.cell 2 (by simp)
  simp only [List.set_cons_zero, List.set_cons_succ, List.getD_cons_zero, List.getD_cons_succ] at v0 v1 v2
  clear R R2
  go_wp2_with fail
  try simp only [Exit.inBlock, Exit.then]
  refine bodyPost_ret (by simp [results, Try.results36, go_sem, v0, v1, v2]; try rfl) rfl ?_
  exact ⟨rfl, ((HB.out.setCell (by simp; omega) _).setCell (by simp; omega) _).setCell (by simp; omega) _⟩
end Go.Proofs.Ytbcjgjdkapdihaa
