/-
  What a line takes from voltages. No theorem of a claim stands here.
-/
import Derived.Test.YtljclagfplildaaCx
set_option linter.unusedVariables false
set_option linter.unusedSimpArgs false
set_option maxRecDepth 8000
namespace Go.Proofs.Ytljclagfplildaa
open Go Go.RowKit Go.Deep Go.Proofs.Ytljclagfplildaa.Fl

/-- The cells of a bus, and its value. -/
def BL (par : Int) (o0 o1 s0 s1 : Nat) (kind : Int) (l : Nat → Nat) (cust : Int) : List Value := [.int .i64 par, .complex .f32 o0 o1, .complex .f32 s0 s1, .int .i64 kind, .complex .f32 (l 0) (l 1), .complex .f32 (l 2) (l 3), .complex .f32 (l 4) (l 5), .int .i64 cust]
def BusL (par : Int) (o0 o1 s0 s1 : Nat) (kind : Int) (l : Nat → Nat) (cust : Int) : Value := .agg (BL par o0 o1 s0 s1 kind l cust).toArray
/-- (r, s) is what one phase loses: a + b i its own current, c + d i and e + f i those of the others. -/
def DropAt (o0 o1 s0 s1 a b c d e f r s : Nat) : Prop := ∃ t0 t1 m0 m1 n0 n1, fop .add .f32 (vl .f32 c) (vl .f32 e) = some t0 ∧ fop .add .f32 (vl .f32 d) (vl .f32 f) = some t1 ∧ MulV o0 o1 a b m0 m1 ∧ MulV s0 s1 t0 t1 n0 n1 ∧
  fop .add .f32 (vl .f32 m0) (vl .f32 n0) = some r ∧ fop .add .f32 (vl .f32 m1) (vl .f32 n1) = some s

/-- What the loop of DropOf holds: k results. -/
def dropL (r : Nat → Nat) (k : Nat) : List Value := [if 0 < k then .complex .f32 (r 0) (r 1) else .complex .f32 0 0, if 1 < k then .complex .f32 (r 2) (r 3) else .complex .f32 0 0, if 2 < k then .complex .f32 (r 4) (r 5) else .complex .f32 0 0]
structure DropSt (w wr : World) (B : List Value) (x r : Nat → Nat) (k : Nat) : Prop where
  bus : RL wr w.heap.size 77 B
  res : RL wr (w.heap.size + 1 + 1) 37 [.complex .f32 0 0, .complex .f32 0 0, .complex .f32 0 0]
  cur : RL wr (w.heap.size + 1 + 1 + 1) 174 [.complex .f32 (x 0) (x 1), .complex .f32 (x 2) (x 3), .complex .f32 (x 4) (x 5)]
  acc : RL wr (w.heap.size + 1 + 1 + 1 + 1) 174 (dropL r k)
  below : Below w.heap.size w wr

theorem dropSt0 (w : World) (B : List Value) (x r : Nat → Nat) : DropSt w (((((w.alloc (.cells B.toArray 77)).alloc (.cells #[.complex .f32 (x 0) (x 1), .complex .f32 (x 2) (x 3), .complex .f32 (x 4) (x 5)] 37)).alloc (.cells #[.complex .f32 0 0, .complex .f32 0 0, .complex .f32 0 0] 37)).alloc (.cells #[.complex .f32 (x 0) (x 1), .complex .f32 (x 2) (x 3), .complex .f32 (x 4) (x 5)] 174)).alloc (.cells #[.complex .f32 0 0, .complex .f32 0 0, .complex .f32 0 0] 174)) B x r 0 := by
  obtain ⟨h1, h2, h3, h4⟩ := box3 w B [.complex .f32 (x 0) (x 1), .complex .f32 (x 2) (x 3), .complex .f32 (x 4) (x 5)] [.complex .f32 0 0, .complex .f32 0 0, .complex .f32 0 0] 77 37 37
  generalize hW : (((w.alloc (.cells B.toArray 77)).alloc (.cells #[.complex .f32 (x 0) (x 1), .complex .f32 (x 2) (x 3), .complex .f32 (x 4) (x 5)] 37)).alloc (.cells #[.complex .f32 0 0, .complex .f32 0 0, .complex .f32 0 0] 37)) = W at *
  have hs : W.heap.size = w.heap.size + 1 + 1 + 1 := by rw [← hW]; simp
  obtain ⟨g1, g2, g3⟩ := box2 W [.complex .f32 (x 0) (x 1), .complex .f32 (x 2) (x 3), .complex .f32 (x 4) (x 5)] [.complex .f32 0 0, .complex .f32 0 0, .complex .f32 0 0] 174 174
  rw [hs] at g1 g2
  exact ⟨(h1.allocd _).allocd _, (h3.allocd _).allocd _, g1, g2, h4.trans (g3.mono h4.size)⟩
theorem DropSt.grown {w wr : World} {B : List Value} {x r : Nat → Nat} {k : Nat} (h : DropSt w wr B x r k) (y : Grown wr) : DropSt w y.1 B x r k :=
  ⟨y.rl h.bus, y.rl h.res, y.rl h.cur, y.rl h.acc, h.below.trans (y.2.mono h.below.size)⟩
theorem DropSt.step {w wr : World} {B : List Value} {x r : Nat → Nat} {k : Nat} (h : DropSt w wr B x r k) (hk : k < 3) : DropSt w (wr.setCell ⟨w.heap.size + 1 + 1 + 1 + 1, k, none⟩ (.complex .f32 (r (2 * k)) (r (2 * k + 1)))) B x r (k + 1) := by
  refine ⟨h.bus.other (by omega) _ _, h.res.other (by omega) _ _, h.cur.other (by omega) _ _, ?_, h.below.setCell (by simp; omega) _⟩
  have h2 := h.acc.set k (.complex .f32 (r (2 * k)) (r (2 * k + 1)))
  obtain rfl | rfl | rfl : k = 0 ∨ k = 1 ∨ k = 2 := by omega
  · exact h2
  · exact h2
  · exact h2
set_option maxHeartbeats 4000000 in
theorem dropV_any (par : Int) (o0 o1 s0 s1 : Nat) (kind : Int) (l : Nat → Nat) (cust : Int) (x r : Nat → Nat) (h0 : DropAt o0 o1 s0 s1 (x 0) (x 1) (x 2) (x 3) (x 4) (x 5) (r 0) (r 1))
    (h1 : DropAt o0 o1 s0 s1 (x 2) (x 3) (x 4) (x 5) (x 0) (x 1) (r 2) (r 3)) (h2 : DropAt o0 o1 s0 s1 (x 4) (x 5) (x 0) (x 1) (x 2) (x 3) (r 4) (r 5)) (w : World) :
    Calls Try.prog 131 #[BusL par o0 o1 s0 s1 kind l cust, PV x] w (RB (PV r) w) := by
  have hst := fun (a : Addr) (x y : Nat) (m : Mode) (w : World) => run_store Try.prog w a (.complex .f32 x y) m rfl
  have Hh := Lib.hid (And.intro h0 (And.intro h1 h2))
  clear h0 h1 h2
  unfold BusL BL PV
  have T := dropSt0 w (BL par o0 o1 s0 s1 kind l cust) x r
  unfold BL at T
  go_enter Try.func131, Try.ntmps131
  go_wp2_with fail
  generalize (((((w.alloc (.cells #[.int .i64 par, .complex .f32 o0 o1, .complex .f32 s0 s1, .int .i64 kind, .complex .f32 (l 0) (l 1), .complex .f32 (l 2) (l 3), .complex .f32 (l 4) (l 5), .int .i64 cust] 77)).alloc (.cells #[.complex .f32 (x 0) (x 1), .complex .f32 (x 2) (x 3), .complex .f32 (x 4) (x 5)] 37)).alloc (.cells #[.complex .f32 0 0, .complex .f32 0 0, .complex .f32 0 0] 37)).alloc (.cells #[.complex .f32 (x 0) (x 1), .complex .f32 (x 2) (x 3), .complex .f32 (x 4) (x 5)] 174)).alloc (.cells #[.complex .f32 0 0, .complex .f32 0 0, .complex .f32 0 0] 174)) = W5 at *
  have T5 := Lib.hid T
  clear T
  go_loopw [18] (fun I wr => ∃ (k : Nat) (K : Int), K = k ∧ k ≤ 3 ∧ I = .int .i64 K ∧ Hid (DropSt w wr [.int .i64 par, .complex .f32 o0 o1, .complex .f32 s0 s1, .int .i64 kind, .complex .f32 (l 0) (l 1), .complex .f32 (l 2) (l 3), .complex .f32 (l 4) (l 5), .int .i64 cust] x r k)) (fun I _ => 3 - (intOf I).toNat)
  case atStart => exact ⟨0, 0, rfl, by omega, rfl, T5⟩
  case round =>
    obtain ⟨k, K, hK, hk, rfl, Hw⟩ := hrel
    clear T5
    obtain rfl | rfl | rfl | rfl : k = 0 ∨ k = 1 ∨ k = 2 ∨ k = 3 := by omega
    · obtain rfl : K = 0 := by omega
      clear hK hk
      have c0 := fun y : Grown wr => y.cell (Hw.out.cur.cell 0 (by simp))
      have c1 := fun y : Grown wr => y.cell (Hw.out.cur.cell 1 (by simp))
      have c2 := fun y : Grown wr => y.cell (Hw.out.cur.cell 2 (by simp))
      simp only [List.getD_cons_zero, List.getD_cons_succ] at c0 c1 c2
      obtain ⟨t0, t1, m0, m1, n0, n1, e1, e2, M1, M2, e3, e4⟩ := Hh.out.1
      have hc := run_csum .add (.inl rfl) 25 e1 e2
      have hd := run_csum .add (.inl rfl) 25 e3 e4
      have MM := Lib.hid (And.intro M1 M2)
      clear e1 e2 e3 e4 M1 M2
      have hix : ∀ w : World, (Instr.index 174 (.agg #[.complex .f32 (x 0) (x 1), .complex .f32 (x 2) (x 3), .complex .f32 (x 4) (x 5)]) (.int .i64 0)).run Try.prog w = .ok (.complex .f32 (x 0) (x 1)) w := fun _ => by kernel_rfl
      go_wp2_with fail
      refine wp_grown (by kernel_rfl) (by kernel_rfl) ?_
      repeat (go_big_quiet_step (fail))
      refine wpQuiet_nil ?_
      rintro _ ⟨y, rfl⟩
      have Hy := Lib.hid (Hw.out.grown y)
      clear Hw c0 c1 c2 hc
      generalize y.1 = w7 at *
      have b1 := fun y : Grown w7 => y.cell (Hy.out.bus.cell 1 (by simp))
      have b2 := fun y : Grown w7 => y.cell (Hy.out.bus.cell 2 (by simp))
      simp only [List.getD_cons_zero, List.getD_cons_succ] at b1 b2
      go_wp2_with fail
      refine wp_grown_tail 11 (by kernel_rfl) (by kernel_rfl) ?_
      simp only [List.take_succ_cons, List.take_zero, List.drop_succ_cons, List.drop_zero]
      repeat (go_big_quiet_step (first | exact Grown.calls _ (mulV_any MM.out.1 _) | exact Grown.calls _ (mulV_any MM.out.2 _)))
      refine wpQuiet_nil ?_
      rintro _ ⟨y2, rfl⟩
      have Hz := Lib.hid (Hy.out.grown y2)
      clear Hy b1 b2 hd MM hst hix
      have hst := fun (a : Addr) (x y : Nat) (m : Mode) (w : World) => run_store Try.prog w a (.complex .f32 x y) m rfl
      generalize y2.1 = w8 at *
      have k0 := Hz.out.acc.cell 0 (by simp [dropL])
      have z0 := Hz.out.acc.frozen 0
      simp only [dropL, List.getD_cons_zero, List.getD_cons_succ] at k0
      have Hn := Lib.hid (Hz.out.step (k := 0) (by omega))
      go_wp2_with fail
      exact ⟨⟨1, 1, rfl, by omega, rfl, Hn⟩, by simp [intOf]⟩
    · obtain rfl : K = 1 := by omega
      clear hK hk
      have c0 := fun y : Grown wr => y.cell (Hw.out.cur.cell 0 (by simp))
      have c1 := fun y : Grown wr => y.cell (Hw.out.cur.cell 1 (by simp))
      have c2 := fun y : Grown wr => y.cell (Hw.out.cur.cell 2 (by simp))
      simp only [List.getD_cons_zero, List.getD_cons_succ] at c0 c1 c2
      obtain ⟨t0, t1, m0, m1, n0, n1, e1, e2, M1, M2, e3, e4⟩ := Hh.out.2.1
      have hc := run_csum .add (.inl rfl) 25 e1 e2
      have hd := run_csum .add (.inl rfl) 25 e3 e4
      have MM := Lib.hid (And.intro M1 M2)
      clear e1 e2 e3 e4 M1 M2
      have hix : ∀ w : World, (Instr.index 174 (.agg #[.complex .f32 (x 0) (x 1), .complex .f32 (x 2) (x 3), .complex .f32 (x 4) (x 5)]) (.int .i64 1)).run Try.prog w = .ok (.complex .f32 (x 2) (x 3)) w := fun _ => by kernel_rfl
      go_wp2_with fail
      refine wp_grown (by kernel_rfl) (by kernel_rfl) ?_
      repeat (go_big_quiet_step (fail))
      refine wpQuiet_nil ?_
      rintro _ ⟨y, rfl⟩
      have Hy := Lib.hid (Hw.out.grown y)
      clear Hw c0 c1 c2 hc
      generalize y.1 = w7 at *
      have b1 := fun y : Grown w7 => y.cell (Hy.out.bus.cell 1 (by simp))
      have b2 := fun y : Grown w7 => y.cell (Hy.out.bus.cell 2 (by simp))
      simp only [List.getD_cons_zero, List.getD_cons_succ] at b1 b2
      go_wp2_with fail
      refine wp_grown_tail 11 (by kernel_rfl) (by kernel_rfl) ?_
      simp only [List.take_succ_cons, List.take_zero, List.drop_succ_cons, List.drop_zero]
      repeat (go_big_quiet_step (first | exact Grown.calls _ (mulV_any MM.out.1 _) | exact Grown.calls _ (mulV_any MM.out.2 _)))
      refine wpQuiet_nil ?_
      rintro _ ⟨y2, rfl⟩
      have Hz := Lib.hid (Hy.out.grown y2)
      clear Hy b1 b2 hd MM hst hix
      have hst := fun (a : Addr) (x y : Nat) (m : Mode) (w : World) => run_store Try.prog w a (.complex .f32 x y) m rfl
      generalize y2.1 = w8 at *
      have k1 := Hz.out.acc.cell 1 (by simp [dropL])
      have z1 := Hz.out.acc.frozen 1
      simp only [dropL, List.getD_cons_zero, List.getD_cons_succ] at k1
      have Hn := Lib.hid (Hz.out.step (k := 1) (by omega))
      go_wp2_with fail
      exact ⟨⟨2, 2, rfl, by omega, rfl, Hn⟩, by simp [intOf]⟩
    · obtain rfl : K = 2 := by omega
      clear hK hk
      have c0 := fun y : Grown wr => y.cell (Hw.out.cur.cell 0 (by simp))
      have c1 := fun y : Grown wr => y.cell (Hw.out.cur.cell 1 (by simp))
      have c2 := fun y : Grown wr => y.cell (Hw.out.cur.cell 2 (by simp))
      simp only [List.getD_cons_zero, List.getD_cons_succ] at c0 c1 c2
      obtain ⟨t0, t1, m0, m1, n0, n1, e1, e2, M1, M2, e3, e4⟩ := Hh.out.2.2
      have hc := run_csum .add (.inl rfl) 25 e1 e2
      have hd := run_csum .add (.inl rfl) 25 e3 e4
      have MM := Lib.hid (And.intro M1 M2)
      clear e1 e2 e3 e4 M1 M2
      have hix : ∀ w : World, (Instr.index 174 (.agg #[.complex .f32 (x 0) (x 1), .complex .f32 (x 2) (x 3), .complex .f32 (x 4) (x 5)]) (.int .i64 2)).run Try.prog w = .ok (.complex .f32 (x 4) (x 5)) w := fun _ => by kernel_rfl
      go_wp2_with fail
      refine wp_grown (by kernel_rfl) (by kernel_rfl) ?_
      repeat (go_big_quiet_step (fail))
      refine wpQuiet_nil ?_
      rintro _ ⟨y, rfl⟩
      have Hy := Lib.hid (Hw.out.grown y)
      clear Hw c0 c1 c2 hc
      generalize y.1 = w7 at *
      have b1 := fun y : Grown w7 => y.cell (Hy.out.bus.cell 1 (by simp))
      have b2 := fun y : Grown w7 => y.cell (Hy.out.bus.cell 2 (by simp))
      simp only [List.getD_cons_zero, List.getD_cons_succ] at b1 b2
      go_wp2_with fail
      refine wp_grown_tail 11 (by kernel_rfl) (by kernel_rfl) ?_
      simp only [List.take_succ_cons, List.take_zero, List.drop_succ_cons, List.drop_zero]
      repeat (go_big_quiet_step (first | exact Grown.calls _ (mulV_any MM.out.1 _) | exact Grown.calls _ (mulV_any MM.out.2 _)))
      refine wpQuiet_nil ?_
      rintro _ ⟨y2, rfl⟩
      have Hz := Lib.hid (Hy.out.grown y2)
      clear Hy b1 b2 hd MM hst hix
      have hst := fun (a : Addr) (x y : Nat) (m : Mode) (w : World) => run_store Try.prog w a (.complex .f32 x y) m rfl
      generalize y2.1 = w8 at *
      have k2 := Hz.out.acc.cell 2 (by simp [dropL])
      have z2 := Hz.out.acc.frozen 2
      simp only [dropL, List.getD_cons_zero, List.getD_cons_succ] at k2
      have Hn := Lib.hid (Hz.out.step (k := 2) (by omega))
      go_wp2_with fail
      exact ⟨⟨3, 3, rfl, by omega, rfl, Hn⟩, by simp [intOf]⟩
    · obtain rfl : K = 3 := by omega
      clear hK hk
      have k0 := Hw.out.acc.cell 0 (by simp [dropL])
      have k1 := Hw.out.acc.cell 1 (by simp [dropL])
      have k2 := Hw.out.acc.cell 2 (by simp [dropL])
      have l0 := Hw.out.res.cell 0 (by simp)
      have l1 := Hw.out.res.cell 1 (by simp)
      have l2 := Hw.out.res.cell 2 (by simp)
      have y0 := Hw.out.res.frozen 0
      have y1 := Hw.out.res.frozen 1
      have y2 := Hw.out.res.frozen 2
      simp only [dropL, List.getD_cons_zero, List.getD_cons_succ] at k0 k1 k2 l0 l1 l2
      rw [if_pos (by omega)] at k0 k1 k2
      have R2 := ((Hw.out.res.set 0 (.complex .f32 (r 0) (r 1))).set 1 (.complex .f32 (r 2) (r 3))).set 2 (.complex .f32 (r 4) (r 5))
      have v0 := R2.cell 0 (by simp)
      have v1 := R2.cell 1 (by simp)
      have v2 := R2.cell 2 (by simp)
      simp only [List.set_cons_zero, List.set_cons_succ, List.getD_cons_zero, List.getD_cons_succ] at v0 v1 v2
      have HB := Lib.hid Hw.out.below
      clear R2 Hw
      go_wp2_with fail
      try simp only [Exit.inBlock, Exit.then]
      refine bodyPost_ret (by simp [results, Try.results131, go_sem, v0, v1, v2]; try rfl) rfl ?_
      exact ⟨rfl, ((HB.out.setCell (by simp; omega) _).setCell (by simp; omega) _).setCell (by simp; omega) _⟩
end Go.Proofs.Ytljclagfplildaa
