/-
  The time of a curve, in the program: points, stretches. No theorem of a claim stands here.
-/
import Derived.Test.YthkjikennlaelaaCurP
import Derived.ScopeJumps
import Derived.WalkMore
import Derived.BigRegion
set_option linter.unusedVariables false
set_option linter.unusedSimpArgs false
set_option maxRecDepth 8000
namespace Go.Proofs.Ythkjikennlaelaa
open Go Go.RowKit Go.Deep Go.Proofs.Ythkjikennlaelaa.Fl

set_option maxHeartbeats 4000000 in
theorem pointAt_any (a : Option Addr) (n c : Nat) (C : List Nat) (b : Option Addr) (m e : Nat) (T : List Nat) (i : Nat) (w : World) (ha : FRd w a n c C) (hb : FRd w b m e T) (hi : i < n) (hm : i < m) :
    Calls Try.prog 68 #[CV a n c b m e, .int .i64 i] w (RB7 (.agg #[.float .f32 (C.getD i 0), .float .f32 (T.getD i 0)]) w) := by
  have hst := fun (a : Addr) (v : Nat) (m : Mode) (w : World) => run_store Try.prog w a (.float .f32 v) m rfl
  have K := bx2 w [.slice a n c, .slice b m e] [.float .f32 0, .float .f32 0] 26 72
  obtain ⟨x, hx⟩ : ∃ x, C.getD i 0 = x := ⟨_, rfl⟩
  obtain ⟨t, ht⟩ : ∃ t, T.getD i 0 = t := ⟨_, rfl⟩
  rw [hx, ht]
  unfold CV RB7
  go_enter Try.func68, Try.ntmps68
  go_upto_region 1 with fail
  generalize ((w.alloc (.cells [Value.slice a n c, .slice b m e].toArray 26)).alloc (.cells [Value.float .f32 0, .float .f32 0].toArray 72)) = W at *
  obtain ⟨K1, K2, KB⟩ := K
  obtain ⟨b1, o1, rfl, h1, _⟩ := (ha.stays KB (Nat.le_refl _)).2.2.1 i hi
  obtain ⟨b2, o2, rfl, h2, _⟩ := (hb.stays KB (Nat.le_refl _)).2.2.1 i hm
  have hcap := ha.2.1
  have hcap2 := hb.2.1
  have c0 := K1.cell 0 (by simp)
  have c1 := K1.cell 1 (by simp)
  simp only [List.getD_cons_zero, List.getD_cons_succ] at c0 c1
  rw [hx] at h1
  rw [ht] at h2
  have q0 := fun y : Grown W => y.cell c0
  have q1 := fun y : Grown W => y.cell c1
  have q2 := fun y : Grown W => y.cell h1
  have q3 := fun y : Grown W => y.cell h2
  have GG := Lib.hid (fun y : Grown W => And.intro (K2.below y.2 K2.lt) (KB.trans (y.2.mono KB.size)))
  clear ha hb K1 K2 KB c0 c1 h1 h2 hx ht
  refine wp_grown_tail 11 (by kernel_rfl) (by kernel_rfl) ?_
  simp only [List.take_succ_cons, List.take_zero, List.drop_succ_cons, List.drop_zero]
  repeat (go_big_quiet_step (fail))
  refine wpQuiet_nil ?_
  rintro _ ⟨v, rfl⟩
  obtain ⟨R, B⟩ := GG.out v
  clear GG q0 q1 q2 q3
  generalize v.1 = w5 at *
  have z0 := R.frozen 0
  have z1 := R.frozen 1
  have d0 := R.cell 0 (by simp)
  have d1 := R.cell 1 (by simp)
  simp only [List.getD_cons_zero, List.getD_cons_succ] at d0 d1
  go_wp2_with fail
  have RR := (R.set 0 (.float .f32 x)).set 1 (.float .f32 t)
  have e0 := RR.cell 0 (by simp)
  have e1 := RR.cell 1 (by simp)
  simp only [List.set_cons_zero, List.set_cons_succ, List.getD_cons_zero, List.getD_cons_succ] at e0 e1
  try simp only [Exit.inBlock, Exit.then]
  refine bodyPost_ret (by simp [results, Try.results68, go_sem, e0, e1]; try rfl) rfl ?_
  exact ⟨rfl, (B.setCell (by simp) _).setCell (by simp) _⟩
theorem fallStart_any (x s y t : Nat) (w : World) : Calls Try.prog 98 #[.agg #[.float .f32 x, .float .f32 s, .float .f32 y, .float .f32 t]] w (RB7 (.float .f32 x) w) := by
  have K := bx1 w [.float .f32 x, .float .f32 s, .float .f32 y, .float .f32 t] 74
  have c0 := K.1.cell 0 (by simp)
  simp only [List.getD_cons_zero, List.getD_cons_succ] at c0
  have KB := Lib.hid K.2
  clear K
  unfold RB7
  go_enter Try.func98, Try.ntmps98
  go_wp2
  go_ret
  exact ⟨rfl, KB.out⟩
theorem levStart_any (x s : Nat) (w : World) : Calls Try.prog 99 #[.agg #[.float .f32 x, .float .f32 s]] w (RB7 (.float .f32 x) w) := by
  have K := bx1 w [.float .f32 x, .float .f32 s] 77
  have c0 := K.1.cell 0 (by simp)
  simp only [List.getD_cons_zero, List.getD_cons_succ] at c0
  have KB := Lib.hid K.2
  clear K
  unfold RB7
  go_enter Try.func99, Try.ntmps99
  go_wp2
  go_ret
  exact ⟨rfl, KB.out⟩
set_option maxHeartbeats 4000000 in
theorem fallTime_any (u s v t x : Nat) (w : World) : Calls Try.prog 48 #[.agg #[.float .f32 u, .float .f32 s, .float .f32 v, .float .f32 t], .float .f32 x] w fun en w' => ∃ r, en = .returned (.float .f32 r) ∧ vl .f32 r = fop .add .f32 (vl .f32 s) (fop .mul .f32 (fop .sub .f32 (vl .f32 t) (vl .f32 s)) (fop .quo .f32 (fop .sub .f32 (vl .f32 x) (vl .f32 u)) (fop .sub .f32 (vl .f32 v) (vl .f32 u)))) ∧ r < 2 ^ 32 ∧ Below w.heap.size w w' := by
  have hadd := fun x y w => run_fov (P := Try.prog) .add rfl 28 .f32 x y w
  have hsub := fun x y w => run_fov (P := Try.prog) .sub rfl 28 .f32 x y w
  have hquo := fun x y w => run_fov (P := Try.prog) .quo rfl 28 .f32 x y w
  have K := bx1 w [.float .f32 u, .float .f32 s, .float .f32 v, .float .f32 t] 74
  go_enter Try.func48, Try.ntmps48
  go_upto_region 1 with fail
  generalize (w.alloc (.cells [Value.float .f32 u, .float .f32 s, .float .f32 v, .float .f32 t].toArray 74)) = W at *
  have K1 := Lib.hid K.1
  have KB := Lib.hid K.2
  clear K
  have c0 := K1.out.cell 0 (by simp)
  have c1 := K1.out.cell 1 (by simp)
  have c2 := K1.out.cell 2 (by simp)
  have c3 := K1.out.cell 3 (by simp)
  simp only [List.getD_cons_zero, List.getD_cons_succ] at c0 c1 c2 c3
  go_cut [5] from 6 (fun s5 wx => ∃ q, s5 = .float .f32 q ∧ Hid (vl .f32 q = fop .quo .f32 (fop .sub .f32 (vl .f32 x) (vl .f32 u)) (fop .sub .f32 (vl .f32 v) (vl .f32 u)) ∧ RL wx w.heap.size 74 [.float .f32 u, .float .f32 s, .float .f32 v, .float .f32 t] ∧ Below w.heap.size w wx))
  case first =>
    go_wp2_with fail
    go_meet
    case rel => exact ⟨_, rfl, Lib.hid ⟨by simp only [vl_fov], K1.out.drewN _, KB.out.trans ((below_drawn _ _).mono KB.out.size)⟩⟩
  case rest =>
  obtain ⟨q, rfl, hc⟩ := hcut
  have Hq := Lib.hid hc.out.1
  have K1 := Lib.hid hc.out.2.1
  have KB := Lib.hid hc.out.2.2
  clear hc c0 c1 c2 c3 hquo
  generalize wc = W at *
  have c0 := K1.out.cell 0 (by simp)
  have c1 := K1.out.cell 1 (by simp)
  have c2 := K1.out.cell 2 (by simp)
  have c3 := K1.out.cell 3 (by simp)
  simp only [List.getD_cons_zero, List.getD_cons_succ] at c0 c1 c2 c3
  go_wp2_with fail
  go_region_with (go_at_call 50; refine (mulF_any _ _ _).mono ?_; rintro ee w' ⟨r2, n2, rfl, hv2, hl2, rfl⟩)
  all_goals go_wp2_with fail
  all_goals go_ret
  all_goals exact ⟨_, rfl, by rw [vl_fov, hv2, vl_fov, Hq.out], fov_lt _ _ _ _ _, KB.out.trans ((below_drawn _ _).mono KB.out.size)⟩
end Go.Proofs.Ythkjikennlaelaa
