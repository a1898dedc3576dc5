/-
  The walk of the law on heated fuses.
-/
import Derived.Test.YthkjikennlaelaaFuseS
set_option linter.unusedVariables false
set_option linter.unusedSimpArgs false
set_option maxRecDepth 8000
namespace Go.Proofs.Ythkjikennlaelaa.fnExactHeatFuse
open Go Go.RowKit Go.Deep Go.Proofs.Ythkjikennlaelaa.Fl Go.Proofs.Ythkjikennlaelaa

set_option maxHeartbeats 4000000 in
theorem walk (h l c x t : Nat) (w : World) (lh : h < 2 ^ 32) (ll : l < 2 ^ 32) (lc : c < 2 ^ 32) (lx : x < 2 ^ 32) (lt : t < 2 ^ 32) :
    Calls Try.prog 12 #[.agg #[.float .f32 h, .float .f32 l, .float .f32 c], .float .f32 x, .float .f32 t] w fun en w' => en = .returned (.bool true) ∧ Below w.heap.size w w' := by
  have hst := fun (a : Addr) (v : Nat) (m : Mode) (w : World) => run_store Try.prog w a (.float .f32 v) m rfl
  have hT := fun w : World => toFuse_any h l c w
  have hS := fun w : World => specHeat_any h l c x t lh ll lc lx lt w
  have hI := fun w : World => implHeat_any h l c x t lh ll lc lx lt w
  obtain ⟨a, b, d, p, q, hF, la, lb, ld⟩ := heatR_form h l c x t ll lc
  rw [hF] at hS hI
  clear hF lh ll lc lx lt la lb ld
  unfold UV RB7 at *
  have T := bx1 w [.float .f32 h, .float .f32 l, .float .f32 c] 57
  have K0 := Lib.hid T.1
  have B0 := Lib.hid T.2
  have S0 := Lib.hid (show w.heap.size < (w.alloc (.cells [Value.float .f32 h, .float .f32 l, .float .f32 c].toArray 57)).heap.size by simp)
  clear T
  have hp : (p != p) = false := by simp
  have hq : (q != q) = false := by simp
  go_enter Try.func12, Try.ntmps12
  go_wp2_with fail
  generalize (w.alloc (.cells [Value.float .f32 h, .float .f32 l, .float .f32 c].toArray 57)) = W at *
  refine (hT _).mono ?_
  rintro en w1 ⟨rfl, hb1⟩
  have B1 := Lib.hid (B0.out.trans (hb1.mono (by have := S0.out; omega)))
  have K1 := Lib.hid (K0.out.below hb1 S0.out)
  have S1 := Lib.hid (Nat.lt_of_lt_of_le S0.out hb1.size)
  clear hb1 K0 S0 B0
  go_wp2_with fail
  refine (hS _).mono ?_
  rintro en w2 ⟨rfl, hb2⟩
  have B2 := Lib.hid (B1.out.trans (hb2.mono (by have := S1.out; omega)))
  have K2 := Lib.hid (K1.out.below hb2 S1.out)
  have S2 := Lib.hid (Nat.lt_of_lt_of_le S1.out hb2.size)
  clear hb2 K1 S1 B1
  go_upto_region 2 with fail
  have K3 := Lib.hid (K2.out.allocd (.cells [Value.float .f32 a, .float .f32 b, .float .f32 d].toArray 39))
  have N3 := Lib.hid (RL.new w2 [Value.float .f32 a, .float .f32 b, .float .f32 d] 39)
  have B3 := Lib.hid (B2.out.alloc (B2.out.size) (.cells [Value.float .f32 a, .float .f32 b, .float .f32 d].toArray 39))
  have S3 := Lib.hid (show w2.heap.size < (w2.alloc (.cells [Value.float .f32 a, .float .f32 b, .float .f32 d].toArray 39)).heap.size by simp)
  have S2' := Lib.hid (Nat.lt_trans S2.out S3.out)
  clear K2 B2 S2
  generalize hG : w2.heap.size = G at *
  generalize (w2.alloc (.cells [Value.float .f32 a, .float .f32 b, .float .f32 d].toArray 39)) = W3 at *
  have q0 := K3.out.cell 0 (by simp)
  have q1 := K3.out.cell 1 (by simp)
  have q2 := K3.out.cell 2 (by simp)
  simp only [List.getD_cons_zero, List.getD_cons_succ] at q0 q1 q2
  go_wp2_with fail
  refine (hT _).mono ?_
  rintro en w4 ⟨rfl, hb4⟩
  have B4 := Lib.hid (B3.out.trans (hb4.mono B3.out.size))
  have N4 := Lib.hid (N3.out.below hb4 S3.out)
  have S4 := Lib.hid (Nat.lt_of_lt_of_le S3.out hb4.size)
  clear hb4 K3 N3 B3 S3 S2' q0 q1 q2
  go_wp2_with fail
  refine (hI _).mono ?_
  rintro en w5 ⟨rfl, hb5⟩
  have B5 := Lib.hid (B4.out.trans (hb5.mono B4.out.size))
  have N5 := Lib.hid (N4.out.below hb5 S4.out)
  have S5 := Lib.hid (Nat.lt_of_lt_of_le S4.out hb5.size)
  clear hb5 N4 B4 S4
  go_upto_region 3 with fail
  have N6 := Lib.hid (N5.out.allocd (.cells [Value.float .f32 a, .float .f32 b, .float .f32 d].toArray 39))
  have M6 := Lib.hid (RL.new w5 [Value.float .f32 a, .float .f32 b, .float .f32 d] 39)
  have B6 := Lib.hid (B5.out.alloc (B5.out.size) (.cells [Value.float .f32 a, .float .f32 b, .float .f32 d].toArray 39))
  clear N5 B5 S5
  generalize hH : w5.heap.size = H at *
  generalize (w5.alloc (.cells [Value.float .f32 a, .float .f32 b, .float .f32 d].toArray 39)) = W6 at *
  have n0 := N6.out.cell 0 (by simp)
  have n1 := N6.out.cell 1 (by simp)
  have n2 := N6.out.cell 2 (by simp)
  have m0 := M6.out.cell 0 (by simp)
  have m1 := M6.out.cell 1 (by simp)
  have m2 := M6.out.cell 2 (by simp)
  simp only [List.getD_cons_zero, List.getD_cons_succ] at n0 n1 n2 m0 m1 m2
  go_wp2_with fail
  refine (eqU_any a b d _).mono ?_
  rintro en w7 ⟨rfl, hb7⟩
  have B7 := Lib.hid (B6.out.trans (hb7.mono B6.out.size))
  clear hb7 N6 M6 B6 n0 n1 n2 m0 m1 m2
  go_wp2_with fail
  go_ret
  exact ⟨rfl, B7.out⟩
end Go.Proofs.Ythkjikennlaelaa.fnExactHeatFuse
