/-
  The walk of the law on valid fuses.
-/
import Derived.Test.YthkjikennlaelaaFuseQ
set_option linter.unusedVariables false
set_option linter.unusedSimpArgs false
set_option maxRecDepth 8000
namespace Go.Proofs.Ythkjikennlaelaa.fnExactValidFuse
open Go Go.RowKit Go.Deep Go.Proofs.Ythkjikennlaelaa.Fl Go.Proofs.Ythkjikennlaelaa

set_option maxHeartbeats 4000000 in
theorem walk (h l c : Nat) (w : World) (lh : h < 2 ^ 32) (ll : l < 2 ^ 32) (lc : c < 2 ^ 32) :
    Calls Try.prog 11 #[.agg #[.float .f32 h, .float .f32 l, .float .f32 c]] w fun en w' => en = .returned (.bool true) ∧ Below w.heap.size w w' := by
  have hT := fun w : World => toFuse_any h l c w
  have hS := fun w : World => specValidU_any h l c lh ll lc w
  have hI := fun w : World => validU_any h l c lh ll lc w
  unfold UV RB7 at *
  have T := bx1 w [.float .f32 h, .float .f32 l, .float .f32 c] 57
  have KK := Lib.hid (fun (w' : World) (hb : Below (w.heap.size + 1) (w.alloc (.cells [Value.float .f32 h, .float .f32 l, .float .f32 c].toArray 57)) w') => (T.1.below hb (by omega)))
  have BW := Lib.hid T.2
  clear T
  have hsz : (w.alloc (.cells [Value.float .f32 h, .float .f32 l, .float .f32 c].toArray 57)).heap.size = w.heap.size + 1 := by simp
  generalize okU h l c = ok at *
  have hok : (ok != ok) = false := by simp
  go_enter Try.func11, Try.ntmps11
  go_wp2_with fail
  generalize (w.alloc (.cells [Value.float .f32 h, .float .f32 l, .float .f32 c].toArray 57)) = W at *
  refine (hT _).mono ?_
  rintro en w1 ⟨rfl, hb1⟩
  rw [hsz] at hb1
  have B1 := Lib.hid hb1
  clear hb1
  go_wp2_with fail
  refine (hS _).mono ?_
  rintro en w2 ⟨rfl, hb2⟩
  have B2 := Lib.hid (B1.out.trans (hb2.mono (by have := B1.out.size; omega)))
  clear hb2
  have R := KK.out w2 B2.out
  have q0 := R.cell 0 (by simp)
  have q1 := R.cell 1 (by simp)
  have q2 := R.cell 2 (by simp)
  simp only [List.getD_cons_zero, List.getD_cons_succ] at q0 q1 q2
  clear R
  go_wp2_with fail
  refine (hT _).mono ?_
  rintro en w3 ⟨rfl, hb3⟩
  have B3 := Lib.hid (B2.out.trans (hb3.mono (by have := B2.out.size; omega)))
  clear hb3 q0 q1 q2
  go_wp2_with fail
  refine (hI _).mono ?_
  rintro en w4 ⟨rfl, hb4⟩
  have B4 := Lib.hid (B3.out.trans (hb4.mono (by have := B3.out.size; omega)))
  clear hb4
  go_wp2_with fail
  go_ret
  exact ⟨rfl, BW.out.trans (B4.out.mono (by omega))⟩
end Go.Proofs.Ythkjikennlaelaa.fnExactValidFuse
