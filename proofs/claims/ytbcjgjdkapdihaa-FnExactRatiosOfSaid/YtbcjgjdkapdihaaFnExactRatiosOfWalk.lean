/-
  The walk of the law on the ratios of a tap.
-/
import Derived.Test.YtbcjgjdkapdihaaTapR
set_option linter.unusedVariables false
set_option linter.unusedSimpArgs false
set_option maxRecDepth 8000
namespace Go.Proofs.Ytbcjgjdkapdihaa.fnExactRatiosOf
open Go Go.RowKit Go.Deep Go.Proofs.Ytbcjgjdkapdihaa.Fl Go.Proofs.Ytbcjgjdkapdihaa

set_option maxHeartbeats 4000000 in
theorem walk (b x y z : Int) (e : Nat) (w : World) :
    Calls Try.prog 11 #[TV b x y z e] w fun en w' => en = .returned (.bool true) ∧ Below w.heap.size w w' := by
  have hT := fun w : World => toTap_any b x y z e w
  have hS := fun w : World => specRatios_any b x y z e w
  have hI := fun w : World => implRatios_any b x y z e w
  have hlen : (ratR x y z e).length ≤ 3 := by unfold ratR; split <;> simp [ratL]
  have Hlt := Lib.hid (@ratR_lt x y z e)
  unfold TV RatPost at *
  have kk : ∀ w', Below (w.heap.size + 1) (w.alloc (.cells #[.int .i64 b, .int .i64 x, .int .i64 y, .int .i64 z, .float .f32 e] 101)) w' → w'.cell? ⟨w.heap.size, 0, none⟩ = some (.int .i64 b) ∧ w'.cell? ⟨w.heap.size, 1, none⟩ = some (.int .i64 x) ∧ w'.cell? ⟨w.heap.size, 2, none⟩ = some (.int .i64 y) ∧ w'.cell? ⟨w.heap.size, 3, none⟩ = some (.int .i64 z) ∧ w'.cell? ⟨w.heap.size, 4, none⟩ = some (.float .f32 e) := fun w' h =>
    have q := fun k => h.cell (p := ⟨w.heap.size, k, none⟩) (Nat.lt_succ_self _)
    ⟨(q 0).trans (by simp [go_sem]), (q 1).trans (by simp [go_sem]), (q 2).trans (by simp [go_sem]), (q 3).trans (by simp [go_sem]), (q 4).trans (by simp [go_sem])⟩
  have KK := Lib.hid kk
  have BW : Hid (Below w.heap.size w (w.alloc (.cells #[.int .i64 b, .int .i64 x, .int .i64 y, .int .i64 z, .float .f32 e] 101))) := Lib.hid ((Below.refl _ w).alloc (Nat.le_refl _) _)
  clear kk
  generalize ratR x y z e = R at *
  generalize tapOk x y z e = ok at *
  have hsz : (w.alloc (.cells #[.int .i64 b, .int .i64 x, .int .i64 y, .int .i64 z, .float .f32 e] 101)).heap.size = w.heap.size + 1 := by simp
  go_enter Try.func11, Try.ntmps11
  go_wp2_with fail
  generalize (w.alloc (.cells #[.int .i64 b, .int .i64 x, .int .i64 y, .int .i64 z, .float .f32 e] 101)) = W at *
  refine (hT _).mono ?_
  rintro en w1 ⟨rfl, hb1⟩
  rw [hsz] at hb1
  have B1 := Lib.hid hb1
  clear hb1
  go_wp2_with fail
  refine (hS _).mono ?_
  rintro en w2 ⟨a0, c0, rfl, ho0, hb2⟩
  have B2 := Lib.hid (B1.out.trans (hb2.mono (by have := B1.out.size; omega)))
  have O0 := Lib.hid (OwnF.reads ho0 Hlt.out)
  clear ho0 hb2
  have q := KK.out w2 B2.out
  have q0 := q.1
  have q1 := q.2.1
  have q2 := q.2.2.1
  have q3 := q.2.2.2.1
  have q4 := q.2.2.2.2
  clear q
  go_wp2_with fail
  refine (hT _).mono ?_
  rintro en w3 ⟨rfl, hb3⟩
  have B3 := Lib.hid (B2.out.trans (hb3.mono (by have := B2.out.size; omega)))
  have O03 := Lib.hid (O0.out.stays hb3 (Nat.le_refl _))
  clear hb3 q0 q1 q2 q3 q4 O0
  go_wp2_with fail
  refine (hI _).mono ?_
  rintro en w4 ⟨a1, c1, rfl, ho1, hb4⟩
  have B4 := Lib.hid (B3.out.trans (hb4.mono (by have := B3.out.size; omega)))
  have O04 := Lib.hid (O03.out.stays hb4 (Nat.le_refl _))
  have O1 := Lib.hid ho1
  have S34 := Lib.hid hb4
  have S3 := Lib.hid B3.out.size
  clear ho1 hb4
  have hok : (ok != ok) = false := by simp
  go_wp2_with fail
  refine (eqF_any _ _ _ _ _ _ _ (OwnF.reads O1.out Hlt.out) O04.out (by omega)).mono ?_
  rintro en w5 ⟨m5, rfl, rfl⟩
  go_wp2_with fail
  refine (markF_any _ w3.heap.size _ _ _ (show OwnF w3.heap.size (w4.drewN m5) a1 c1 R from O1.out) (by omega) S34.out.size).mono ?_
  rintro en w6 ⟨rfl, ho6, hb6⟩
  have H36 := Lib.hid ((S34.out.trans ((below_drawn w4 m5).mono S34.out.size)).trans hb6)
  have B6 := Lib.hid (B3.out.trans (H36.out.mono (by have := S3.out; omega)))
  have O06 := Lib.hid (O03.out.stays H36.out (Nat.le_refl _))
  have hm := OwnF.reads ho6 (fmarks_in R.length (by omega))
  rw [fmarks_len] at hm
  have O6 := Lib.hid hm
  clear ho6 hb6 O1 O04 H36 S34 S3 B3 O03 B4 hm
  go_wp2_with fail
  refine (heldF_any _ _ _ _ O6.out (by omega)).mono ?_
  rintro en w7 ⟨rfl, rfl⟩
  have q := KK.out w7 B6.out
  have q0 := q.1
  have q1 := q.2.1
  have q2 := q.2.2.1
  have q3 := q.2.2.2.1
  have q4 := q.2.2.2.2
  clear q
  go_wp2_with fail
  refine (hT _).mono ?_
  rintro en w8 ⟨rfl, hb8⟩
  have B8 := Lib.hid (B6.out.trans (hb8.mono (by have := B6.out.size; omega)))
  have O08 := Lib.hid (O06.out.stays hb8 (Nat.le_refl _))
  have O8 := Lib.hid (O6.out.stays hb8 (Nat.le_refl _))
  clear hb8 q0 q1 q2 q3 q4 O06 O6
  go_wp2_with fail
  refine (hI _).mono ?_
  rintro en w9 ⟨a2, c2, rfl, ho2, hb9⟩
  have B9 := Lib.hid (B8.out.trans (hb9.mono (by have := B8.out.size; omega)))
  have O09 := Lib.hid (O08.out.stays hb9 (Nat.le_refl _))
  have O9 := Lib.hid (O8.out.stays hb9 (Nat.le_refl _))
  have O2 := Lib.hid (OwnF.reads ho2 Hlt.out)
  clear ho2 hb9 O08 O8
  go_wp2_with fail
  refine (eqF_any _ _ _ _ _ _ _ O2.out O09.out (by omega)).mono ?_
  rintro en w10 ⟨m10, rfl, rfl⟩
  go_wp2_with fail
  refine (heldF_any _ _ _ _ (show FRd (w9.drewN m10) _ _ _ _ from O9.out) (by omega)).mono ?_
  rintro en w11 ⟨rfl, rfl⟩
  go_wp2
  go_ret
  exact ⟨rfl, (BW.out.trans (B9.out.mono (by omega))).trans (show Below w.heap.size w9 (w9.drewN m10) from (below_drawn w9 m10).mono (by have := B9.out.size; omega))⟩
end Go.Proofs.Ytbcjgjdkapdihaa.fnExactRatiosOf
