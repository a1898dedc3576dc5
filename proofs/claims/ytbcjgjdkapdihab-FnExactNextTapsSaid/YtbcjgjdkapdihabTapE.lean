/-
  Taps that are the same. No theorem of a claim stands here.
-/
import Derived.Test.YtbcjgjdkapdihabTapS
import Derived.Test.YtbcjgjdkapdihabBits
import Derived.Laws.StructEq
import Derived.Laws.Cover2
set_option linter.unusedVariables false
set_option linter.unusedSimpArgs false
set_option maxRecDepth 8000
namespace Go.Proofs.Ytbcjgjdkapdihab
open Go Go.RowKit Go.Deep Go.Proofs.Ytbcjgjdkapdihab.Fl

/-- The value of the taps. -/
def TapN.val (t : TapN) : Value := .agg #[.int .i64 t.b, .int .i64 t.x, .int .i64 t.y, .int .i64 t.z, .float .f32 t.e]
def sameE (a b : Nat) : Bool := bitsV (vl .f32 a) == bitsV (vl .f32 b)
def sameT (t u : TapN) : Bool := t.b == u.b && (t.x == u.x && t.y == u.y && t.z == u.z) && sameE t.e u.e

set_option maxHeartbeats 4000000 in
theorem eqTap_any (t : TapN) (w : World) : Calls Try.prog 13 #[t.val, t.val] w fun en w' => en = .returned (.bool true) ∧ Below w.heap.size w w' := by
  obtain ⟨b, x, y, z, e⟩ := t
  unfold TapN.val
  have hcv := run_cv
  go_enter Try.func13, Try.ntmps13
  go_wp2_with (go_at_call 14; refine (sameFloat_any _ _ (same_cvv _ _ _) _).mono ?_; rintro en w' ⟨m, rfl, rfl⟩)
  try simp only [Exit.inBlock, Exit.then]
  go_ret
  refine ⟨rfl, ?_⟩
  exact (((Below.refl _ w).alloc (Nat.le_refl _) _).alloc (by simp) _).trans (show Below w.heap.size _ (World.drewN _ _) from ⟨rfl, rfl, rfl, Nat.le_refl _, fun _ _ => rfl⟩)
set_option maxHeartbeats 4000000 in
theorem eqTapS_any (w : World) (g g2 len m m2 c c2 : Nat) (S : Nat → TapN) (h1 : TR w g m len S) (h2 : TR w g2 m2 len S) (hm : len * 5 ≤ m) (hm2 : len * 5 ≤ m2) (hl : len ≤ 1048576) (hc : len ≤ c) (hc2 : len ≤ c2) :
    Calls Try.prog 8 #[.slice (some ⟨g, 0, none⟩) len c, .slice (some ⟨g2, 0, none⟩) len c2] w fun en w' => en = .returned (.bool true) ∧ Below w.heap.size w w' := by
  have hne : ((len : Int) != (len : Int)) = false := by simp
  have H1 := Lib.hid h1
  have H2 := Lib.hid h2
  clear h1 h2
  go_enter Try.func8, Try.ntmps8
  go_wp2
  go_loopw [5] (fun i wr => ∃ k : Nat, k ≤ len ∧ i = .int .i64 k ∧ Hid (Below w.heap.size w wr)) (fun i _ => len - (intOf i).toNat)
  case atStart => exact ⟨0, Nat.zero_le _, rfl, Lib.hid (Below.refl _ _)⟩
  case round =>
    obtain ⟨k, hk, rfl, Hw⟩ := hrel
    by_cases hlt : k < len
    · have r1 := H1.out.below Hw.out H1.out.lt
      have r2 := H2.out.below Hw.out H2.out.lt
      have c0 := fun y : Grown wr => y.cell (r1.cell (i := k) (q := 0) hlt (by omega) (by omega))
      have c1 := fun y : Grown wr => y.cell (r1.cell (i := k) (q := 1) hlt (by omega) (by omega))
      have c2 := fun y : Grown wr => y.cell (r1.cell (i := k) (q := 2) hlt (by omega) (by omega))
      have c3 := fun y : Grown wr => y.cell (r1.cell (i := k) (q := 3) hlt (by omega) (by omega))
      have c4 := fun y : Grown wr => y.cell (r1.cell (i := k) (q := 4) hlt (by omega) (by omega))
      have d0 := fun y : Grown wr => y.cell (r2.cell (i := k) (q := 0) hlt (by omega) (by omega))
      have d1 := fun y : Grown wr => y.cell (r2.cell (i := k) (q := 1) hlt (by omega) (by omega))
      have d2 := fun y : Grown wr => y.cell (r2.cell (i := k) (q := 2) hlt (by omega) (by omega))
      have d3 := fun y : Grown wr => y.cell (r2.cell (i := k) (q := 3) hlt (by omega) (by omega))
      have d4 := fun y : Grown wr => y.cell (r2.cell (i := k) (q := 4) hlt (by omega) (by omega))
      have hE := fun w => eqTap_any (S k) w
      unfold TapN.val at hE
      simp only [tv, Nat.add_zero] at c0 c1 c2 c3 c4 d0 d1 d2 d3 d4
      generalize (S k).b = vb at *
      generalize (S k).x = vx at *
      generalize (S k).y = vy at *
      generalize (S k).z = vz at *
      generalize (S k).e = ve at *
      clear r1 r2
      go_wp2_with fail
      refine wp_grown (by kernel_rfl) (by kernel_rfl) ?_
      repeat (go_big_quiet_step (exact Grown.calls _ (hE _)))
      refine wpQuiet_nil ?_
      rintro _ ⟨y, rfl⟩
      have Hy := Lib.hid (Hw.out.trans (y.2.mono Hw.out.size))
      generalize y.1 = w5 at *
      clear c0 c1 c2 c3 c4 d0 d1 d2 d3 d4 hE
      go_wp2
      go_roundw
      case rel => exact ⟨k + 1, by omega, by go_num, Hy⟩
      case measure => simp [intOf]; omega
    · obtain rfl : k = len := by omega
      go_wp2
      go_ret
      exact ⟨rfl, Hw.out⟩
/-- Whether the first n taps are the same. -/
def sameAll (S U : Nat → TapN) (n : Nat) : Bool := (List.range n).all fun k => sameT (S k) (U k)
theorem sameAll_no {S U : Nat → TapN} {n k : Nat} (hk : k < n) (h : sameT (S k) (U k) = false) : sameAll S U n = false := by
  unfold sameAll
  rw [List.all_eq_false]
  exact ⟨k, List.mem_range.2 hk, by rw [h]; simp⟩
theorem sameAll_yes {S U : Nat → TapN} {n : Nat} (h : ∀ k, k < n → sameT (S k) (U k) = true) : sameAll S U n = true := by
  unfold sameAll
  rw [List.all_eq_true]
  exact fun k hk => h k (List.mem_range.1 hk)
end Go.Proofs.Ytbcjgjdkapdihab
