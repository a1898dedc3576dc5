/-
  Fuses in the program: valid ones, heated ones. No theorem of a claim stands here.
-/
import Derived.Test.YthkjikennlaelaaFuseP
import Derived.Deep.Cut
import Derived.Deep.CutRange
set_option linter.unusedVariables false
set_option linter.unusedSimpArgs false
set_option maxRecDepth 8000
namespace Go.Proofs.Ythkjikennlaelaa
open Go Go.RowKit Go.Deep Go.Proofs.Ythkjikennlaelaa.Fl

theorem okU_split (h l c : Nat) : okU h l c = (amtB h && (amtB c && posB l)) := rfl
theorem validU_any (h l c : Nat) (lh : h < 2 ^ 32) (ll : l < 2 ^ 32) (lc : c < 2 ^ 32) (w : World) : Calls Try.prog 25 #[UV h l c] w (RB7 (.bool (okU h l c)) w) := by
  have T := bx1 w [.float .f32 h, .float .f32 l, .float .f32 c] 39
  have c0 := T.1.cell 0 (by simp)
  have c1 := T.1.cell 1 (by simp)
  have c2 := T.1.cell 2 (by simp)
  simp only [List.getD_cons_zero, List.getD_cons_succ] at c0 c1 c2
  have HB := Lib.hid T.2
  clear T
  unfold UV okU
  cases h1 : amtB h <;> cases h2 : amtB c <;> cases h3 : posB l
  all_goals
    have H1 := Lib.hid h1
    have H2 := Lib.hid h2
    have H3 := Lib.hid h3
    clear h1 h2 h3
    go_enter Try.func25, Try.ntmps25
    go_wp2_with (first | (go_at_call_of 57 (Value.float .f32 h); refine (isAmount_any _ lh _).mono ?_; rintro e w' ⟨m, rfl, rfl⟩; rw [H1.out]) | (go_at_call_of 57 (Value.float .f32 c); refine (isAmount_any _ lc _).mono ?_; rintro e w' ⟨m, rfl, rfl⟩; rw [H2.out]) | (go_at_call 54; refine (isPositive_any _ ll _).mono ?_; rintro e w' ⟨m, rfl, rfl⟩; rw [H3.out]))
    go_ret
    refine ⟨rfl, HB.out.trans ?_⟩
    first | exact (below_drawn _ _).mono HB.out.size | (rw [World.drewN_drewN]; exact (below_drawn _ _).mono HB.out.size) | (rw [World.drewN_drewN, World.drewN_drewN]; exact (below_drawn _ _).mono HB.out.size)
theorem l07Fuse_any (h l c : Nat) (lh : h < 2 ^ 32) (ll : l < 2 ^ 32) (lc : c < 2 ^ 32) (w : World) (g : Nat) (c0 : w.cell? ⟨g, 0, none⟩ = some (.float .f32 h)) (c1 : w.cell? ⟨g, 1, none⟩ = some (.float .f32 l)) (c2 : w.cell? ⟨g, 2, none⟩ = some (.float .f32 c)) :
    Calls Try.prog 64 #[.pointer (some ⟨g, 0, none⟩)] w (VRet (.bool (okU h l c)) w) := by
  unfold okU
  cases h1 : amtB h <;> cases h2 : amtB c <;> cases h3 : posB l
  all_goals
    have H1 := Lib.hid h1
    have H2 := Lib.hid h2
    have H3 := Lib.hid h3
    clear h1 h2 h3
    go_enter Try.func64, Try.ntmps64
    go_wp2_with (first | (go_at_call_of 65 (Value.float .f32 h); refine (l03Near_any _ lh _).mono ?_; rintro e w' ⟨m, rfl, rfl⟩; rw [H1.out]) | (go_at_call_of 65 (Value.float .f32 c); refine (l03Near_any _ lc _).mono ?_; rintro e w' ⟨m, rfl, rfl⟩; rw [H2.out]) | (go_at_call 69; refine (l07Positive_any _ ll _).mono ?_; rintro e w' ⟨m, rfl, rfl⟩; rw [H3.out]))
    go_ret
    first | exact ⟨_, rfl, rfl⟩ | exact ⟨_, rfl, World.drewN_drewN _ _ _⟩ | exact ⟨_, rfl, by rw [World.drewN_drewN, World.drewN_drewN]⟩
theorem specValidU_any (h l c : Nat) (lh : h < 2 ^ 32) (ll : l < 2 ^ 32) (lc : c < 2 ^ 32) (w : World) : Calls Try.prog 38 #[UV h l c] w (RB7 (.bool (okU h l c)) w) := by
  have T := bx1 w [.float .f32 h, .float .f32 l, .float .f32 c] 39
  have c0 := T.1.cell 0 (by simp)
  have c1 := T.1.cell 1 (by simp)
  have c2 := T.1.cell 2 (by simp)
  simp only [List.getD_cons_zero, List.getD_cons_succ] at c0 c1 c2
  have HB := Lib.hid T.2
  clear T
  unfold UV
  go_enter Try.func38, Try.ntmps38
  go_wp2_with (go_at_call 64; refine (l07Fuse_any h l c lh ll lc _ _ c0 c1 c2).mono ?_; rintro e w' ⟨m, rfl, rfl⟩)
  go_ret
  exact ⟨rfl, HB.out.trans ((below_drawn _ _).mono HB.out.size)⟩
theorem toFuse_any (h l c : Nat) (w : World) : Calls Try.prog 39 #[UV h l c] w (RB7 (UV h l c) w) := by
  have hst := fun (a : Addr) (v : Nat) (m : Mode) (w : World) => run_store Try.prog w a (.float .f32 v) m rfl
  unfold UV
  go_enter Try.func39, Try.ntmps39
  go_wp2
  try simp only [Exit.inBlock, Exit.then]
  refine bodyPost_ret (by simp [results, Try.results39, go_sem]; try rfl) rfl ?_
  exact ⟨rfl, (((Below.refl _ w).alloc (Nat.le_refl _) _).alloc (by simp) _).alloc (by simp; omega) _⟩
end Go.Proofs.Ythkjikennlaelaa
