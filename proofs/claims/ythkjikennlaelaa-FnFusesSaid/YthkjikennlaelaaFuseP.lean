/-
  Fuses in the program: which are valid, what one is behind some ticks. No theorem of a claim stands here.
-/
import Derived.Test.YthkjikennlaelaaFuse
import Derived.Test.YthkjikennlaelaaFin
import Derived.Test.YthkjikennlaelaaMath
import Derived.Test.YthkjikennlaelaaRowL
import Derived.Test.YthkjikennlaelaaQTail
import Derived.Lib.Hide
import Derived.Deep.RegionWith
import Derived.Deep.Cut
import Derived.Deep.CutRange
set_option linter.unusedVariables false
set_option linter.unusedSimpArgs false
set_option maxRecDepth 8000
namespace Go.Proofs.Ythkjikennlaelaa
open Go Go.RowKit Go.Deep Go.Proofs.Ythkjikennlaelaa.Fl

/-- A call that hands back v and leaves all old memory alone. -/
def RB7 (v : Value) (w : World) (e : Ending) (w' : World) : Prop := e = .returned v ∧ Below w.heap.size w w'
theorem bx1 (w : World) (L : List Value) (t : TypeId) : RL (w.alloc (.cells L.toArray t)) w.heap.size t L ∧ Below w.heap.size w (w.alloc (.cells L.toArray t)) := ⟨RL.new w L t, (Below.refl _ w).alloc (Nat.le_refl _) _⟩
theorem bx2 (w : World) (L M : List Value) (t u : TypeId) : RL ((w.alloc (.cells L.toArray t)).alloc (.cells M.toArray u)) w.heap.size t L ∧ RL ((w.alloc (.cells L.toArray t)).alloc (.cells M.toArray u)) (w.heap.size + 1) u M ∧
    Below w.heap.size w ((w.alloc (.cells L.toArray t)).alloc (.cells M.toArray u)) := by
  have h2 := RL.new (w.alloc (.cells L.toArray t)) M u
  simp only [World.size_alloc] at h2
  exact ⟨(RL.new w L t).allocd _, h2, ((Below.refl _ w).alloc (Nat.le_refl _) _).alloc (by simp only [World.size_alloc]; omega) _⟩
theorem isAmount_any (b : Nat) (hb : b < 2 ^ 32) (w : World) : Calls Try.prog 57 #[.float .f32 b] w (VRet (.bool (amtB b)) w) := by
  cases hf : fin .f32 (vl .f32 b)
  · have Hf := Lib.hid hf
    have He := Lib.hid (show amtB b = false by unfold amtB; rw [hf]; rfl)
    clear hf
    go_enter Try.func57, Try.ntmps57
    go_wp2_with (go_at_call 70; refine (isFinite_any _ hb _).mono ?_; rintro e w' ⟨m, rfl, rfl⟩; rw [Hf.out])
    go_ret
    exact ⟨_, by rw [He.out]; rfl, rfl⟩
  · have Hf := Lib.hid hf
    have He := Lib.hid (show amtB b = geF .f32 b 0 by unfold amtB; rw [hf]; rfl)
    clear hf
    go_enter Try.func57, Try.ntmps57
    go_wp2_with (go_at_call 70; refine (isFinite_any _ hb _).mono ?_; rintro e w' ⟨m, rfl, rfl⟩; rw [Hf.out])
    go_ret
    exact ⟨_, by rw [He.out]; rfl, rfl⟩
theorem isPositive_any (b : Nat) (hb : b < 2 ^ 32) (w : World) : Calls Try.prog 54 #[.float .f32 b] w (VRet (.bool (posB b)) w) := by
  cases hf : fin .f32 (vl .f32 b)
  · have Hf := Lib.hid hf
    have He := Lib.hid (show posB b = false by unfold posB; rw [hf]; rfl)
    clear hf
    go_enter Try.func54, Try.ntmps54
    go_wp2_with (go_at_call 70; refine (isFinite_any _ hb _).mono ?_; rintro e w' ⟨m, rfl, rfl⟩; rw [Hf.out])
    go_ret
    exact ⟨_, by rw [He.out]; rfl, rfl⟩
  · have Hf := Lib.hid hf
    have He := Lib.hid (show posB b = gtF .f32 b 0 by unfold posB; rw [hf]; rfl)
    clear hf
    go_enter Try.func54, Try.ntmps54
    go_wp2_with (go_at_call 70; refine (isFinite_any _ hb _).mono ?_; rintro e w' ⟨m, rfl, rfl⟩; rw [Hf.out])
    go_ret
    exact ⟨_, by rw [He.out]; rfl, rfl⟩
theorem l03Near_any (b : Nat) (hb : b < 2 ^ 32) (w : World) : Calls Try.prog 65 #[.float .f32 b] w (VRet (.bool (amtB b)) w) := by
  cases hf : fin .f32 (vl .f32 b)
  · have Hf := Lib.hid hf
    have He := Lib.hid (show amtB b = false by unfold amtB; rw [hf]; rfl)
    clear hf
    go_enter Try.func65, Try.ntmps65
    go_wp2_with (go_at_call 73; refine (l01Finite_any _ hb _).mono ?_; rintro e w' ⟨m, rfl, rfl⟩; rw [Hf.out])
    go_ret
    exact ⟨_, by rw [He.out]; rfl, rfl⟩
  · have Hf := Lib.hid hf
    have He := Lib.hid (show amtB b = geF .f32 b 0 by unfold amtB; rw [hf]; rfl)
    clear hf
    go_enter Try.func65, Try.ntmps65
    go_wp2_with (go_at_call 73; refine (l01Finite_any _ hb _).mono ?_; rintro e w' ⟨m, rfl, rfl⟩; rw [Hf.out])
    go_ret
    exact ⟨_, by rw [He.out]; rfl, rfl⟩
theorem l07Positive_any (b : Nat) (hb : b < 2 ^ 32) (w : World) : Calls Try.prog 69 #[.float .f32 b] w (VRet (.bool (posB b)) w) := by
  cases hf : fin .f32 (vl .f32 b)
  · have Hf := Lib.hid hf
    have He := Lib.hid (show posB b = false by unfold posB; rw [hf]; rfl)
    clear hf
    go_enter Try.func69, Try.ntmps69
    go_wp2_with (go_at_call 73; refine (l01Finite_any _ hb _).mono ?_; rintro e w' ⟨m, rfl, rfl⟩; rw [Hf.out])
    go_ret
    exact ⟨_, by rw [He.out]; rfl, rfl⟩
  · have Hf := Lib.hid hf
    have He := Lib.hid (show posB b = gtF .f32 b 0 by unfold posB; rw [hf]; rfl)
    clear hf
    go_enter Try.func69, Try.ntmps69
    go_wp2_with (go_at_call 73; refine (l01Finite_any _ hb _).mono ?_; rintro e w' ⟨m, rfl, rfl⟩; rw [Hf.out])
    go_ret
    exact ⟨_, by rw [He.out]; rfl, rfl⟩
/-- A product of any two numbers. -/
theorem mulF_any (x y : Nat) (w : World) : Calls Try.prog 50 #[.float .f32 x, .float .f32 y] w (FRet .f32 (fop .mul .f32 (vl .f32 x) (vl .f32 y)) w) := by
  have hm := fun x y w => run_fov (P := Try.prog) .mul rfl 28 .f32 x y w
  go_enter Try.func50, Try.ntmps50
  go_wp2
  go_ret
  exact ⟨_, _, rfl, vl_fov _ _ _ _ _, fov_lt _ _ _ _ _, rfl⟩
end Go.Proofs.Ythkjikennlaelaa
