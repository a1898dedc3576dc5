/-
  Complex numbers and phases that are drawn. No theorem of a claim stands here.
-/
import Derived.Test.YtbcjgjdkapdihaaDrawF
set_option linter.unusedVariables false
namespace Go.Proofs.Ytbcjgjdkapdihaa
open Go Go.RowKit Go.Deep Go.Proofs.Ytbcjgjdkapdihaa.Fl

def DC (p : Nat) (a : Option Addr) (len cap i c : Nat) (w : World) (e : Ending) (w' : World) : Prop :=
  ∃ (re im j : Nat), e = .returned (.complex .f32 re im) ∧ re < 2 ^ 32 ∧ im < 2 ^ 32 ∧ j ≤ i + c ∧ Src w' p a len cap j ∧ w.grownBy w' (some p)

set_option maxHeartbeats 4000000 in
theorem drawNumber_any (w : World) (p : Nat) (a : Option Addr) (len cap i : Nat) (hs : Src w p a len cap i) (hi : i ≤ 999980000) (m : Int) (h0 : 0 ≤ m) (h1 : m ≤ 1000) :
    Calls Try.prog 159 #[.pointer (some ⟨p, 0, none⟩), .int .i64 m] w (DC p a len cap i 24 w) := by
  have Hs := Lib.hid hs
  have Hg := Lib.hid (World.grownBy.refl w (some p))
  clear hs
  have hq := fun x y (w : World) => run_fov (P := Try.prog) .quo rfl 28 .f32 x y w
  go_enter Try.func159, Try.ntmps159
  go_wp2_with (first | (go_at_call 96; refine (one_any _ p a len cap _ Hs.out (by omega) 24 (by omega) (by omega)).mono ?_; rintro e1 w1 ⟨v1, j1, rfl, hj1, gs1, hg1⟩; (first | have Hg1 := Lib.hid (gtrans Hg.out hg1) | have Hg1 := Lib.hid (gtrans (gdr Hg.out _) hg1)); clear Hs Hg hg1; have Hs := Lib.hid gs1; have Hg := Lib.hid Hg1.out; clear gs1 Hg1; cases v1) | (go_at_call 198; refine (drawFloat_any _ p a len cap _ Hs.out (by omega)).mono ?_; rintro e2 w2 ⟨r, j, rfl, hr, hj, gs1, hg1⟩; (first | have Hg1 := Lib.hid (gtrans Hg.out hg1) | have Hg1 := Lib.hid (gtrans (gdr Hg.out _) hg1)); clear Hs Hg hg1; have Hs := Lib.hid gs1; have Hg := Lib.hid Hg1.out; clear gs1 Hg1) | (go_at_call 97; refine (pick_any _ p a len cap _ (by first | exact Hs.out | exact Hs.out.drew _) (by omega) (2 * m + 1) (by omega) (by omega)).mono ?_; rintro e3 w3 ⟨v, j, rfl, hv0, hv1, hj, gs1, hg1⟩; (first | have Hg1 := Lib.hid (gtrans Hg.out hg1) | have Hg1 := Lib.hid (gtrans (gdr Hg.out _) hg1)); clear Hs Hg hg1; have Hs := Lib.hid gs1; have Hg := Lib.hid Hg1.out; clear gs1 Hg1))
  · go_ret
    exact ⟨_, _, _, rfl, fov_lt _ _ _ _ _, fov_lt _ _ _ _ _, by omega, Hs.out.drew _, gdr Hg.out _⟩
  · go_ret
    exact ⟨_, _, _, rfl, by assumption, by assumption, by omega, Hs.out, Hg.out⟩
end Go.Proofs.Ytbcjgjdkapdihaa
