/-
  Room for buses: slices.Grow of no slice, in the program. No theorem of a claim stands here.
-/
import Derived.Test.YtbcjgjdkapdihaaCloneB
import Derived.Lib.AppendZerosOnto
import Derived.Lib.Walk
import Derived.Lib.SliceRun
set_option linter.unusedVariables false
set_option linter.unusedSimpArgs false
set_option maxRecDepth 8000
namespace Go.Proofs.Ytbcjgjdkapdihaa
open Go Go.RowKit Go.Shelf Go.Deep Go.Proofs.Ytbcjgjdkapdihaa.Fl

theorem cap_fits : ∀ n, n ≤ 16 → Builtin.nextslicecap (0 + n) 0 * 64 ≤ 281474976710656 := by decide
set_option maxHeartbeats 4000000 in
theorem growB_any (w : World) (n : Nat) (h1 : 1 ≤ n) (h2 : n ≤ 16) : Calls Try.prog 192 #[.slice none 0 0, .int .i64 n] w fun e w' => ∃ g' c', e = .returned (.slice (some ⟨g', 0, none⟩) 0 c') ∧ w'.ownsRow w.heap.size 89 8 (.slice (some ⟨g', 0, none⟩) 0 c') 0 (flat []) ∧ Below w.heap.size w w' := by
  obtain ⟨i0, hz, hz0, hz1, hz2⟩ := info_parts infoBus
  obtain ⟨G, mc, hGn, hGm, hmc, hrz⟩ : ∃ (G : Nat) (mc : Array Value), n ≤ G ∧ G ≤ maxLen ∧ mc.size = G * 8 ∧ ∀ ty, (Builtin.append_ #[38, 3] ty #[.slice none 0 0, .int .i64 (n : Int)]).run Try.prog w = .ok (.slice (some ⟨w.heap.size, 0, none⟩) (0 + n) G) (w.drew.alloc (.cells mc 89)) := by
    refine ⟨grownCap w (0 + n) 0 89, _, by have := grownCap_ge w (0 + n) 0 89; omega, grownCap_le_maxLen w (0 + n) 0 _ (by unfold maxLen; omega), ?sz, fun ty => Lib.run_append_grow_zeros (P := Try.prog) w 38 3 ty 89 i0 _ .i64 .i64 Try.underlying38 Try.underlying3 hz hz0 none 0 0 [] (run_firstCells_none w.drew i0.size 0 0 0) n (by omega) (by rw [hz1]; omega) (by omega) (by omega) (by rw [hz2]; omega) (by rw [hz2]; exact cap_fits n h2)⟩
    have := grownCap_ge w (0 + n) 0 89
    simp only [Array.size_append, size_zeroCells, List.size_toArray, List.length_nil]
    show 0 + n * 8 + (grownCap w (0 + n) 0 89 - (0 + n)) * 8 = _
    omega
  simp only [Nat.zero_add] at hrz
  have hO := World.ownsRow_made (base := w.heap.size) (e := 89) (size := 8) w.drew mc G (Nat.le_refl _) hGm hmc
  have hb : Below w.heap.size w (w.drew.alloc (.cells mc 89)) := (show Below w.heap.size w w.drew from ⟨rfl, rfl, rfl, Nat.le_refl _, fun _ _ => rfl⟩).alloc (Nat.le_refl _) _
  have HO := Lib.hid hO
  have HB := Lib.hid hb
  unfold maxLen at hGm
  clear hO hb hmc
  go_enter Try.func192, Try.ntmps192
  go_wp2_with (at_builtin; refine Lib.wpList_append_run _ rfl _ _ _ _ rfl _ _ rfl rfl _ _ (hrz _) ?_)
  all_goals (go_ret; exact ⟨_, _, rfl, HO.out, HB.out⟩)
end Go.Proofs.Ytbcjgjdkapdihaa
