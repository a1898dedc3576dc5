/-
  Taps: one tap as a value, its checks. No theorem of a claim stands here.
-/
import Derived.Test.YtbcjgjdkapdihaaSame
import Derived.Test.YtbcjgjdkapdihaaQTail
import Derived.Deep.RegionWith
set_option linter.unusedVariables false
set_option linter.unusedSimpArgs false
set_option maxRecDepth 8000
namespace Go.Proofs.Ytbcjgjdkapdihaa
open Go Go.RowKit Go.Deep Go.Proofs.Ytbcjgjdkapdihaa.Fl

/-- The value of a tap. -/
def TV (b x y z : Int) (e : Nat) : Value := .agg #[.int .i64 b, .int .i64 x, .int .i64 y, .int .i64 z, .float .f32 e]
theorem toTap_any (b x y z : Int) (e : Nat) (w : World) : Calls Try.prog 73 #[TV b x y z e] w fun en w' => en = .returned (TV b x y z e) ∧ Below w.heap.size w w' := by
  have hst := fun (a : Addr) (v : Nat) (m : Mode) (w : World) => run_store Try.prog w a (.float .f32 v) m rfl
  unfold TV
  go_enter Try.func73, Try.ntmps73
  go_wp2
  try simp only [Exit.inBlock, Exit.then]
  refine bodyPost_ret (by simp [results, Try.results73, go_sem]; try rfl) rfl ?_
  exact ⟨rfl, (((Below.refl _ w).alloc (Nat.le_refl _) _).alloc (by simp) _).alloc (by simp; omega) _⟩
theorem stepsOf_any (b x y z : Int) (e : Nat) (w : World) : Calls Try.prog 148 #[TV b x y z e] w fun en w' => en = .returned (.agg #[.int .i64 x, .int .i64 y, .int .i64 z]) ∧ Below w.heap.size w w' := by
  unfold TV
  go_enter Try.func148, Try.ntmps148
  go_wp2
  try simp only [Exit.inBlock, Exit.then]
  refine bodyPost_ret (by simp [results, Try.results148, go_sem]; try rfl) rfl ?_
  exact ⟨rfl, (((Below.refl _ w).alloc (Nat.le_refl _) _).alloc (by simp) _)⟩
/-- Whether a tap is one. -/
def inS (x : Int) : Bool := decide (-16 ≤ x ∧ x ≤ 16)
def eachOk (e : Nat) : Bool := (FloatKind.f32.format.order e 0 == some .gt || FloatKind.f32.format.order e 0 == some .eq) && (FloatKind.f32.format.order e 1031798784 == some .lt || FloatKind.f32.format.order e 1031798784 == some .eq)
def tapOk (x y z : Int) (e : Nat) : Bool := inS x && inS y && inS z && eachOk e
theorem l00In_any (n : Int) (w : World) : Calls Try.prog 130 #[.int .i64 n, .int .i64 (-16), .int .i64 16] w fun en w' => en = .returned (.bool (inS n)) ∧ w' = w := by
  unfold inS
  go_enter Try.func130, Try.ntmps130
  go_wp2
  all_goals go_ret
  all_goals refine ⟨?_, rfl⟩
  all_goals simp
  all_goals omega
set_option maxHeartbeats 4000000 in
theorem l05Tap_any (x y z : Int) (e : Nat) (w : World) (g : Nat) (c1 : w.cell? ⟨g, 1, none⟩ = some (.int .i64 x)) (c2 : w.cell? ⟨g, 2, none⟩ = some (.int .i64 y)) (c3 : w.cell? ⟨g, 3, none⟩ = some (.int .i64 z)) (c4 : w.cell? ⟨g, 4, none⟩ = some (.float .f32 e)) :
    Calls Try.prog 146 #[.pointer (some ⟨g, 0, none⟩)] w fun en w' => en = .returned (.bool (tapOk x y z e)) ∧ w' = w := by
  unfold tapOk
  go_enter Try.func146, Try.ntmps146
  cases hx : inS x <;> cases hy : inS y <;> cases hz : inS z
  all_goals go_wp2_with (first | (go_at_call_of 130 (Value.int .i64 x); refine (l00In_any _ _).mono ?_; rintro en w1 ⟨rfl, rfl⟩; rw [hx]) | (go_at_call_of 130 (Value.int .i64 y); refine (l00In_any _ _).mono ?_; rintro en w1 ⟨rfl, rfl⟩; rw [hy]) | (go_at_call_of 130 (Value.int .i64 z); refine (l00In_any _ _).mono ?_; rintro en w1 ⟨rfl, rfl⟩; rw [hz]))
  all_goals go_ret
  all_goals refine ⟨?_, rfl⟩
  all_goals first | rfl | (simp_all [eachOk]; done) | (unfold eachOk; simp_all)
theorem inS_true {x : Int} (h : inS x = true) : -16 ≤ x ∧ x ≤ 16 := by unfold inS at h; simpa using h
theorem inS_false {x : Int} (h : inS x = false) : x < -16 ∨ (¬ x < -16 ∧ 16 < x) := by unfold inS at h; simp at h; omega
def tst (x y z : Int) (k : Nat) : Int := if k = 0 then x else if k = 1 then y else z
set_option maxHeartbeats 4000000 in
theorem isTap_any (b x y z : Int) (e : Nat) (w : World) :
    Calls Try.prog 111 #[TV b x y z e] w fun en w' => en = .returned (.bool (tapOk x y z e)) ∧ Below w.heap.size w w' := by
  have hS := fun w : World => stepsOf_any b x y z e w
  unfold TV at hS ⊢
  go_enter Try.func111, Try.ntmps111
  go_wp2_with (go_at_call 148; refine (hS _).mono ?_; clear hS; rintro en w1 ⟨rfl, hb1⟩; have B1 := Lib.hid hb1; clear hb1)
  have c4 : w1.cell? ⟨w.heap.size, 4, none⟩ = some (.float .f32 e) := (B1.out.cell (show (⟨w.heap.size, 4, none⟩ : Addr).block < _ by simp)).trans (by simp [go_sem])
  have B2 := Lib.hid ((show Below w.heap.size w (w.alloc (.cells #[.int .i64 b, .int .i64 x, .int .i64 y, .int .i64 z, .float .f32 e] 103)) from (Below.refl _ w).alloc (Nat.le_refl _) _).trans (B1.out.mono (by simp)))
  clear B1
  go_loopw [7] (fun I wr => ∃ k : Nat, k ≤ 3 ∧ I = .int .i64 k ∧ wr = w1 ∧ ∀ j, j < k → inS (tst x y z j) = true) (fun I _ => 3 - (intOf I).toNat)
  case atStart => exact ⟨0, by omega, rfl, rfl, fun j hj => by omega⟩
  case round =>
    obtain ⟨k, hk, rfl, rfl, hj⟩ := hrel
    by_cases h3 : k = 3
    · subst h3
      have hx : inS x = true := hj 0 (by omega)
      have hy : inS y = true := hj 1 (by omega)
      have hz : inS z = true := hj 2 (by omega)
      have hp : tapOk x y z e = eachOk e := by unfold tapOk; rw [hx, hy, hz]; rfl
      go_wp2
      all_goals go_ret
      all_goals (try rw [hp])
      all_goals refine ⟨?_, B2.out⟩
      all_goals first | rfl | (simp_all [eachOk]; done) | (unfold eachOk; simp_all)
    · have hix : ∀ w : World, (Instr.index 159 (.agg #[.int .i64 x, .int .i64 y, .int .i64 z]) (.int .i64 k)).run Try.prog w = .ok (.int .i64 (tst x y z k)) w := fun _ => by
        obtain rfl | rfl | rfl : k = 0 ∨ k = 1 ∨ k = 2 := by omega
        all_goals kernel_rfl
      have hp : tapOk x y z e = (tapOk x y z e && inS (tst x y z k)) := by
        obtain rfl | rfl | rfl : k = 0 ∨ k = 1 ∨ k = 2 := by omega
        all_goals (unfold tapOk tst; simp; try (intros; simp_all))
      cases hs : inS (tst x y z k)
      · rw [hs, Bool.and_false] at hp
        rcases inS_false hs with h1 | ⟨h1, h2⟩
        all_goals go_wp2
        all_goals go_ret
        all_goals first | exact ⟨rfl, B2.out⟩ | (rw [hp]; exact ⟨rfl, B2.out⟩)
      · obtain ⟨h1, h2⟩ := inS_true hs
        clear hp
        generalize hT : tst x y z k = T at *
        go_wp2
        go_roundw
        case rel =>
          refine ⟨k + 1, by omega, by go_num, by first | rfl | trivial, fun j hj2 => ?_⟩
          by_cases e : j = k
          · subst e; rw [hT]; exact hs
          · exact hj j (by omega)
        case measure => simp [intOf]; omega
end Go.Proofs.Ytbcjgjdkapdihaa
