/-
  Taps: one tap as a value, its checks. No theorem of a claim stands here.
-/
import Derived.Test.YtbcjgjdkapdihabSame
import Derived.Test.YtbcjgjdkapdihabQTail
import Derived.Deep.RegionWith
set_option linter.unusedVariables false
set_option linter.unusedSimpArgs false
set_option maxRecDepth 8000
namespace Go.Proofs.Ytbcjgjdkapdihab
open Go Go.RowKit Go.Deep Go.Proofs.Ytbcjgjdkapdihab.Fl

/-- The value of a tap. -/
def TV (b x y z : Int) (e : Nat) : Value := .agg #[.int .i64 b, .int .i64 x, .int .i64 y, .int .i64 z, .float .f32 e]
theorem toTap_any (b x y z : Int) (e : Nat) (w : World) : Calls Try.prog 11 #[TV b x y z e] w fun en w' => en = .returned (TV b x y z e) ∧ Below w.heap.size w w' := by
  have hst := fun (a : Addr) (v : Nat) (m : Mode) (w : World) => run_store Try.prog w a (.float .f32 v) m rfl
  unfold TV
  go_enter Try.func11, Try.ntmps11
  go_wp2
  try simp only [Exit.inBlock, Exit.then]
  refine bodyPost_ret (by simp [results, Try.results11, go_sem]; try rfl) rfl ?_
  exact ⟨rfl, (((Below.refl _ w).alloc (Nat.le_refl _) _).alloc (by simp) _).alloc (by simp; omega) _⟩
/-- Whether a tap is one. -/
def inS (x : Int) : Bool := decide (-16 ≤ x ∧ x ≤ 16)
def eachOk (e : Nat) : Bool := (FloatKind.f32.format.order e 0 == some .gt || FloatKind.f32.format.order e 0 == some .eq) && (FloatKind.f32.format.order e 1031798784 == some .lt || FloatKind.f32.format.order e 1031798784 == some .eq)
def tapOk (x y z : Int) (e : Nat) : Bool := inS x && inS y && inS z && eachOk e
theorem inS_true {x : Int} (h : inS x = true) : -16 ≤ x ∧ x ≤ 16 := by unfold inS at h; simpa using h
theorem inS_false {x : Int} (h : inS x = false) : x < -16 ∨ (¬ x < -16 ∧ 16 < x) := by unfold inS at h; simp at h; omega
def tst (x y z : Int) (k : Nat) : Int := if k = 0 then x else if k = 1 then y else z
end Go.Proofs.Ytbcjgjdkapdihab
