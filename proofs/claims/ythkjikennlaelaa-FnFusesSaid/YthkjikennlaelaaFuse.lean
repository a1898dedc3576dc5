/-
  Fuses as values: what a fuse is behind some ticks, and behind a list of currents. Plain facts, no program. No theorem of a claim stands here.
-/
import Derived.Test.YthkjikennlaelaaOrd
import Derived.Test.YthkjikennlaelaaCv
set_option linter.unusedSimpArgs false
set_option linter.unusedVariables false
namespace Go.Proofs.Ythkjikennlaelaa.Fl
open Go Go.RowKit

/-- A fuse: its heat, its limit, how it cools. -/
def UV (h l c : Nat) : Value := .agg #[.float .f32 h, .float .f32 l, .float .f32 c]
def okU (h l c : Nat) : Bool := amtB h && (amtB c && posB l)
/-- The heat behind t ticks with the current x, ahead of the look at whether it is less than 0. -/
def warm (h c x t : Nat) : Option Nat := fop .sub .f32 (fop .add .f32 (vl .f32 h) (fop .mul .f32 (fop .mul .f32 (vl .f32 x) (vl .f32 x)) (vl .f32 t))) (fop .mul .f32 (vl .f32 c) (vl .f32 t))
def flat0 (r : Nat) : Nat := if ltF .f32 r 0 then 0 else r
/-- The heat behind t ticks, if the fuse is then valid. -/
def heat (h c x t : Nat) : Option Nat := (warm h c x t).bind fun r => if amtB (flat0 r) then some (flat0 r) else none
def heatV (h l c x t : Nat) : Value := match heat h c x t with
  | some r => .tuple #[UV r l c, .bool (geF .f32 r l), .bool true]
  | none => .tuple #[UV 0 0 0, .bool false, .bool false]
theorem heat_some {h c x t r : Nat} (e : heat h c x t = some r) : amtB r = true ∧ r < 2 ^ 32 ∧ vl .f32 r = some r := by
  unfold heat at e
  cases hw : warm h c x t with
  | none => rw [hw] at e; cases e
  | some q =>
    rw [hw] at e
    simp only [Option.bind_some] at e
    split at e
    · rename_i ha
      cases e
      have hv := (amtB_true ha).2.1
      refine ⟨ha, ?_, hv⟩
      unfold flat0
      split
      · decide
      · unfold warm fop at hw
        cases h1 : (Option.bind (vl .f32 h) fun a => (fop .mul .f32 (fop .mul .f32 (vl .f32 x) (vl .f32 x)) (vl .f32 t)).bind fun b => floatBits .add .f32 a b) with
        | none => simp only [fop] at h1; rw [h1] at hw; cases hw
        | some a =>
          simp only [fop] at h1
          rw [h1] at hw
          simp only [Option.bind_some] at hw
          cases h2 : ((vl .f32 c).bind fun a => (vl .f32 t).bind fun b => floatBits .mul .f32 a b) with
          | none => rw [h2] at hw; cases hw
          | some b =>
            rw [h2] at hw
            exact lt_of_wf (k := .f32) (floatBits_wf (show floatBits .sub .f32 a b = some q from hw))
    · cases e
/-- What is left of a fuse behind a list of currents: at which one it blew (or -1), and its heat. -/
def runU (l c t : Nat) : Nat → List Nat → Nat → Option (Int × Nat)
  | h, [], _ => some (-1, h)
  | h, x :: xs, i => match heat h c x t with
    | none => none
    | some r => if geF .f32 r l then some ((i : Int), r) else runU l c t r xs (i + 1)
def runV (l c : Nat) (o : Option (Int × Nat)) : Value := match o with
  | some (i, r) => .tuple #[.int .i64 i, UV r l c, .bool true]
  | none => .tuple #[.int .i64 0, UV 0 0 0, .bool false]
end Go.Proofs.Ythkjikennlaelaa.Fl
