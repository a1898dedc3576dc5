/-
  A fuse that is used without cooling. No theorem of a claim stands here.
-/
import Derived.Test.YthkjikennlaelaaFuseT
import Derived.Test.YthkjikennlaelaaFuseD
set_option linter.unusedVariables false
set_option linter.unusedSimpArgs false
set_option maxRecDepth 8000
namespace Go.Proofs.Ythkjikennlaelaa
open Go Go.RowKit Go.Deep Go.Proofs.Ythkjikennlaelaa.Fl

theorem hotR {h l x : Nat} {n m : Int} (hh : Dy .f32 5 h n) (hx : Dy .f32 2 x m) (n0 : 0 ≤ n) (hn : n ≤ 100000) (hm : 0 ≤ m ∧ m ≤ 20) (hp : posB l = true) :
    ∃ r, heatR h l 0 x 1056964608 = .tuple #[.agg #[.float .f32 r, .float .f32 l, .float .f32 0], .bool (geF .f32 r l), .bool true] ∧ geF .f32 r h = true := by
  obtain ⟨r, e, d⟩ := heat_dy hh hx (dy_zero 2) (show Dy .f32 1 1056964608 1 from ⟨by decide, by decide +kernel, fun _ => by decide⟩) n0 hn ⟨by omega, by omega⟩ ⟨by omega, by omega⟩
  refine ⟨r, ?_, ?_⟩
  · unfold heatR okU
    rw [amtB_of hh.1 (dy_nonneg hh n0), amtB_of (dy_zero 2).1 (dy_nonneg (dy_zero 2) (by omega)), hp]
    rw [show amtB 1056964608 = true by decide]
    unfold heatV
    rw [e]; rfl
  · unfold geF
    rw [dy_order d hh]
    have hm2 : 0 ≤ m * m := Int.mul_nonneg hm.1 hm.1
    unfold h32
    rw [if_neg (by omega)]
    show ((some (if n + m * m - 4 * 0 < n then Ordering.lt else if n + m * m - 4 * 0 = n then Ordering.eq else Ordering.gt)) == some .gt || (some (if n + m * m - 4 * 0 < n then Ordering.lt else if n + m * m - 4 * 0 = n then Ordering.eq else Ordering.gt)) == some .eq) = true
    rw [if_neg (by omega)]
    split <;> rfl
end Go.Proofs.Ythkjikennlaelaa
