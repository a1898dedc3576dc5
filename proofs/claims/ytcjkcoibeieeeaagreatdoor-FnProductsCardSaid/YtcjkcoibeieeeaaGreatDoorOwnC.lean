/-
  Lists of complex numbers that a call owns. No theorem of a claim stands here.
-/
import Derived.Test.YtcjkcoibeieeeaaGreatDoorCplxI
set_option linter.unusedVariables false
namespace Go.Proofs.YtcjkcoibeieeeaaGreatDoor
open Go Go.RowKit Go.Deep Go.Proofs.YtcjkcoibeieeeaaGreatDoor.Fl

theorem OwnC.below {base : Nat} {w w' : World} {a : Option Addr} {cap : Nat} {l : List (Nat × Nat)} {B : Nat} (h : OwnC base w a cap l) (hb : Below B w w') (hB : w.heap.size ≤ B) : OwnC base w' a cap l := by
  refine ⟨h.1, ?_⟩
  rcases h.2 with h2 | ⟨g, c, cur, e1, h1, h2, h3⟩
  · exact .inl h2
  · have := (Array.getElem?_eq_some_iff.1 h2).1
    exact .inr ⟨g, c, cur, e1, h1, by rw [hb.block g (by omega)]; exact h2, h3⟩
theorem OwnC.base {b1 b2 : Nat} {w : World} {a : Option Addr} {cap : Nat} {l : List (Nat × Nat)} (h : OwnC b1 w a cap l) (hb : b2 ≤ b1) : OwnC b2 w a cap l := by
  refine ⟨h.1, ?_⟩
  rcases h.2 with h2 | ⟨g, c, cur, e1, h1, h2, h3⟩
  · exact .inl h2
  · exact .inr ⟨g, c, cur, e1, by omega, h2, h3⟩
theorem OwnC.cell {base : Nat} {w : World} {a : Option Addr} {cap : Nat} {l : List (Nat × Nat)} (h : OwnC base w a cap l) {k : Nat} (hk : k < l.length) :
    ∃ g, a = some ⟨g, 0, none⟩ ∧ base ≤ g ∧ g < w.heap.size ∧ l.length ≤ cap ∧ w.cell? ⟨g, k, none⟩ = some (.complex .f32 (l.getD k (0, 0)).1 (l.getD k (0, 0)).2) := by
  rcases h.2 with ⟨_, h2⟩ | ⟨g, c, cur, e1, h1, h2, h3, h4, h5, h6⟩
  · omega
  · simp at e1
    obtain ⟨rfl, rfl⟩ := e1
    refine ⟨g, rfl, h1, (Array.getElem?_eq_some_iff.1 h2).1, h3, ?_⟩
    have := h.cells (g := g) rfl k (.complex .f32 (l.getD k (0, 0)).1 (l.getD k (0, 0)).2) (by unfold cvals; rw [List.getElem?_map, List.getElem?_eq_getElem hk]; simp [List.getD, hk])
    rwa [add_none, Nat.zero_add] at this
theorem OwnC.row {base : Nat} {w : World} {a : Option Addr} {cap : Nat} {l : List (Nat × Nat)} (h : OwnC base w a cap l) (hl : l ≠ []) :
    ∃ (g : Nat) (f : Nat → Value), a = some ⟨g, 0, none⟩ ∧ base ≤ g ∧ g < w.heap.size ∧ l.length ≤ cap ∧ cap ≤ maxLen ∧ w.rowIs g 42 cap f := by
  rcases h.2 with ⟨_, h2⟩ | ⟨g, c, cur, e1, h1, h2, h3, h4, h5, h6⟩
  · exact absurd (List.length_eq_zero_iff.1 h2) hl
  · simp at e1
    obtain ⟨rfl, rfl⟩ := e1
    exact ⟨g, fun i => cur.getD i (.bool false), rfl, h1, (Array.getElem?_eq_some_iff.1 h2).1, h3, h4, cur, h2, by omega, fun i hi => by
      have : i < cur.size := by omega
      simp [Array.getD, this]⟩
theorem own_of_rowC {base g cap : Nat} {w : World} {f : Nat → Value} {l : List (Nat × Nat)} (h : w.rowIs g 42 cap f) (hb : base ≤ g) (hc : l.length ≤ cap) (hm : cap ≤ maxLen) (hf : ∀ i, i < l.length → f i = .complex .f32 (l.getD i (0, 0)).1 (l.getD i (0, 0)).2) : OwnC base w (some ⟨g, 0, none⟩) cap l := by
  obtain ⟨cur, h2, h3, h4⟩ := h
  refine ⟨by simp [cvals], .inr ⟨g, cap, cur, rfl, hb, h2, hc, hm, by omega, ?_⟩⟩
  apply List.ext_getElem?
  intro j
  rw [List.getElem?_take, Nat.mul_one]
  unfold cvals
  rw [List.getElem?_map]
  by_cases hj : j < l.length
  · rw [if_pos hj, Array.getElem?_toList, h4 j (by omega), hf j hj, List.getElem?_eq_getElem hj]
    simp [List.getD, hj]
  · rw [if_neg hj, List.getElem?_eq_none (by omega)]
    rfl



/-- The slice (a, len, cap) reads as the complex numbers l in w. -/
def CRd (w : World) (a : Option Addr) (len cap : Nat) (l : List (Nat × Nat)) : Prop :=
  l.length = len ∧ len ≤ cap ∧ ∀ k, k < len → ∃ b o, a = some ⟨b, o, none⟩ ∧ w.cell? ⟨b, o + k, none⟩ = some (.complex .f32 (l.getD k (0, 0)).1 (l.getD k (0, 0)).2) ∧ b < w.heap.size
theorem CRd.stays {w w' : World} {a : Option Addr} {len cap : Nat} {l : List (Nat × Nat)} {B : Nat} (h : CRd w a len cap l) (hb : Below B w w') (hB : w.heap.size ≤ B) : CRd w' a len cap l := by
  obtain ⟨h1, h2, h4⟩ := h
  refine ⟨h1, h2, fun k hk => ?_⟩
  obtain ⟨b, o, e, hc, hl⟩ := h4 k hk
  exact ⟨b, o, e, (hb.cell (show (⟨b, o + k, none⟩ : Addr).block < B from Nat.lt_of_lt_of_le hl hB)).trans hc, Nat.lt_of_lt_of_le hl hb.size⟩
theorem OwnC.reads {base : Nat} {w : World} {a : Option Addr} {cap : Nat} {l : List (Nat × Nat)} (h : OwnC base w a cap l) : CRd w a l.length cap l := by
  refine ⟨rfl, ?_, fun k hk => ?_⟩
  · rcases h.2 with ⟨e, h2⟩ | ⟨g, c, cur, e1, h1, h2, h3, _⟩
    · simp at e; omega
    · simp at e1; omega
  · obtain ⟨g, e, _, hl, _, hc⟩ := h.cell hk
    exact ⟨g, 0, e, by rw [Nat.zero_add]; exact hc, hl⟩

end Go.Proofs.YtcjkcoibeieeeaaGreatDoor
