/-
  Lists of floats that a call owns. No theorem of a claim stands here.
-/
import Derived.Test.YtcjkcoibeieeeaaGreatDoorReadF
set_option linter.unusedVariables false
namespace Go.Proofs.YtcjkcoibeieeeaaGreatDoor
open Go Go.RowKit Go.Deep Go.Proofs.YtcjkcoibeieeeaaGreatDoor.Fl

theorem OwnF.below {base : Nat} {w w' : World} {a : Option Addr} {cap : Nat} {l : List Nat} {B : Nat} (h : OwnF base w a cap l) (hb : Below B w w') (hB : w.heap.size ≤ B) : OwnF base w' a cap l := by
  refine ⟨h.1, ?_⟩
  rcases h.2 with h2 | ⟨g, c, cur, e1, h1, h2, h3⟩
  · exact .inl h2
  · have := (Array.getElem?_eq_some_iff.1 h2).1
    exact .inr ⟨g, c, cur, e1, h1, by rw [hb.block g (by omega)]; exact h2, h3⟩
theorem OwnF.base {b1 b2 : Nat} {w : World} {a : Option Addr} {cap : Nat} {l : List Nat} (h : OwnF b1 w a cap l) (hb : b2 ≤ b1) : OwnF b2 w a cap l := by
  refine ⟨h.1, ?_⟩
  rcases h.2 with h2 | ⟨g, c, cur, e1, h1, h2, h3⟩
  · exact .inl h2
  · exact .inr ⟨g, c, cur, e1, by omega, h2, h3⟩
theorem OwnF.cell {base : Nat} {w : World} {a : Option Addr} {cap : Nat} {l : List Nat} (h : OwnF base w a cap l) {k : Nat} (hk : k < l.length) :
    ∃ g, a = some ⟨g, 0, none⟩ ∧ base ≤ g ∧ g < w.heap.size ∧ l.length ≤ cap ∧ w.cell? ⟨g, k, none⟩ = some (.float .f32 (l.getD k 0)) := by
  rcases h.2 with ⟨_, h2⟩ | ⟨g, c, cur, e1, h1, h2, h3, h4, h5, h6⟩
  · omega
  · simp at e1
    obtain ⟨rfl, rfl⟩ := e1
    refine ⟨g, rfl, h1, (Array.getElem?_eq_some_iff.1 h2).1, h3, ?_⟩
    have := h.cells (g := g) rfl k (.float .f32 (l.getD k 0)) (by unfold fvals; rw [List.getElem?_map, List.getElem?_eq_getElem hk]; simp [List.getD, hk])
    rwa [add_none, Nat.zero_add] at this
theorem OwnF.row {base : Nat} {w : World} {a : Option Addr} {cap : Nat} {l : List Nat} (h : OwnF base w a cap l) (hl : l ≠ []) :
    ∃ (g : Nat) (f : Nat → Value), a = some ⟨g, 0, none⟩ ∧ base ≤ g ∧ g < w.heap.size ∧ l.length ≤ cap ∧ cap ≤ maxLen ∧ w.rowIs g 24 cap f := by
  rcases h.2 with ⟨_, h2⟩ | ⟨g, c, cur, e1, h1, h2, h3, h4, h5, h6⟩
  · exact absurd (List.length_eq_zero_iff.1 h2) hl
  · simp at e1
    obtain ⟨rfl, rfl⟩ := e1
    exact ⟨g, fun i => cur.getD i (.bool false), rfl, h1, (Array.getElem?_eq_some_iff.1 h2).1, h3, h4, cur, h2, by omega, fun i hi => by
      have : i < cur.size := by omega
      simp [Array.getD, this]⟩
theorem own_of_row {base g cap : Nat} {w : World} {f : Nat → Value} {l : List Nat} (h : w.rowIs g 24 cap f) (hb : base ≤ g) (hc : l.length ≤ cap) (hm : cap ≤ maxLen) (hf : ∀ i, i < l.length → f i = .float .f32 (l.getD i 0)) : OwnF base w (some ⟨g, 0, none⟩) cap l := by
  obtain ⟨cur, h2, h3, h4⟩ := h
  refine ⟨by simp [fvals], .inr ⟨g, cap, cur, rfl, hb, h2, hc, hm, by omega, ?_⟩⟩
  apply List.ext_getElem?
  intro j
  rw [List.getElem?_take, Nat.mul_one]
  unfold fvals
  rw [List.getElem?_map]
  by_cases hj : j < l.length
  · rw [if_pos hj, Array.getElem?_toList, h4 j (by omega), hf j hj, List.getElem?_eq_getElem hj]
    simp [List.getD, hj]
  · rw [if_neg hj, List.getElem?_eq_none (by omega)]
    rfl

theorem OwnF.reads {base : Nat} {w : World} {a : Option Addr} {cap : Nat} {l : List Nat} (h : OwnF base w a cap l) (hw : ∀ n ∈ l, n < 2 ^ 32) : FRd w a l.length cap l := by
  refine ⟨rfl, ?_, fun k hk => ?_, hw⟩
  · rcases h.2 with ⟨e, h2⟩ | ⟨g, c, cur, e1, h1, h2, h3, _⟩
    · simp at e; omega
    · simp at e1; omega
  · obtain ⟨g, e, _, hl, _, hc⟩ := h.cell hk
    exact ⟨g, 0, e, by rw [Nat.zero_add]; exact hc, hl⟩

end Go.Proofs.YtcjkcoibeieeeaaGreatDoor
