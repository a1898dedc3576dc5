/-
  A region that draws its order, by an invariant: what holds whichever of its operations have come up. For regions that lay memory in an open order. No theorem of a claim stands here.
-/
import Derived.BigQuiet
import Derived.WalkKit
set_option linter.unusedVariables false
namespace Go.Proofs.Ytljclagfplildaa
open Go Go.RowKit

section
variable {P : Program} {ops : Array Oper} {md : Region.Mode} {Q : Exit → Act → World → Prop}

theorem upon_then {o : Oper} {a : Act} {J : Act → World → Prop} {N : Act → World → Prop} {r : Result Next} (h : o.upon P a N (Exit.then J Q) r) : o.upon P a N Q r := by
  unfold Oper.upon at *
  split at h <;> first | exact h | (exfalso; exact h)
theorem wpOp_of_list {i : Nat} {o : Oper} {a : Act} {w : World} {J : Act → World → Prop} (ho : ops[i]? = some o) (h : wpList P ops (Exit.then J Q) [o] a w) : wpOp P ops Q i J a w := by
  unfold wpOp
  simp only [ho]
  unfold wpList at h
  split
  · rename_i hw
    rw [if_pos hw] at h
    rcases h with h | ⟨h1, h2⟩
    · exact .inl (upon_then h)
    · exact .inr ⟨h1, h2⟩
  · rename_i hw
    rw [if_neg hw] at h
    exact h

/-- How many operations have not come up. -/
def open' (s : Array Bool) : Nat := s.toList.count false
theorem open_set {s : Array Bool} {i : Nat} (h : s.getD i true = false) : open' (s.setIfInBounds i true) + 1 = open' s := by
  unfold open'
  have hi : i < s.size := by
    rcases Nat.lt_or_ge i s.size with h' | h'
    · exact h'
    · simp [Array.getElem?_eq_none h'] at h
  have hv : s.toList[i]'(by simpa using hi) = false := by simpa [hi] using h
  have hm : false ∈ s.toList := hv ▸ List.getElem_mem _
  have hpos : 0 < s.toList.count false := List.count_pos_iff.2 hm
  rw [Array.toList_setIfInBounds, List.count_set (by simpa using hi)]
  rw [hv]
  rw [if_pos (by rfl), if_neg (by decide)]
  omega
theorem open_zero {s : Array Bool} {i : Nat} (h : s.getD i true = false) : 0 < open' s := by have := open_set h; omega

theorem any_of_inv (I : Array Bool → Act → World → Prop)
    (hstep : ∀ s a w i o, ops[i]? = some o → i ∈ Region.ready md ops s → I s a w → wpList P ops (Exit.then (I (s.setIfInBounds i true)) Q) [o] a w)
    (hend : ∀ s a w, I s a w → Region.ready md ops s = [] → Q .normal a w) (f : Nat) : ∀ s a w, open' s ≤ f → I s a w → wpAny P md ops Q f s a w := by
  induction f with
  | zero =>
    intro s a w hf hI
    have hr : Region.ready md ops s = [] := by
      rcases hR : Region.ready md ops s with _ | ⟨i, l⟩
      · rfl
      · have hi : i ∈ Region.ready md ops s := by rw [hR]; exact List.mem_cons_self
        have := open_zero (mem_ready.1 hi).1
        omega
    exact ⟨hr, hend s a w hI hr⟩
  | succ f ih =>
    intro s a w hf hI
    refine ⟨hend s a w hI, fun i hi => ?_⟩
    obtain ⟨h0, o, ho, _⟩ := mem_ready.1 hi
    have := open_set h0
    exact wpOp_mono (fun a' w' hI' => ih _ a' w' (by omega) hI') (wpOp_of_list ho (hstep s a w i o ho hi hI))

/-- **A region by an invariant.** -/
theorem wp_region_inv {id : Nat} {a : Act} {w : World} (I : Array Bool → Act → World → Prop) (hm : P.follows .mixedOrders = true) (h0 : I (Array.replicate ops.size false) a (w.drewN 1))
    (hstep : ∀ s a w i o, ops[i]? = some o → i ∈ Region.ready .any ops s → I s a w → wpList P ops (Exit.then (I (s.setIfInBounds i true)) Q) [o] a w)
    (hend : ∀ s a w, I s a w → Region.ready .any ops s = [] → Q .normal a w) : (Code.region id ops true).wp P Q a w :=
  wp_region_any hm (any_of_inv I hstep hend ops.size _ a _ (by unfold open'; simp) h0)
end
end Go.Proofs.Ytljclagfplildaa
