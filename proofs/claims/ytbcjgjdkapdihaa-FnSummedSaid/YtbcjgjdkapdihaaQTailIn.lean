/-
  A region that draws its order, with calls that may lay new memory, within a round of an iterator: one walk in the order of the text serves. No theorem of a claim stands here.
-/
import Derived.Test.YtbcjgjdkapdihaaQTail
import Derived.Test.YtbcjgjdkapdihaaTail
set_option linter.unusedVariables false
namespace Go.Proofs.Ytbcjgjdkapdihaa
open Go Go.RowKit

section
variable {P : Program} {ops : Array Oper} {md : Region.Mode} {C : World → Prop} {n k : Nat}

theorem wpIn_of_quiet_rd {o : Oper} {a : Act} {K : Act → Prop} {K' : Act → World → Prop} {Q' : Exit → Act → World → Prop} {w : World} (hd : ∀ c, o.op ≠ .defer c) (hw : C w) (h : ∀ a w', C w' → K a → K' a w') (hh : o.quiet P a C K) : o.wpIn (Fence.wide.inRound k) n P a w K' Q' := by
  obtain ⟨v, h1, h2⟩ := hh
  have h3 := h1 w hw
  unfold Oper.quietAt at h3
  unfold Oper.wpIn
  refine ⟨fun _ _ => trivial, ?_⟩
  rw [Oper.semAt_eq _ _ _ hd]
  generalize (execOp a.eval o).run P w = r at *
  cases r with
  | ok x w' =>
    cases x <;> simp only [Oper.quietUpon] at h3 <;> simp only [Oper.uponIn]
    case value u =>
      obtain ⟨e1, e2⟩ := h3
      rw [e1, e2]; exact h _ _ hw h2
    case skip =>
      obtain ⟨e1, e2⟩ := h3
      rw [e1, ← e2]; exact h _ _ hw h2
    case enter f args =>
      obtain ⟨e1, hc⟩ := h3
      refine ⟨fun hx => (by cases hx), CallsIn.inRound k (callsIn_wide.2 ?_)⟩
      rw [e1]
      refine hc.mono ?_
      rintro e w'' ⟨he, hw''⟩
      subst he; exact h _ _ hw'' h2
  | halt x w' => simp only [Oper.quietUpon] at h3
theorem wpOpIn_of_qOp_rd {i : Nat} {a : Act} {K : Act → Prop} {K' : Act → World → Prop} {Q' : Exit → Act → World → Prop} {w : World} (hd : ∀ (j : Nat) (o : Oper) c, ops[j]? = some o → o.op ≠ .defer c) (hC : C w) (h : ∀ a w', C w' → K a → K' a w') (hh : qOp P ops C i K a) : wpOpIn (Fence.wide.inRound k) n P ops Q' i K' a w := by
  unfold qOp at hh
  unfold wpOpIn
  split
  · rename_i ho; simp only [ho] at hh; exact h _ _ hC hh
  · rename_i o ho
    simp only [ho] at hh
    split
    · rename_i hw; simp only [hw, if_true] at hh; exact wpIn_of_quiet_rd (fun c => hd i o c ho) hC h hh
    · rename_i hw; simp only [hw] at hh; exact ⟨fun _ _ => trivial, h _ _ hC hh⟩
theorem anyIn_of_headQ_rd {m g : Nat} {L : Array Bool → Act → Prop} {Q' : Exit → Act → World → Prop} (hd : ∀ (j : Nat) (o : Oper) c, ops[j]? = some o → o.op ≠ .defer c) (hL : ∀ s a w, C w → L s a → wpAnyIn (Fence.wide.inRound k) n P md ops Q' g s a w) (f : Nat) :
    ∀ (s : Array Bool) (a : Act) (w : World), C w → headQ P md ops C m L f s a → wpAnyIn (Fence.wide.inRound k) n P md ops Q' (f + g) s a w := by
  induction f with
  | zero => intro s a w hw h; rw [Nat.zero_add]; exact hL _ _ _ hw h
  | succ f ih =>
    intro s a w hw h
    rw [Nat.succ_add]
    exact ⟨fun e => absurd e h.1, fun i hi => wpOpIn_of_qOp_rd hd hw (fun a' w' h1 h2 => ih _ _ _ h1 h2) (h.2 i hi).2⟩
/-- **One walk in the order of the text serves, in a round.** -/
theorem wpIn_quiet_tail_rd {id : Nat} {Q : Exit → Act → World → Prop} {a : Act} {w : World} {l : List Oper} (m : Nat) (hm : P.follows .mixedOrders = true) (hB : (Region.lexTailB .any l.toArray m && noDefer l) = true) (hC : C (w.drewN 1))
    (h : wpQuiet P l.toArray C (fun a' => ∀ w', C w' → wpListIn (Fence.wide.inRound k) n P l.toArray Q (l.drop m) a' w') (l.take m) a) : (Code.region id l.toArray true).wpIn (Fence.wide.inRound k) n P Q a w := by
  unfold Region.lexTailB at hB
  simp only [Bool.and_eq_true, decide_eq_true_eq] at hB
  obtain ⟨⟨⟨⟨⟨hsel, hn⟩, hs⟩, hc⟩, hlex⟩, hnd⟩ := hB
  have hnl : m < l.length := by simpa using hn
  have e1 : (l.take m).length = m := by rw [List.length_take]; omega
  have e2 : (l.drop m).length = l.toArray.size - m := by simp
  have hI : HeadInv .any l.toArray m (Array.replicate l.toArray.size false) := by
    refine ⟨Array.size_replicate, ?_, fun t _ ht => getD_in (by rw [Array.size_replicate]; exact ht) (getD_replicate_false _ _)⟩
    intro j oj _ hl
    rw [getD_replicate_false] at hl
    exact Bool.noConfusion hl
  have H := headQ_lex (C := C) (g := l.toArray.size - m) hsel hs hc hn (l.take m) 0 _ a (fun j hj => by
    rw [e1] at hj
    rw [Nat.zero_add, List.getElem?_take, if_pos hj, List.getElem?_toArray]) (by omega) hI (by rw [e1]; exact hlex) h
  have H2 := anyIn_of_headQ_rd (n := n) (k := k) (Q' := Q) (g := l.toArray.size - m) (noDefer_spec hnd) (fun s a' w' hw hh => by
    have := wpAnyIn_of_seq_rd (F := Fence.wide.inRound k) (n := n) (md := .any) (Q' := Q) (l.drop m) m s a' w' (fun j => by rw [List.getElem?_drop, List.getElem?_toArray]) (by rw [e2]; exact hh.1) (hh.2 w' hw)
    rwa [e2] at this) _ _ _ _ hC H
  rw [e1, show m + (l.toArray.size - m) = l.toArray.size by omega] at H2
  exact wpIn_region_any hm H2
end
/-- At the class of the grown worlds. -/
theorem wpIn_grown_tail_rd {P : Program} {n k id : Nat} {Q : Exit → Act → World → Prop} {a : Act} {w : World} {l : List Oper} (m : Nat) (hm : P.follows .mixedOrders = true) (hB : (Region.lexTailB .any l.toArray m && noDefer l) = true)
    (h : wpQuiet P l.toArray (fun w' => ∃ x : Grown w, w' = x.1) (fun a' => ∀ w', (∃ x : Grown w, w' = x.1) → wpListIn (Fence.wide.inRound k) n P l.toArray Q (l.drop m) a' w') (l.take m) a) : (Code.region id l.toArray true).wpIn (Fence.wide.inRound k) n P Q a w :=
  wpIn_quiet_tail_rd (C := fun w' => ∃ x : Grown w, w' = x.1) m hm hB ⟨Grown.drawn w 1, rfl⟩ h
end Go.Proofs.Ytbcjgjdkapdihaa
