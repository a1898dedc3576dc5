/-
  A region that draws its order, with calls that may lay new memory: ONE walk in the order of the text serves, where each operation of its head gives one value in every world that has grown from the first one. No theorem of a claim stands here.
-/
import Derived.StillTailTactics
import Derived.BigQuiet
import Derived.Below
import Derived.WalkKit
set_option linter.unusedVariables false
namespace Go.Proofs.Ythkjikennlaelaa
open Go Go.RowKit

section
variable {P : Program} {ops : Array Oper} {md : Region.Mode} {C : World → Prop}

/-- f operations of the head (those below n) come up, in whatever order; then L. -/
def headQ (P : Program) (md : Region.Mode) (ops : Array Oper) (C : World → Prop) (n : Nat) (L : Array Bool → Act → Prop) : Nat → Array Bool → Act → Prop
  | 0, s, a => L s a
  | f + 1, s, a => Region.ready md ops s ≠ [] ∧ ∀ i, i ∈ Region.ready md ops s → i < n ∧ qOp P ops C i (headQ P md ops C n L f (s.setIfInBounds i true)) a

theorem any_of_headQ {n g : Nat} {L : Array Bool → Act → Prop} {Q : Exit → Act → World → Prop} (hL : ∀ s a w, C w → L s a → wpAny P md ops Q g s a w) (f : Nat) :
    ∀ (s : Array Bool) (a : Act) (w : World), C w → headQ P md ops C n L f s a → wpAny P md ops Q (f + g) s a w := by
  induction f with
  | zero => intro s a w hw h; rw [Nat.zero_add]; exact hL _ _ _ hw h
  | succ f ih =>
    intro s a w hw h
    rw [Nat.succ_add]
    refine ⟨fun e => absurd e h.1, fun i hi => ?_⟩
    exact wpOp_of_qOp hw (fun a' w' h1 h2 => ih _ _ _ h1 h2) (h.2 i hi).2

/-- An operation of the head that may come up, and is apart from all that does not wait for it, may be taken first. -/
theorem headQ_first {n i : Nat} {o : Oper} {v : Value} {L : Array Bool → Act → Prop} (ho : ops[i]? = some o) (hsel : ∀ (j : Nat) (o : Oper) cs b, ops[j]? = some o → o.op ≠ .select cs b)
    (hs : Region.sinkB md ops n = true) (hc : Region.chainB md ops n = true) (hn : n < ops.size) (hin : i < n) (hL : ∀ s a, L s a → ∀ j ∈ Region.ready md ops s, n ≤ j) (f : Nat) :
    ∀ (s : Array Bool) (a : Act), HeadInv md ops n s →
      (∀ j oj, ops[j]? = some oj → j ≠ i → s.getD j true = false → (∀ e ∈ oj.after, Region.binds md e = true → e.on ≠ i) → o.apart ops oj = true) →
      i ∈ Region.ready md ops s → YieldsIn P ops C o v a → headQ P md ops C n L f (s.setIfInBounds i true) (a.put o.dst v) → headQ P md ops C n L (f + 1) s a := by
  induction f with
  | zero =>
    intro s a hI _ hr hy h
    refine ⟨List.ne_nil_of_mem hr, fun j hj => ?_⟩
    have lt : j < n := Nat.lt_of_not_le fun hle => tail_waits hs hc hn hI _ i rfl hin (mem_ready.1 hr).1 j hle hj
    rcases Nat.decEq j i with hji | rfl
    · exact absurd (hL _ _ h j (ready_mono hj hji)) (Nat.not_le_of_lt lt)
    · exact ⟨lt, hy.qOp ho h⟩
  | succ f ih =>
    intro s a hI hap hr hy h
    have hi0 := (mem_ready.1 hr).1
    refine ⟨List.ne_nil_of_mem hr, fun j hj => ?_⟩
    have lt : j < n := Nat.lt_of_not_le fun hle => tail_waits hs hc hn hI _ i rfl hin hi0 j hle hj
    rcases Nat.decEq j i with hji | rfl
    · refine ⟨lt, ?_⟩
      have hq := (h.2 j (ready_mono hj hji)).2
      obtain ⟨hj0, oj, hoj, hw⟩ := mem_ready.1 hj
      have hno : ∀ e ∈ oj.after, Region.binds md e = true → e.on ≠ i := by
        intro e he hb heq
        have := hw e he hb
        rw [heq, getD_both hi0] at this
        exact Bool.noConfusion this
      have hq2 := qOp_put hoj (hap j oj hoj hji hj0 hno) (fun cs b => hsel i o cs b ho) (fun cs b => hsel j oj cs b hoj) hy hq
      refine qOp_mono (fun a' hh => ?_) hq2
      refine ih _ a' (hI.set hj lt) ?_ (ready_mono hr (fun e => hji e.symm)) hh.1 (by rw [Array.setIfInBounds_comm _ _ hji]; exact hh.2)
      intro k ok hk hki hun hno2
      refine hap k ok hk hki ?_ hno2
      rcases Nat.decEq j k with hne | rfl
      · rwa [getD_set_ne true hne] at hun
      · exact hj0
    · exact ⟨lt, hy.qOp ho h⟩

theorem headQ_lex {n g : Nat} {R : Act → Prop} (hsel : Region.noSelect ops = true) (hs : Region.sinkB md ops n = true) (hc : Region.chainB md ops n = true) (hn : n < ops.size) (l : List Oper) :
    ∀ (k : Nat) (s : Array Bool) (a : Act), (∀ j, j < l.length → l[j]? = ops[k + j]?) → k + l.length = n → HeadInv md ops n s → Region.lexHead md ops g l.length k s = true →
      wpQuiet P ops C R l a → headQ P md ops C n (fun s' a' => Region.seqB md ops g n s' = true ∧ R a') l.length s a := by
  induction l with
  | nil =>
    intro k s a _ hk _ hB h
    have e : k = n := hk
    exact ⟨by rw [← e]; exact hB, h⟩
  | cons o l ih =>
    intro k s a hl hk hI hB h
    have ho : ops[k]? = some o := by have := hl 0 (Nat.succ_pos _); rw [Nat.add_zero] at this; exact this.symm
    have hlen : k + (l.length + 1) = n := hk
    simp only [List.length_cons, Region.lexHead, Bool.and_eq_true] at hB
    have hr : k ∈ Region.ready md ops s := List.contains_iff_mem.1 hB.1.1
    obtain ⟨v, hy, hR⟩ := yieldsIn_of_qOp ho (show qOp P ops C k (wpQuiet P ops C R l) a by unfold qOp; simp only [ho]; exact h)
    refine headQ_first ho (Region.noSelect_spec hsel) hs hc hn (by omega) (fun s' a' hh => seqB_ready hh.1) _ s a hI (Region.free_spec ho hB.1.2) hr hy ?_
    refine ih (k + 1) _ _ (fun j hj => ?_) (by omega) (hI.set hr (by omega)) hB.2 hR
    have := hl (j + 1) (Nat.succ_lt_succ hj)
    rw [Nat.add_assoc, Nat.add_comm 1 j]
    exact this

/-- **One walk in the order of the text serves**: the head is quiet in the class, the tail (behind number n) has one order. -/
theorem wp_quiet_tail {id : Nat} {Q : Exit → Act → World → Prop} {a : Act} {w : World} {l : List Oper} (n : Nat) (hm : P.follows .mixedOrders = true) (hB : Region.lexTailB .any l.toArray n = true) (hC : C (w.drewN 1))
    (h : wpQuiet P l.toArray C (fun a' => ∀ w', C w' → wpList P l.toArray Q (l.drop n) a' w') (l.take n) a) : (Code.region id l.toArray true).wp P Q a w := by
  unfold Region.lexTailB at hB
  simp only [Bool.and_eq_true, decide_eq_true_eq] at hB
  obtain ⟨⟨⟨⟨hsel, hn⟩, hs⟩, hc⟩, hlex⟩ := hB
  have hnl : n < l.length := by simpa using hn
  have e1 : (l.take n).length = n := by rw [List.length_take]; omega
  have e2 : (l.drop n).length = l.toArray.size - n := by simp
  have hI : HeadInv .any l.toArray n (Array.replicate l.toArray.size false) := by
    refine ⟨Array.size_replicate, ?_, fun t _ ht => getD_in (by rw [Array.size_replicate]; exact ht) (getD_replicate_false _ _)⟩
    intro j oj _ hl
    rw [getD_replicate_false] at hl
    exact Bool.noConfusion hl
  have H := headQ_lex (C := C) (g := l.toArray.size - n) hsel hs hc hn (l.take n) 0 _ a (fun j hj => by
    rw [e1] at hj
    rw [Nat.zero_add, List.getElem?_take, if_pos hj, List.getElem?_toArray]) (by omega) hI (by rw [e1]; exact hlex) h
  have H2 := any_of_headQ (Q := Q) (g := l.toArray.size - n) (fun s a' w' hw hh => by
    have := wpAny_of_seq (md := .any) (Q' := Q) (l.drop n) n s a' w' (fun j => by rw [List.getElem?_drop, List.getElem?_toArray]) (by rw [e2]; exact hh.1) (hh.2 w' hw)
    rwa [e2] at this) _ _ _ _ hC H
  rw [e1, show n + (l.toArray.size - n) = l.toArray.size by omega] at H2
  exact wp_region_any hm H2
end

/-- The worlds that have grown from w: nothing below w's own end has turned. -/
def Grown (w : World) : Type := {w' : World // Below w.heap.size w w'}
def Grown.drawn (w : World) (n : Nat) : Grown w := ⟨w.drewN n, rfl, rfl, rfl, Nat.le_refl _, fun _ _ => rfl⟩
instance (w : World) : Nonempty (Grown w) := ⟨Grown.drawn w 0⟩
theorem Grown.cell {w : World} {p : Addr} {v : Value} (x : Grown w) (h : w.cell? p = some v) : x.1.cell? p = some v := (x.2.cell (World.block_lt_of_cell? w p h)).trans h
theorem Grown.calls {P : Program} {w : World} {f : FuncId} {args : Array Value} {v : Value} (x : Grown w) (h : Calls P f args x.1 fun e w' => e = .returned v ∧ Below x.1.heap.size x.1 w') :
    Calls P f args x.1 fun e w' => e = .returned v ∧ ∃ y : Grown w, w' = y.1 :=
  h.mono fun e w' ⟨h1, h2⟩ => ⟨h1, ⟨w', x.2.trans (h2.mono x.2.size)⟩, rfl⟩

/-- The region at the class of the grown worlds. -/
theorem wp_grown_tail {P : Program} {id : Nat} {Q : Exit → Act → World → Prop} {a : Act} {w : World} {l : List Oper} (n : Nat) (hm : P.follows .mixedOrders = true) (hB : Region.lexTailB .any l.toArray n = true)
    (h : wpQuiet P l.toArray (fun w' => ∃ x : Grown w, w' = x.1) (fun a' => ∀ w', (∃ x : Grown w, w' = x.1) → wpList P l.toArray Q (l.drop n) a' w') (l.take n) a) : (Code.region id l.toArray true).wp P Q a w :=
  wp_quiet_tail (C := fun w' => ∃ x : Grown w, w' = x.1) n hm hB ⟨Grown.drawn w 1, rfl⟩ h
/-- .. and where it writes nothing at all. -/
theorem wp_grown {P : Program} {id : Nat} {Q : Exit → Act → World → Prop} {a : Act} {w : World} {l : List Oper} (hm : P.follows .mixedOrders = true) (hB : Region.lexB .any l.toArray = true)
    (h : wpQuiet P l.toArray (fun w' => ∃ x : Grown w, w' = x.1) (fun a' => ∀ w', (∃ x : Grown w, w' = x.1) → Q .normal a' w') l a) : (Code.region id l.toArray true).wp P Q a w :=
  wp_region_quiet (C := fun w' => ∃ x : Grown w, w' = x.1) hm hB ⟨Grown.drawn w 1, rfl⟩ (by simpa using h)
end Go.Proofs.Ythkjikennlaelaa
