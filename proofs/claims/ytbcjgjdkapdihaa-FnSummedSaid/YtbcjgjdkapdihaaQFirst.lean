/-
  A region that draws its order, whose first operation is a mere copy that its tail need not wait for. No theorem of a claim stands here.
-/
import Derived.Test.YtbcjgjdkapdihaaQTail
set_option linter.unusedVariables false
namespace Go.Proofs.Ytbcjgjdkapdihaa
open Go Go.RowKit

section
variable {P : Program} {ops : Array Oper} {md : Region.Mode} {C : World → Prop}

/-- Each operation of the head, but for the first, has one behind it that waits for it. -/
def sink1B (md : Region.Mode) (ops : Array Oper) (n : Nat) : Bool :=
  (List.range n).all fun i => decide (i = 0) || (List.range (n + 1)).any fun j => decide (i < j) && Region.waitsFor md ops j i
theorem tail_waits1 {n : Nat} {s : Array Bool} (hs : sink1B md ops n = true) (hc : Region.chainB md ops n = true) (hn : n < ops.size) (hI : HeadInv md ops n s) (i : Nat) (h1 : 1 ≤ i) (hin : i < n) (hu : s.getD i true = false) (t : Nat) (ht : n ≤ t) : t ∉ Region.ready md ops s := by
  have key : ∀ d i, n - i ≤ d → 1 ≤ i → i < n → s.getD i true = false → n ∉ Region.ready md ops s := by
    intro d
    induction d with
    | zero => intro i h1 h2 h3 _; omega
    | succ d ih =>
      intro i hd h1 hin hu hr
      unfold sink1B at hs
      have h2 := List.all_eq_true.1 hs i (List.mem_range.2 hin)
      rw [Bool.or_eq_true] at h2
      rcases h2 with h2 | h2
      · have := of_decide_eq_true h2; omega
      obtain ⟨j, hj, h3⟩ := List.any_eq_true.1 h2
      rw [Bool.and_eq_true] at h3
      have hij := of_decide_eq_true h3.1
      have hjn := List.mem_range.1 hj
      obtain ⟨oj, hoj, e, he, hb, hon⟩ := Region.waitsFor_spec h3.2
      by_cases e2 : j = n
      · subst e2
        obtain ⟨_, o, ho, hall⟩ := mem_ready.1 hr
        rw [ho] at hoj
        cases hoj
        have h4 := hall e he hb
        rw [hon, getD_both hu] at h4
        cases h4
      · refine ih j (by omega) (by omega) (by omega) ?_ hr
        have hjs : j < s.size := by rw [hI.size]; exact (Array.getElem?_eq_some_iff.1 hoj).1
        refine getD_in hjs ?_
        cases h5 : s.getD j false with
        | false => rfl
        | true =>
          have h4 := hI.closed j oj hoj h5 e he hb
          rw [hon, getD_both hu] at h4
          cases h4
  intro hr
  rcases Nat.lt_or_ge n t with hlt | hge
  · have hts : t < ops.size := by
      obtain ⟨_, o, ho, _⟩ := mem_ready.1 hr
      exact (Array.getElem?_eq_some_iff.1 ho).1
    unfold Region.chainB at hc
    have h2 := List.all_eq_true.1 hc t (List.mem_range.2 hts)
    rw [Bool.or_eq_true] at h2
    rcases h2 with h2 | h2
    · have := of_decide_eq_true h2; omega
    obtain ⟨o, ho, e, he, hb, hon⟩ := Region.waitsFor_spec h2
    obtain ⟨_, o', ho', hall⟩ := mem_ready.1 hr
    rw [ho'] at ho
    cases ho
    have h4 := hall e he hb
    rw [hon, getD_both (hI.tail (t - 1) (by omega) (by omega))] at h4
    cases h4
  · have : t = n := by omega
    subst this
    exact key _ i (Nat.le_refl _) h1 hin hu hr

/-- An operation of the head that may come up, and is apart from all that does not wait for it, may be taken first. -/
theorem headQ_first1 {n i : Nat} {o : Oper} {v : Value} {L : Array Bool → Act → Prop} (ho : ops[i]? = some o) (h1 : 1 ≤ i) (hsel : ∀ (j : Nat) (o : Oper) cs b, ops[j]? = some o → o.op ≠ .select cs b)
    (hs : sink1B md ops n = true) (hc : Region.chainB md ops n = true) (hn : n < ops.size) (hin : i < n) (hL : ∀ s a, L s a → ∀ j ∈ Region.ready md ops s, n ≤ j) (f : Nat) :
    ∀ (s : Array Bool) (a : Act), HeadInv md ops n s →
      (∀ j oj, ops[j]? = some oj → j ≠ i → s.getD j true = false → (∀ e ∈ oj.after, Region.binds md e = true → e.on ≠ i) → o.apart ops oj = true) →
      i ∈ Region.ready md ops s → YieldsIn P ops C o v a → headQ P md ops C n L f (s.setIfInBounds i true) (a.put o.dst v) → headQ P md ops C n L (f + 1) s a := by
  induction f with
  | zero =>
    intro s a hI _ hr hy h
    refine ⟨List.ne_nil_of_mem hr, fun j hj => ?_⟩
    have lt : j < n := Nat.lt_of_not_le fun hle => tail_waits1 hs hc hn hI i h1 hin (mem_ready.1 hr).1 j hle hj
    rcases Nat.decEq j i with hji | rfl
    · exact absurd (hL _ _ h j (ready_mono hj hji)) (Nat.not_le_of_lt lt)
    · exact ⟨lt, hy.qOp ho h⟩
  | succ f ih =>
    intro s a hI hap hr hy h
    have hi0 := (mem_ready.1 hr).1
    refine ⟨List.ne_nil_of_mem hr, fun j hj => ?_⟩
    have lt : j < n := Nat.lt_of_not_le fun hle => tail_waits1 hs hc hn hI i h1 hin hi0 j hle hj
    rcases Nat.decEq j i with hji | rfl
    · refine ⟨lt, ?_⟩
      have hq := (h.2 j (ready_mono hj hji)).2
      obtain ⟨hj0, oj, hoj, hw⟩ := mem_ready.1 hj
      have hno : ∀ e ∈ oj.after, Region.binds md e = true → e.on ≠ i := by
        intro e he hb heq
        have := hw e he hb
        rw [heq, getD_both hi0] at this
        exact Bool.noConfusion this
      have hq2 := qOp_put hoj (hap j oj hoj hji hj0 hno) (fun cs b => hsel i o cs b ho) (fun cs b => hsel j oj cs b hoj) hy hq
      refine qOp_mono (fun a' hh => ?_) hq2
      refine ih _ a' (hI.set hj lt) ?_ (ready_mono hr (fun e => hji e.symm)) hh.1 (by rw [Array.setIfInBounds_comm _ _ hji]; exact hh.2)
      intro k ok hk hki hun hno2
      refine hap k ok hk hki ?_ hno2
      rcases Nat.decEq j k with hne | rfl
      · rwa [getD_set_ne true hne] at hun
      · exact hj0
    · exact ⟨lt, hy.qOp ho h⟩

theorem headQ_lex1 {n g : Nat} {R : Act → Prop} (hsel : Region.noSelect ops = true) (hs : sink1B md ops n = true) (hc : Region.chainB md ops n = true) (hn : n < ops.size) (l : List Oper) :
    ∀ (k : Nat) (s : Array Bool) (a : Act), (∀ j, j < l.length → l[j]? = ops[k + j]?) → 1 ≤ k → k + l.length = n → HeadInv md ops n s → Region.lexHead md ops g l.length k s = true →
      wpQuiet P ops C R l a → headQ P md ops C n (fun s' a' => Region.seqB md ops g n s' = true ∧ R a') l.length s a := by
  induction l with
  | nil =>
    intro k s a _ _ hk _ hB h
    have e : k = n := hk
    exact ⟨by rw [← e]; exact hB, h⟩
  | cons o l ih =>
    intro k s a hl hk1 hk hI hB h
    have ho : ops[k]? = some o := by have := hl 0 (Nat.succ_pos _); rw [Nat.add_zero] at this; exact this.symm
    have hlen : k + (l.length + 1) = n := hk
    simp only [List.length_cons, Region.lexHead, Bool.and_eq_true] at hB
    have hr : k ∈ Region.ready md ops s := List.contains_iff_mem.1 hB.1.1
    obtain ⟨v, hy, hR⟩ := yieldsIn_of_qOp ho (show qOp P ops C k (wpQuiet P ops C R l) a by unfold qOp; simp only [ho]; exact h)
    refine headQ_first1 ho (by omega) (Region.noSelect_spec hsel) hs hc hn (by omega) (fun s' a' hh => seqB_ready hh.1) _ s a hI (Region.free_spec ho hB.1.2) hr hy ?_
    refine ih (k + 1) _ _ (fun j hj => ?_) (by omega) (by omega) (hI.set hr (by omega)) hB.2 hR
    have := hl (j + 1) (Nat.succ_lt_succ hj)
    rw [Nat.add_assoc, Nat.add_comm 1 j]
    exact this


def tail1B (ops : Array Oper) (n : Nat) : Bool :=
  Region.noSelect ops && decide (1 ≤ n) && decide (n < ops.size) && sink1B .any ops n && Region.chainB .any ops n && (Region.ready .any ops (Array.replicate ops.size false)).contains 0 && Region.free .any ops (Array.replicate ops.size false) 0 &&
    Region.lexHead .any ops (ops.size - n) (n - 1) 1 ((Array.replicate ops.size false).setIfInBounds 0 true)
/-- The first operation is taken first; then the head in the order of the text; then the tail. -/
theorem wp_quiet_first {id : Nat} {Q : Exit → Act → World → Prop} {a : Act} {w : World} {l : List Oper} {o0 : Oper} {v : Value} (n : Nat) (hm : P.follows .mixedOrders = true) (hB : tail1B l.toArray n = true) (h0 : l.toArray[0]? = some o0)
    (hQ : ∀ c a w, Q (.panic c) (a.put o0.dst v) w → Q (.panic c) a w) (hy : Yields P l.toArray o0 v a) (hC : C (w.drewN 1))
    (h : wpQuiet P l.toArray C (fun a' => ∀ w', C w' → wpList P l.toArray Q (l.drop n) a' w') ((l.take n).drop 1) (a.put o0.dst v)) : (Code.region id l.toArray true).wp P Q a w := by
  unfold tail1B at hB
  simp only [Bool.and_eq_true, decide_eq_true_eq] at hB
  obtain ⟨⟨⟨⟨⟨⟨⟨hsel, hn1⟩, hn⟩, hs⟩, hc⟩, hr0⟩, hf0⟩, hlex⟩ := hB
  have hnl : n < l.length := by simpa using hn
  have e1 : ((l.take n).drop 1).length = n - 1 := by rw [List.length_drop, List.length_take]; omega
  have e2 : (l.drop n).length = l.toArray.size - n := by simp
  have hr : 0 ∈ Region.ready .any l.toArray (Array.replicate l.toArray.size false) := List.contains_iff_mem.1 hr0
  have hI0 : HeadInv .any l.toArray n (Array.replicate l.toArray.size false) := by
    refine ⟨Array.size_replicate, ?_, fun t _ ht => getD_in (by rw [Array.size_replicate]; exact ht) (getD_replicate_false _ _)⟩
    intro j oj _ hl
    rw [getD_replicate_false] at hl
    exact Bool.noConfusion hl
  have hI := hI0.set hr (by omega)
  have H := headQ_lex1 (C := C) (g := l.toArray.size - n) hsel hs hc hn ((l.take n).drop 1) 1 _ (a.put o0.dst v) (fun j hj => by
    rw [e1] at hj
    rw [List.getElem?_drop, List.getElem?_take, if_pos (by omega), List.getElem?_toArray]) (Nat.le_refl _) (by omega) hI (by rw [e1]; exact hlex) h
  have H2 := any_of_headQ (Q := Q) (g := l.toArray.size - n) (fun s a' w' hw hh => by
    have := wpAny_of_seq (md := .any) (Q' := Q) (l.drop n) n s a' w' (fun j => by rw [List.getElem?_drop, List.getElem?_toArray]) (by rw [e2]; exact hh.1) (hh.2 w' hw)
    rwa [e2] at this) _ _ _ _ hC H
  rw [e1] at H2
  have H3 := wpAny_first (md := .any) (Q := Q) h0 (Region.noSelect_spec hsel) hQ _ _ _ _ (Region.free_spec h0 hf0) hr hy H2
  rw [show n - 1 + (l.toArray.size - n) + 1 = l.toArray.size by omega] at H3
  exact wp_region_any hm H3
end
/-- At the class of the grown worlds. -/
theorem wp_grown_first {P : Program} {id : Nat} {Q : Exit → Act → World → Prop} {a : Act} {w : World} {l : List Oper} {o0 : Oper} {v : Value} (n d : Nat) (hm : P.follows .mixedOrders = true) (hB : tail1B l.toArray n = true) (h0 : l.toArray[0]? = some o0) (hd : o0.dst = some d)
    (hQ : ∀ c a w, Q (.panic c) (a.put (some d) v) w → Q (.panic c) a w) (hy : Yields P l.toArray o0 v a)
    (h : wpQuiet P l.toArray (fun w' => ∃ x : Grown w, w' = x.1) (fun a' => ∀ w', (∃ x : Grown w, w' = x.1) → wpList P l.toArray Q (l.drop n) a' w') ((l.take n).drop 1) (a.put (some d) v)) : (Code.region id l.toArray true).wp P Q a w :=
  wp_quiet_first (C := fun w' => ∃ x : Grown w, w' = x.1) n hm hB h0 (by rw [hd]; exact hQ) hy ⟨Grown.drawn w 1, rfl⟩ (by rw [hd]; exact h)
end Go.Proofs.Ytbcjgjdkapdihaa
