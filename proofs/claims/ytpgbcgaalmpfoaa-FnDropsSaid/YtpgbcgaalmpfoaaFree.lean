/-
  A region that draws its order, whose operations give values that are known ahead, in whatever order, with some that lay new blocks at any time. No theorem of a claim stands here.
-/
import Derived.Test.YtpgbcgaalmpfoaaQTail
import Derived.Test.YtpgbcgaalmpfoaaRowL
set_option linter.unusedVariables false
namespace Go.Proofs.Ytpgbcgaalmpfoaa
open Go Go.RowKit

section
variable {P : Program} {ops : Array Oper} {Q : Exit → Act → World → Prop}

def dstOf (ops : Array Oper) (i : Nat) : Option Tmp := (ops[i]?).bind (·.dst)
def isAl (ops : Array Oper) (i : Nat) : Bool := match ops[i]? with | some o => (match o.op with | .alloc _ => true | _ => false) | none => false
/-- What operation i leaves, the new blocks being G. -/
def frVal (ops : Array Oper) (v : Nat → Value) (G : Nat → Nat) (i : Nat) : Value := if isAl ops i then .pointer (some ⟨G i, 0, none⟩) else v i

/-- The frame a is a0, but for what the operations L of the first n have left. -/
def Slots (ops : Array Oper) (n : Nat) (a0 a : Act) (L : Nat → Bool) (val : Nat → Value) : Prop :=
  a.defers = a0.defers ∧ a.tmps.size = a0.tmps.size ∧ ∀ t, t < a0.tmps.size →
    (∀ i, i < n → L i = true → dstOf ops i = some t → a.tmps[t]? = some (val i)) ∧ ((∀ i, i < n → L i = true → dstOf ops i ≠ some t) → a.tmps[t]? = a0.tmps[t]?)
theorem Slots.start {n : Nat} {a0 : Act} {L : Nat → Bool} {val : Nat → Value} (h : ∀ i, i < n → L i = false) : Slots ops n a0 a0 L val :=
  ⟨rfl, rfl, fun t ht => ⟨fun i hi hL => (by rw [h i hi] at hL; cases hL), fun _ => rfl⟩⟩
theorem put_at (a : Act) (d t : Nat) (x : Value) : (a.put (some d) x).tmps[t]? = if d = t then (if d < a.tmps.size then some x else none) else a.tmps[t]? := by
  show (a.tmps.setIfInBounds d x)[t]? = _
  rw [Array.getElem?_setIfInBounds]
theorem Slots.step {n j d : Nat} {a0 a : Act} {L L' : Nat → Bool} {val val' : Nat → Value} {x : Value} (h : Slots ops n a0 a L val) (hj : j < n) (hd : dstOf ops j = some d)
    (hdis : ∀ i, i < n → i ≠ j → dstOf ops i ≠ some d) (hL : ∀ i, L' i = (L i || decide (i = j))) (hv : ∀ i, i < n → i ≠ j → L i = true → val' i = val i) (hx : val' j = x) : Slots ops n a0 (a.put (some d) x) L' val' := by
  obtain ⟨h1, h2, h3⟩ := h
  refine ⟨h1, by show (a.tmps.setIfInBounds d x).size = _; rw [Array.size_setIfInBounds]; exact h2, fun t ht => ⟨fun i hi hLi hdi => ?_, fun hn => ?_⟩⟩
  · rw [put_at]
    by_cases e : i = j
    · subst e
      rw [hd] at hdi
      cases hdi
      rw [if_pos rfl, if_pos (by rw [h2]; exact ht), hx]
    · have hne : d ≠ t := fun e2 => hdis i hi e (by rw [e2]; exact hdi)
      have hLi' : L i = true := by
        have := hL i
        rw [hLi, decide_eq_false e, Bool.or_false] at this
        exact this.symm
      rw [if_neg hne, (h3 t ht).1 i hi hLi' hdi, hv i hi e hLi']
  · have hne : d ≠ t := fun e => hn j hj (by rw [hL]; simp) (by rw [← e]; exact hd)
    rw [put_at, if_neg hne]
    exact (h3 t ht).2 fun i hi hLi => hn i hi (by rw [hL, hLi]; rfl)
theorem Slots.unique {n : Nat} {a0 a b : Act} {L : Nat → Bool} {val : Nat → Value} (ha : Slots ops n a0 a L val) (hb : Slots ops n a0 b L val) : a = b := by
  obtain ⟨a1, a2, a3⟩ := ha
  obtain ⟨b1, b2, b3⟩ := hb
  have ht : a.tmps = b.tmps := by
    apply Array.ext_getElem?
    intro t
    by_cases hlt : t < a0.tmps.size
    · by_cases hex : ∃ i, i < n ∧ L i = true ∧ dstOf ops i = some t
      · obtain ⟨i, hi, hLi, hdi⟩ := hex
        rw [(a3 t hlt).1 i hi hLi hdi, (b3 t hlt).1 i hi hLi hdi]
      · rw [(a3 t hlt).2 fun i hi hLi hdi => hex ⟨i, hi, hLi, hdi⟩, (b3 t hlt).2 fun i hi hLi hdi => hex ⟨i, hi, hLi, hdi⟩]
    · rw [Array.getElem?_eq_none (by omega), Array.getElem?_eq_none (by omega)]
  cases a; cases b; simp_all

/-- The frame behind the first n operations. -/
def Fr (ops : Array Oper) (a0 : Act) (f : Nat → Option Value) (n : Nat) : Act := (List.range n).foldl (fun a i => match f i with | some x => a.put (dstOf ops i) x | none => a) a0
theorem fr_slots (n : Nat) (a0 : Act) (f : Nat → Option Value) (val : Nat → Value) (hdst : ∀ i, i < n → ∃ d, dstOf ops i = some d) (hdis : ∀ i j d, i < n → j < n → i ≠ j → dstOf ops j = some d → dstOf ops i ≠ some d) (hf : ∀ i x, i < n → f i = some x → x = val i) :
    ∀ m, m ≤ n → Slots ops n a0 (Fr ops a0 f m) (fun i => decide (i < m) && (f i).isSome) val := by
  intro m
  induction m with
  | zero => intro _; exact Slots.start fun i _ => by simp
  | succ m ih =>
    intro hm
    have h := ih (by omega)
    obtain ⟨d, hd⟩ := hdst m (by omega)
    have e : Fr ops a0 f (m + 1) = match f m with | some x => (Fr ops a0 f m).put (dstOf ops m) x | none => Fr ops a0 f m := by
      unfold Fr
      rw [List.range_succ, List.foldl_append]
      rfl
    rw [e]
    cases hfm : f m with
    | none =>
      obtain ⟨h1, h2, h3⟩ := h
      refine ⟨h1, h2, fun t ht => ⟨fun i hi hL hdi => ?_, fun hn => (h3 t ht).2 fun i hi hL => hn i hi ?_⟩⟩
      · refine (h3 t ht).1 i hi ?_ hdi
        simp only [Bool.and_eq_true, decide_eq_true_eq] at hL ⊢
        refine ⟨?_, hL.2⟩
        rcases Nat.lt_or_ge i m with h | h
        · exact h
        · have : i = m := by omega
          subst this
          rw [hfm] at hL
          cases hL.2
      · simp only [Bool.and_eq_true, decide_eq_true_eq] at hL ⊢
        exact ⟨by omega, hL.2⟩
    | some x =>
      show Slots ops n a0 ((Fr ops a0 f m).put (dstOf ops m) x) _ val
      rw [hd]
      refine h.step (show m < n by omega) hd (fun i hi hne => hdis i m d hi (by omega) hne hd) (fun i => ?_) (fun _ _ _ _ => rfl) (hf m x (by omega) hfm).symm
      by_cases hi : i = m
      · subst hi; rw [hfm]; simp
      · simp only [hi, decide_false, Bool.or_false]
        congr 1
        simp only [decide_eq_decide]
        omega

/-- What is asked of the region itself. -/
def freeB (ops : Array Oper) (n : Nat) : Bool :=
  decide (n < ops.size) && Region.sinkB .any ops n && Region.chainB .any ops n && Region.seqB .any ops (ops.size - n) n ((List.replicate n true ++ List.replicate (ops.size - n) false).toArray) &&
  (List.range n).all fun i => match ops[i]? with
    | none => false
    | some o => o.dst.isSome && o.guard.isNone && (match o.op with | .select .. => false | _ => true) && (o.after.all fun e => !Region.binds .any e || decide (e.on < i)) &&
      ((List.range n).all fun j => decide (i = j) || dstOf ops j != o.dst) &&
      ((o.looksAt ops).all fun t => (List.range n).all fun j => dstOf ops j != some t || (!isAl ops j && o.after.any fun e => Region.binds .any e && e.on == j))
theorem free_spec {n : Nat} (h : freeB ops n = true) : (n < ops.size ∧ Region.sinkB .any ops n = true ∧ Region.chainB .any ops n = true ∧ Region.seqB .any ops (ops.size - n) n ((List.replicate n true ++ List.replicate (ops.size - n) false).toArray) = true) ∧
    ∀ i o, i < n → ops[i]? = some o → (∃ d, o.dst = some d) ∧ o.guard = none ∧ (∀ cs b, o.op ≠ .select cs b) ∧ (∀ e ∈ o.after, Region.binds .any e = true → e.on < i) ∧
      (∀ j d, j < n → i ≠ j → o.dst = some d → dstOf ops j ≠ some d) ∧ (∀ t ∈ o.looksAt ops, ∀ j, j < n → dstOf ops j = some t → isAl ops j = false ∧ ∃ e ∈ o.after, Region.binds .any e = true ∧ e.on = j) := by
  unfold freeB at h
  simp only [Bool.and_eq_true, decide_eq_true_eq, List.all_eq_true, List.mem_range] at h
  obtain ⟨⟨⟨⟨h1, h2⟩, h3⟩, h4⟩, h5⟩ := h
  refine ⟨⟨h1, h2, h3, h4⟩, fun i o hi ho => ?_⟩
  have h6 := h5 i hi
  rw [ho] at h6
  simp only [Bool.and_eq_true, List.all_eq_true, List.mem_range, Array.all_eq_true', Bool.or_eq_true, decide_eq_true_eq, bne_iff_ne, ne_eq, Bool.not_eq_true', Array.any_eq_true', beq_iff_eq, Option.isSome_iff_exists, Option.isNone_iff_eq_none] at h6
  obtain ⟨⟨⟨⟨⟨g1, g2⟩, g3⟩, g4⟩, g5⟩, g6⟩ := h6
  refine ⟨g1, g2, ?_, ?_, ?_, ?_⟩
  · intro cs b e; rw [e] at g3; cases g3
  · intro e he hb
    rcases g4 e he with h | h
    · rw [hb] at h; cases h
    · exact h
  · intro j d hj hne hd hdj
    rcases g5 j hj with h | h
    · exact hne h
    · exact h (hdj.trans hd.symm)
  · intro t ht j hj hdj
    rcases g6 t ht j hj with h | h
    · exact absurd hdj h
    · exact ⟨h.1, by obtain ⟨e, he, hb⟩ := h.2; exact ⟨e, he, hb.1, hb.2⟩⟩

/-- One operation, walked at the frame aF in which all values stand already: it changes nothing there. -/
def Gives (P : Program) (ops : Array Oper) (o : Oper) (aF : Act) (W : World) : Prop := wpList P ops (fun e a' w' => e = .normal ∧ a' = aF ∧ Below W.heap.size W w') [o] aF W

theorem put_same {a : Act} {d : Tmp} {u x : Value} (h : a.put (some d) u = a) (hx : a.tmps[d]? = some x) : u = x := by
  have h1 := put_at a d d u
  rw [h, if_pos rfl, hx] at h1
  have hlt : d < a.tmps.size := by
    rcases Nat.lt_or_ge d a.tmps.size with h | h
    · exact h
    · rw [Array.getElem?_eq_none h] at hx; cases hx
  rw [if_pos hlt] at h1
  exact (Option.some.inj h1).symm
theorem gives_step {o : Oper} {a aF : Act} {W : World} {d : Tmp} {x : Value} {K : Act → World → Prop} (hg : o.guard = none) (hd : o.dst = some d) (hx : aF.tmps[d]? = some x) (he : execOp a.eval o = execOp aF.eval o)
    (h : Gives P ops o aF W) (hK : ∀ W', Below W.heap.size W W' → K (a.put (some d) x) W') : o.wp P a W K Q := by
  have hw : Region.wanted o (yielded ops aF.tmps) = true := by unfold Region.wanted; rw [hg]
  unfold Gives wpList at h
  rw [if_pos hw] at h
  rcases h with h | ⟨_, _, _, h, _⟩
  · unfold Oper.wp at h ⊢
    rw [he]
    generalize (execOp aF.eval o).run P W = r at h
    unfold Oper.upon at h ⊢
    rw [hd] at h ⊢
    split at h
    · obtain ⟨_, h1, h2⟩ := h
      have := put_same h1 hx
      subst this
      exact hK _ h2
    · obtain ⟨_, h1, h2⟩ := h
      have := put_same h1 hx
      subst this
      exact hK _ h2
    · obtain ⟨_, h1, h2⟩ := h
      have := congrArg (fun b : Act => b.defers.length) h1
      simp [Act.put] at this
    · refine Calls.mono h ?_
      intro e w'' hh
      split at hh
      · obtain ⟨_, h1, h2⟩ := hh
        have := put_same h1 hx
        subst this
        exact hK _ h2
      · cases hh.1
      · obtain ⟨_, _, h, _⟩ := hh
        cases h
    · refine Rows.mono h ?_
      intro v w'' hh
      obtain ⟨_, h1, h2⟩ := hh
      have := put_same h1 hx
      subst this
      exact hK _ h2
    · cases h.1
    · exact h.elim
  · cases h

/-- The new blocks that have been laid. -/
def Laid (ops : Array Oper) (n : Nat) (Z : Nat → Obj) (w W : World) (L : Nat → Bool) (G : Nat → Nat) : Prop :=
  (∀ k, k < n → isAl ops k = true → L k = true → w.heap.size ≤ G k ∧ ∃ W1 : World, G k = W1.heap.size ∧ G k < W.heap.size ∧ W.heap[G k]? = (W1.alloc (Z k)).heap[G k]?) ∧
  ∀ k k', k < n → k' < n → isAl ops k = true → isAl ops k' = true → L k = true → L k' = true → k ≠ k' → G k ≠ G k'
theorem Laid.below {n : Nat} {Z : Nat → Obj} {w W W' : World} {L : Nat → Bool} {G : Nat → Nat} (h : Laid ops n Z w W L G) (hb : Below W.heap.size W W') : Laid ops n Z w W' L G :=
  ⟨fun k hk ha hL => by
    obtain ⟨h1, W1, h2, h3, h4⟩ := h.1 k hk ha hL
    exact ⟨h1, W1, h2, Nat.lt_of_lt_of_le h3 hb.size, (hb.block _ h3).trans h4⟩, h.2⟩
theorem Laid.rl {n : Nat} {Z : Nat → Obj} {w W : World} {L : Nat → Bool} {G : Nat → Nat} (h : Laid ops n Z w W L G) {k : Nat} (hk : k < n) (ha : isAl ops k = true) (hL : L k = true) {M : List Value} {t : TypeId} (hZ : Z k = .cells M.toArray t) : w.heap.size ≤ G k ∧ RL W (G k) t M := by
  obtain ⟨h1, W1, h2, h3, h4⟩ := h.1 k hk ha hL
  refine ⟨h1, ?_⟩
  rw [hZ] at h4
  have h5 := RL.new W1 M t
  rw [← h2] at h5
  exact World.rowIs.of_block h5 h4

structure FreeI (P : Program) (ops : Array Oper) (n : Nat) (v : Nat → Value) (Z : Nat → Obj) (a0 : Act) (w : World) (s : Array Bool) (a : Act) (W : World) : Prop where
  inv : HeadInv .any ops n s
  below : Below w.heap.size w W
  rest : ∃ G, Laid ops n Z w W (fun i => s.getD i false) G ∧ Slots ops n a0 a (fun i => s.getD i false) (frVal ops v G)

/-- The head's operations that have not come up. -/
def left (n : Nat) (s : Array Bool) : Nat := ((List.range n).filter fun i => !s.getD i false).length
theorem left_set {n i : Nat} {s : Array Bool} (hi : i < n) (h : s.getD i true = false) : left n (s.setIfInBounds i true) + 1 = left n s := by
  unfold left
  rw [← List.countP_eq_length_filter, ← List.countP_eq_length_filter]
  have hf : s.getD i false = false := getD_both h
  have hlt : i < s.size := by
    rcases Nat.lt_or_ge i s.size with h' | h'
    · exact h'
    · simp [Array.getElem?_eq_none h'] at h
  obtain ⟨l1, l2, hl⟩ := List.append_of_mem (List.mem_range.2 hi)
  have hnd := List.nodup_range (n := n)
  rw [hl, List.nodup_append, List.nodup_cons] at hnd
  have same : ∀ j, j ≠ i → (!(s.setIfInBounds i true).getD j false) = (!s.getD j false) := fun j hj => by rw [getD_set_ne false (fun e => hj e.symm)]
  have c1 : l1.countP (fun j => !(s.setIfInBounds i true).getD j false) = l1.countP (fun j => !s.getD j false) :=
    List.countP_congr fun j hj => by rw [same j (fun e => hnd.2.2 j hj i List.mem_cons_self e)]
  have c2 : l2.countP (fun j => !(s.setIfInBounds i true).getD j false) = l2.countP (fun j => !s.getD j false) :=
    List.countP_congr fun j hj => by rw [same j (fun e => hnd.2.1.1 (e ▸ hj))]
  have e1 : (!(s.setIfInBounds i true).getD i false) = false := by simp [hlt]
  have e2 : (!s.getD i false) = true := by rw [hf]; rfl
  rw [hl, List.countP_append, List.countP_append, List.countP_cons, List.countP_cons, c1, c2, e1, e2]
  rw [if_neg (by decide), if_pos rfl]
  omega

theorem free_any {n : Nat} (v : Nat → Value) (Z : Nat → Obj) {a0 : Act} {w : World} (hB : freeB ops n = true)
    (hal : ∀ k o, k < n → ops[k]? = some o → isAl ops k = true → ∀ (e : Operand → Value) (W : World), (execOp e o).run P W = .ok (.value (.pointer (some ⟨W.heap.size, 0, none⟩))) (W.alloc (Z k)))
    (hsz : ∀ i d, i < n → dstOf ops i = some d → d < a0.tmps.size)
    (hq : ∀ i o, i < n → ops[i]? = some o → isAl ops i = false → ∀ W, Below w.heap.size w W → Gives P ops o (Fr ops a0 (fun i => if isAl ops i then none else some (v i)) n) W)
    (ht : ∀ G W, Below w.heap.size w W → Laid ops n Z w W (fun _ => true) G → wpList P ops Q (ops.toList.drop n) (Fr ops a0 (fun i => some (frVal ops v G i)) n) W) (f : Nat) :
    ∀ s a W, left n s ≤ f → FreeI P ops n v Z a0 w s a W → wpAny P .any ops Q (left n s + (ops.size - n)) s a W := by
  obtain ⟨⟨hn, hs, hc, hseq⟩, hop⟩ := free_spec hB
  have hget : ∀ i, i < n → ∃ o, ops[i]? = some o := fun i hi => ⟨_, Array.getElem?_eq_getElem (show i < ops.size by omega)⟩
  have hdstE : ∀ i o, ops[i]? = some o → dstOf ops i = o.dst := fun i o ho => by unfold dstOf; rw [ho]; rfl
  have hdst : ∀ i, i < n → ∃ d, dstOf ops i = some d := fun i hi => by
    obtain ⟨o, ho⟩ := hget i hi
    rw [hdstE i o ho]
    exact (hop i o hi ho).1
  have hdis : ∀ i j d, i < n → j < n → i ≠ j → dstOf ops j = some d → dstOf ops i ≠ some d := fun i j d hi hj hne hd => by
    obtain ⟨o, ho⟩ := hget j hj
    rw [hdstE j o ho] at hd
    exact (hop j o hj ho).2.2.2.2.1 i d hi (fun e => hne e.symm) hd
  have hF := fr_slots (ops := ops) n a0 (fun i => if isAl ops i then none else some (v i)) v hdst hdis (fun i x hi hx => by
    split at hx
    · cases hx
    · cases hx; rfl) n (Nat.le_refl _)
  generalize hFr : Fr ops a0 (fun i => if isAl ops i then none else some (v i)) n = aF at *
  induction f with
  | zero =>
    intro s a W hl hI
    have h0 : left n s = 0 := by omega
    rw [h0, Nat.zero_add]
    have hall : ∀ i, i < n → s.getD i false = true := by
      intro i hi
      unfold left at h0
      have := List.length_eq_zero_iff.1 h0
      rw [List.filter_eq_nil_iff] at this
      have := this i (List.mem_range.2 hi)
      simpa using this
    have hsE : s = (List.replicate n true ++ List.replicate (ops.size - n) false).toArray := by
      apply Array.ext
      · rw [hI.inv.size]; simp; omega
      · intro i h1 h2
        have h1' := h1
        rw [hI.inv.size] at h1'
        by_cases hi : i < n
        · have := hall i hi
          simp [h1] at this
          rw [this]
          simp [hi]
        · have := hI.inv.tail i (by omega) h1'
          simp [h1] at this
          rw [this]
          simp [List.getElem_append, hi]
    obtain ⟨G, hG, hS⟩ := hI.rest
    have hL : Laid ops n Z w W (fun _ => true) G := ⟨fun k hk ha _ => hG.1 k hk ha (hall k hk), fun k k' hk hk' ha ha' _ _ hne => hG.2 k k' hk hk' ha ha' (hall k hk) (hall k' hk') hne⟩
    have hS2 := fr_slots (ops := ops) n a0 (fun i => some (frVal ops v G i)) (frVal ops v G) hdst hdis (fun i x hi hx => (Option.some.inj hx).symm) n (Nat.le_refl _)
    have ea : a = Fr ops a0 (fun i => some (frVal ops v G i)) n := by
      refine Slots.unique (L := fun i => s.getD i false) hS ?_
      obtain ⟨g1, g2, g3⟩ := hS2
      refine ⟨g1, g2, fun t ht => ⟨fun i hi _ hdi => (g3 t ht).1 i hi (by simp [hi]) hdi, fun hne => (g3 t ht).2 fun i hi _ => hne i hi (hall i hi)⟩⟩
    have htail := ht G W hI.below hL
    rw [← ea] at htail
    have hlen : (ops.toList.drop n).length = ops.size - n := by simp
    have := wpAny_of_seq (md := .any) (Q' := Q) (ops.toList.drop n) n s a W (fun j => by rw [List.getElem?_drop, Array.getElem?_toList]) (by rw [hlen, hsE]; exact hseq) htail
    rwa [hlen] at this
  | succ f ih =>
    intro s a W hl hI
    by_cases h0 : left n s = 0
    · exact ih s a W (by omega) hI
    -- some operation of the head has not come up: the least one may
    have hex : ∃ i, i < n ∧ s.getD i true = false := by
      unfold left at h0
      have hne : (List.range n).filter (fun i => !s.getD i false) ≠ [] := fun e => h0 (by rw [e]; rfl)
      obtain ⟨i, hi⟩ := List.exists_mem_of_ne_nil _ hne
      rw [List.mem_filter] at hi
      have hin := List.mem_range.1 hi.1
      exact ⟨i, hin, getD_in (by rw [hI.inv.size]; omega) (by simpa using hi.2)⟩
    obtain ⟨i0, hi0, hun⟩ := hex
    have hready : Region.ready .any ops s ≠ [] := by
      have key : ∀ m i, i ≤ m → i < n → s.getD i true = false → ∃ j, j ∈ Region.ready .any ops s := by
        intro m
        induction m with
        | zero =>
          intro i him hi hu
          obtain ⟨o, ho⟩ := hget i hi
          refine ⟨i, mem_ready.2 ⟨hu, o, ho, fun e he hb => ?_⟩⟩
          have := (hop i o hi ho).2.2.2.1 e he hb
          omega
        | succ m ihm =>
          intro i him hi hu
          obtain ⟨o, ho⟩ := hget i hi
          by_cases hall : ∀ e ∈ o.after, Region.binds .any e = true → s.getD e.on false = true
          · exact ⟨i, mem_ready.2 ⟨hu, o, ho, hall⟩⟩
          · obtain ⟨e, he⟩ := Classical.not_forall.1 hall
            obtain ⟨he1, he2⟩ := Classical.not_imp.1 he
            obtain ⟨he2, he3⟩ := Classical.not_imp.1 he2
            have hlt := (hop i o hi ho).2.2.2.1 e he1 he2
            exact ihm e.on (by omega) (by omega) (getD_in (by rw [hI.inv.size]; omega) (by simpa using he3))
      obtain ⟨j, hj⟩ := key i0 i0 (Nat.le_refl _) hi0 hun
      exact List.ne_nil_of_mem hj
    obtain ⟨r, hr⟩ : ∃ r, left n s = r + 1 := ⟨left n s - 1, by omega⟩
    rw [hr, show r + 1 + (ops.size - n) = (r + (ops.size - n)) + 1 by omega]
    refine ⟨fun e => absurd e hready, fun i hi => ?_⟩
    have hin : i < n := Nat.lt_of_not_le fun hle => tail_waits hs hc hn hI.inv _ i0 rfl hi0 hun i hle hi
    obtain ⟨hu, o, ho, hdep⟩ := mem_ready.1 hi
    obtain ⟨⟨d, hd⟩, hg, hsel, hlow, hdiso, hlook⟩ := hop i o hin ho
    have hdE : dstOf ops i = some d := by rw [hdstE i o ho]; exact hd
    have hlt := left_set hin hu
    obtain ⟨G, hG, hS⟩ := hI.rest
    have hset : ∀ j, (s.setIfInBounds i true).getD j false = (s.getD j false || decide (j = i)) := by
      intro j
      by_cases e : j = i
      · subst e
        have : j < s.size := by rw [hI.inv.size]; omega
        simp [this]
      · rw [getD_set_ne false (fun h => e h.symm), decide_eq_false e, Bool.or_false]
    have hgoal : ∀ a' W', FreeI P ops n v Z a0 w (s.setIfInBounds i true) a' W' → wpAny P .any ops Q (r + (ops.size - n)) (s.setIfInBounds i true) a' W' := by
      intro a' W' hI'
      have h1 := ih _ a' W' (by omega) hI'
      rwa [show left n (s.setIfInBounds i true) = r by omega] at h1
    unfold wpOp
    simp only [ho]
    have hw : Region.wanted o (yielded ops a.tmps) = true := by unfold Region.wanted; rw [hg]
    rw [if_pos hw]
    left
    cases hal' : isAl ops i with
    | true =>
      unfold Oper.wp
      rw [hal i o hin ho hal']
      rw [Oper.upon_value, hd]
      refine hgoal _ _ ⟨hI.inv.set hi hin, hI.below.alloc hI.below.size _, fun k => if k = i then W.heap.size else G k, ⟨fun k hk ha hLk => ?_, fun k k' hk hk' ha ha' hLk hLk' hne => ?_⟩, ?_⟩
      · by_cases e : k = i
        · subst e
          simp only [if_true]
          exact ⟨hI.below.size, W, rfl, by simp, rfl⟩
        · simp only [e, if_false]
          have hLk2 : (s.setIfInBounds i true).getD k false = true := hLk
          have hLk' : s.getD k false = true := by
            have := hset k
            rw [hLk2, decide_eq_false e, Bool.or_false] at this
            exact this.symm
          obtain ⟨h1, W1, h2, h3, h4⟩ := hG.1 k hk ha hLk'
          exact ⟨h1, W1, h2, by simp; omega, (Below.heap_alloc W _ _ h3).trans h4⟩
      · have hL' : ∀ k, k ≠ i → (s.setIfInBounds i true).getD k false = true → s.getD k false = true := fun k e h => by
          have := hset k
          rw [h, decide_eq_false e, Bool.or_false] at this
          exact this.symm
        by_cases e : k = i
        · have e' : k' ≠ i := fun h => hne (e.trans h.symm)
          simp only [e, e', if_true, if_false]
          obtain ⟨_, _, _, h3, _⟩ := hG.1 k' hk' ha' (hL' k' e' hLk')
          omega
        · by_cases e' : k' = i
          · simp only [e, e', if_true, if_false]
            obtain ⟨_, _, _, h3, _⟩ := hG.1 k hk ha (hL' k e hLk)
            omega
          · simp only [e, e', if_false]
            exact hG.2 k k' hk hk' ha ha' (hL' k e hLk) (hL' k' e' hLk') hne
      · refine hS.step hin hdE (fun j hj hne => hdis j i d hj hin hne hdE) hset (fun j hj hne _ => ?_) ?_
        · unfold frVal
          simp only [hne, if_false]
        · unfold frVal
          rw [hal']
          simp
    | false =>
      have hx : aF.tmps[d]? = some (v i) := (hF.2.2 d (hsz i d hin hdE)).1 i hin (by simp [hin, hal']) hdE
      have hev : execOp a.eval o = execOp aF.eval o := by
        refine execOp_congr o hsel fun x hx => ?_
        cases x with
        | tmp t =>
          have ht' : t ∈ o.looksAt ops := List.mem_append_left _ (List.mem_filterMap.2 ⟨.tmp t, by simpa using hx, rfl⟩)
          show a.tmps.getD t undef = aF.tmps.getD t undef
          have hsame : a.tmps[t]? = aF.tmps[t]? := by
            by_cases hlt : t < a0.tmps.size
            · by_cases hex : ∃ j, j < n ∧ dstOf ops j = some t
              · obtain ⟨j, hj, hdj⟩ := hex
                obtain ⟨hja, e, he, hb, hon⟩ := hlook t ht' j hj hdj
                have hLj : s.getD j false = true := by have := hdep e he hb; rwa [hon] at this
                rw [(hS.2.2 t hlt).1 j hj hLj hdj, (hF.2.2 t hlt).1 j hj (by simp [hj, hja]) hdj]
                unfold frVal
                rw [hja]; rfl
              · rw [(hS.2.2 t hlt).2 fun j hj _ hdj => hex ⟨j, hj, hdj⟩, (hF.2.2 t hlt).2 fun j hj _ hdj => hex ⟨j, hj, hdj⟩]
            · have e1 : a.tmps.size = a0.tmps.size := hS.2.1
              have e2 : aF.tmps.size = a0.tmps.size := hF.2.1
              have e3 : a0.tmps.size ≤ t := Nat.le_of_not_lt hlt
              rw [Array.getElem?_eq_none (xs := a.tmps) (i := t) (by rw [e1]; exact e3), Array.getElem?_eq_none (xs := aF.tmps) (i := t) (by rw [e2]; exact e3)]
          simp [hsame]
        | const _ => rfl
        | global _ => rfl
        | func _ => rfl
      refine gives_step hg hd hx hev (hq i o hin ho hal' W hI.below) fun W' hb => ?_
      refine hgoal _ _ ⟨hI.inv.set hi hin, hI.below.trans (hb.mono hI.below.size), G, ⟨fun k hk ha hLk => ?_, fun k k' hk hk' ha ha' hLk hLk' hne => ?_⟩, ?_⟩
      · have hLk2 : (s.setIfInBounds i true).getD k false = true := hLk
        have hLk' : s.getD k false = true := by
          have e : k ≠ i := fun e => by rw [e, hal'] at ha; cases ha
          have := hset k
          rw [hLk2, decide_eq_false e, Bool.or_false] at this
          exact this.symm
        exact (hG.below hb).1 k hk ha hLk'
      · have hL' : ∀ k, isAl ops k = true → (s.setIfInBounds i true).getD k false = true → s.getD k false = true := fun k ha h => by
          have e : k ≠ i := fun e => by rw [e, hal'] at ha; cases ha
          have := hset k
          rw [h, decide_eq_false e, Bool.or_false] at this
          exact this.symm
        exact hG.2 k k' hk hk' ha ha' (hL' k ha hLk) (hL' k' ha' hLk') hne
      · refine hS.step hin hdE (fun j hj hne => hdis j i d hj hin hne hdE) hset (fun _ _ _ _ => rfl) ?_
        unfold frVal
        rw [hal']; rfl

/-- **A region whose values are known ahead, its blocks laid at any time.** -/
theorem wp_region_free {id : Nat} {a : Act} {w : World} {l : List Oper} (n : Nat) (vs : List Value) (Z : Nat → Obj) (hm : P.follows .mixedOrders = true) (hB : freeB l.toArray n = true)
    (hsz : ∀ i d, i < n → dstOf l.toArray i = some d → d < a.tmps.size)
    (hal : ∀ k o, k < n → l.toArray[k]? = some o → isAl l.toArray k = true → ∀ (e : Operand → Value) (W : World), (execOp e o).run P W = .ok (.value (.pointer (some ⟨W.heap.size, 0, none⟩))) (W.alloc (Z k)))
    (hq : ∀ i o, i < n → l.toArray[i]? = some o → isAl l.toArray i = false → ∀ W, Below w.heap.size w W → Gives P l.toArray o (Fr l.toArray a (fun i => if isAl l.toArray i then none else some (vs.getD i undef)) n) W)
    (ht : ∀ G W, Below w.heap.size w W → Laid l.toArray n Z w W (fun _ => true) G → wpList P l.toArray Q (l.drop n) (Fr l.toArray a (fun i => some (frVal l.toArray (fun i => vs.getD i undef) G i)) n) W) : (Code.region id l.toArray true).wp P Q a w := by
  have hn := (free_spec hB).1.1
  have hI : FreeI P l.toArray n (fun i => vs.getD i undef) Z a w (Array.replicate l.toArray.size false) a (w.drewN 1) :=
    ⟨⟨Array.size_replicate, (fun j oj _ hl => by rw [getD_replicate_false] at hl; cases hl), (fun t _ ht => getD_in (by rw [Array.size_replicate]; exact ht) (getD_replicate_false _ _))⟩, (Grown.drawn w 1).2,
      fun _ => 0, ⟨(fun k _ _ h => by rw [show (fun i => (Array.replicate l.toArray.size false).getD i false) k = false from getD_replicate_false _ _] at h; cases h), (fun k k' _ _ _ _ h => by rw [show (fun i => (Array.replicate l.toArray.size false).getD i false) k = false from getD_replicate_false _ _] at h; cases h)⟩, Slots.start fun i _ => getD_replicate_false _ _⟩
  have hl : left n (Array.replicate l.toArray.size false) = n := by
    unfold left
    rw [List.filter_eq_self.2 (fun i _ => by rw [getD_replicate_false]; rfl), List.length_range]
  refine wp_region_any hm ?_
  have := free_any (Q := Q) (fun i => vs.getD i undef) Z hB hal hsz hq ht (left n (Array.replicate l.toArray.size false)) _ a _ (Nat.le_refl _) hI
  rw [hl, show n + (l.toArray.size - n) = l.toArray.size by omega] at this
  exact this

def szB (ops : Array Oper) (n N : Nat) : Bool := (List.range n).all fun i => match dstOf ops i with | some d => decide (d < N) | none => true
theorem szB_spec {n N : Nat} (h : szB ops n N = true) (i d : Nat) (hi : i < n) (hd : dstOf ops i = some d) : d < N := by
  have := List.all_eq_true.1 h i (List.mem_range.2 hi)
  rw [hd] at this
  simpa using this
/-- The slots that a list of numbers and values sets. -/
def puts (a : Act) : List (Nat × Value) → Act
  | [] => a
  | (d, x) :: l => puts (a.put (some d) x) l
/-- The same, the values beside the slots: ds the slots that the first n operations set (one each), al the numbers of those that lay blocks. -/
theorem wp_region_free' {id : Nat} {a : Act} {w : World} {l : List Oper} (n N : Nat) (ds : List Nat) (al : List Nat) (vs : List Value) (Z : Nat → Obj) (hm : P.follows .mixedOrders = true) (hB : freeB l.toArray n = true)
    (hN : a.tmps.size = N) (hsz : szB l.toArray n N = true) (hds : ((List.range n).map (dstOf l.toArray)) = ds.map some) (hals : ((List.range n).map fun i => isAl l.toArray i) = (List.range n).map fun i => al.contains i)
    (hal : ∀ k o, k < n → l.toArray[k]? = some o → isAl l.toArray k = true → ∀ (e : Operand → Value) (W : World), (execOp e o).run P W = .ok (.value (.pointer (some ⟨W.heap.size, 0, none⟩))) (W.alloc (Z k)))
    (hq : ∀ i o, i < n → l.toArray[i]? = some o → isAl l.toArray i = false → ∀ W, Below w.heap.size w W → Gives P l.toArray o (puts a (((List.range n).filter fun i => !al.contains i).map fun i => (ds.getD i 0, vs.getD i undef))) W)
    (ht : ∀ G : Nat → Nat, ∀ W, Below w.heap.size w W → Laid l.toArray n Z w W (fun _ => true) G → wpList P l.toArray Q (l.drop n) (puts a ((List.range n).map fun i => (ds.getD i 0, if al.contains i then .pointer (some ⟨G i, 0, none⟩) else vs.getD i undef))) W) : (Code.region id l.toArray true).wp P Q a w := by
  have hd : ∀ i, i < n → dstOf l.toArray i = some (ds.getD i 0) := fun i hi => by
    have h1 := congrArg (fun L => L[i]?) hds
    simp only [List.getElem?_map, List.getElem?_range hi, Option.map_some] at h1
    cases hdi : ds[i]? with
    | none => rw [hdi] at h1; simp at h1
    | some x => rw [hdi] at h1; simp [List.getD, hdi]; simpa using h1
  have ha : ∀ i, i < n → isAl l.toArray i = al.contains i := fun i hi => by
    have h1 := congrArg (fun L => L[i]?) hals
    simp only [List.getElem?_map, List.getElem?_range hi, Option.map_some, Option.some.injEq] at h1
    exact h1
  have hput : ∀ (f : Nat → Option Value) (g : Nat → Value) (m : List Nat) (b : Act), (∀ i ∈ m, i < n) → (∀ i x, f i = some x → x = g i) →
      m.foldl (fun a i => match f i with | some x => a.put (dstOf l.toArray i) x | none => a) b = puts b ((m.filter fun i => (f i).isSome).map fun i => (ds.getD i 0, g i)) := by
    intro f g m
    induction m with
    | nil => intro b _ _; rfl
    | cons i m ih =>
      intro b hm hg
      rw [List.foldl_cons, ih _ (fun j hj => hm j (List.mem_cons_of_mem _ hj)) hg]
      cases hf : f i with
      | none => rw [List.filter_cons_of_neg (by rw [hf]; simp)]
      | some x =>
        rw [List.filter_cons_of_pos (by rw [hf]; simp), List.map_cons, hd i (hm i List.mem_cons_self), hg i x hf]
        rfl
  refine wp_region_free n vs Z hm hB (fun i d hi hdi => by rw [hN]; exact szB_spec hsz i d hi hdi) hal (fun i o hi ho hai W hW => ?_) (fun G W hW hG => ?_)
  · have e : Fr l.toArray a (fun i => if isAl l.toArray i then none else some (vs.getD i undef)) n = puts a (((List.range n).filter fun i => !al.contains i).map fun i => (ds.getD i 0, vs.getD i undef)) := by
      unfold Fr
      rw [hput _ (fun i => vs.getD i undef) _ _ (fun i hi => List.mem_range.1 hi) (fun i x hx => by
        split at hx
        · cases hx
        · cases hx; rfl)]
      congr 2
      refine List.filter_congr fun i hi => ?_
      rw [ha i (List.mem_range.1 hi)]
      cases al.contains i <;> rfl
    rw [e]
    exact hq i o hi ho hai W hW
  · have e : Fr l.toArray a (fun i => some (frVal l.toArray (fun i => vs.getD i undef) G i)) n = puts a ((List.range n).map fun i => (ds.getD i 0, if al.contains i then .pointer (some ⟨G i, 0, none⟩) else vs.getD i undef)) := by
      unfold Fr
      rw [hput _ (fun i => frVal l.toArray (fun i => vs.getD i undef) G i) _ _ (fun i hi => List.mem_range.1 hi) (fun i x hx => (Option.some.inj hx).symm)]
      rw [show List.filter (fun i => (some (frVal l.toArray (fun i => vs.getD i undef) G i)).isSome) (List.range n) = List.range n from List.filter_eq_self.2 (fun _ _ => rfl)]
      congr 1
      refine List.map_congr_left fun i hi => ?_
      unfold frVal
      rw [ha i (List.mem_range.1 hi)]
    rw [e]
    exact ht G W hW hG

/-- The same, the settings written out. -/
theorem wp_region_free2 {id : Nat} {a : Act} {w : World} {l : List Oper} (n N : Nat) (ds : List Nat) (al : List Nat) (vs : List Value) (ps : List (Nat × Value)) (pt : (Nat → Nat) → List (Nat × Value)) (Z : Nat → Obj) (hm : P.follows .mixedOrders = true) (hB : freeB l.toArray n = true)
    (hN : a.tmps.size = N) (hsz : szB l.toArray n N = true) (hds : ((List.range n).map (dstOf l.toArray)) = ds.map some) (hals : ((List.range n).map fun i => isAl l.toArray i) = (List.range n).map fun i => al.contains i)
    (hps : (((List.range n).filter fun i => !al.contains i).map fun i => (ds.getD i 0, vs.getD i undef)) = ps) (hpt : ∀ G : Nat → Nat, ((List.range n).map fun i => (ds.getD i 0, if al.contains i then Value.pointer (some ⟨G i, 0, none⟩) else vs.getD i undef)) = pt G)
    (hal : ∀ k o, k < n → l.toArray[k]? = some o → isAl l.toArray k = true → ∀ (e : Operand → Value) (W : World), (execOp e o).run P W = .ok (.value (.pointer (some ⟨W.heap.size, 0, none⟩))) (W.alloc (Z k)))
    (hq : ∀ W, Below w.heap.size w W → ∀ i o, i < n → l.toArray[i]? = some o → isAl l.toArray i = false → Gives P l.toArray o (puts a ps) W)
    (ht : ∀ G : Nat → Nat, ∀ W, Below w.heap.size w W → Laid l.toArray n Z w W (fun _ => true) G → wpList P l.toArray Q (l.drop n) (puts a (pt G)) W) : (Code.region id l.toArray true).wp P Q a w :=
  wp_region_free' n N ds al vs Z hm hB hN hsz hds hals hal (fun i o hi ho ha W hW => by rw [hps]; exact hq W hW i o hi ho ha) (fun G W hW hG => by rw [hpt]; exact ht G W hW hG)
end
end Go.Proofs.Ytpgbcgaalmpfoaa
