/-
  The reading of lists of numbers: the walk in the model. No theorem of a claim stands here.
-/
import Derived.Test.YtcjkcoibeieeeaaGreatDoorCutF
import Derived.Test.YtcjkcoibeieeeaaGreatDoorHexRead
set_option linter.unusedVariables false
namespace Go.Proofs.YtcjkcoibeieeeaaGreatDoor
open Go Go.RowKit Go.Deep Go.Proofs.YtcjkcoibeieeeaaGreatDoor.Fl

theorem cuts_short : ∀ (l : List UInt8), ∀ p ∈ cuts l, p.length ≤ l.length := by
  intro l
  induction l with
  | nil => intro p hp; simp [cuts] at hp; subst hp; simp
  | cons c r ih =>
    intro p hp
    unfold cuts at hp
    split at hp
    · rcases List.mem_cons.1 hp with rfl | hp
      · simp
      · have := ih p hp; simp; omega
    · cases hc : cuts r with
      | nil => exact absurd hc (cuts_ne r)
      | cons q qs =>
        rw [hc] at hp ih
        simp only at hp
        rcases List.mem_cons.1 hp with rfl | hp
        · have := ih q (by simp); simp; omega
        · have := ih p (List.mem_cons_of_mem _ hp); simp; omega

theorem own_ne {w : World} {b1 b2 g g2 n n2 c c2 : Nat} {t1 t2 : TypeId} {xs ys : List Value} (h : w.ownsRow b1 t1 1 (.slice (some ⟨g, 0, none⟩) n c) n xs) (h2 : w.ownsRow b2 t2 1 (.slice (some ⟨g2, 0, none⟩) n2 c2) n2 ys) (ht : t1 ≠ t2) : g ≠ g2 := by
  intro e
  subst e
  rcases h.2 with ⟨h, _⟩ | ⟨x, cap, cur, e1, _, hh, _⟩
  · cases h
  · rcases h2.2 with ⟨h2, _⟩ | ⟨y, cap2, cur2, e2, _, hh2, _⟩
    · cases h2
    · simp at e1 e2
      rw [← e1.1] at hh
      rw [← e2.1] at hh2
      rw [hh] at hh2
      simp at hh2
      exact ht hh2.2

/-- The pieces of a text lie in a row of the call's own. -/
structure Pieces (base : Nat) (w : World) (s : ByteArray) (D : List ByteArray) (g c : Nat) : Prop where
  cut : D.map (·.data.toList) = cuts s.data.toList
  low : base ≤ g
  lt : g < w.heap.size
  own : w.ownsRow base 9 1 (.slice (some ⟨g, 0, none⟩) D.length c) D.length (svals D)

theorem Pieces.below {base : Nat} {w w' : World} {s : ByteArray} {D : List ByteArray} {g c B : Nat} (h : Pieces base w s D g c) (hb : Below B w w') (hB : w.heap.size ≤ B) : Pieces base w' s D g c :=
  ⟨h.cut, h.low, Nat.lt_of_lt_of_le h.lt hb.size, h.own.below hb (Nat.lt_of_lt_of_le h.lt hB)⟩
theorem Pieces.grown {base : Nat} {w w' : World} {s : ByteArray} {D : List ByteArray} {g c : Nat} {row : Option Nat} (h : Pieces base w s D g c) (hg : w.grownBy w' row) (hne : row ≠ some g) : Pieces base w' s D g c :=
  ⟨h.cut, h.low, Nat.lt_of_lt_of_le h.lt hg.size, h.own.kept hg (.inr fun e => hne e.symm)⟩
theorem Pieces.cell {base : Nat} {w : World} {s : ByteArray} {D : List ByteArray} {g c k : Nat} (h : Pieces base w s D g c) (hk : k < D.length) : w.cell? ⟨g, k, none⟩ = some (.string D[k]) ∧ D.length ≤ c := by
  refine ⟨?_, ?_⟩
  · have := h.own.cells (g := g) rfl k (.string D[k]) (by unfold svals; rw [List.getElem?_map, List.getElem?_eq_getElem hk]; rfl)
    rwa [add_none, Nat.zero_add] at this
  · rcases h.own.2 with ⟨h, _⟩ | ⟨x, cap, cur, e1, _, _, h3, _⟩
    · cases h
    · simp at e1; omega
theorem Pieces.get {base : Nat} {w : World} {s : ByteArray} {D : List ByteArray} {g c k : Nat} (h : Pieces base w s D g c) (hk : k < D.length) : ∃ hk2 : k < (cuts s.data.toList).length, (cuts s.data.toList)[k] = D[k].data.toList ∧ D[k].size ≤ s.size := by
  have hl : (cuts s.data.toList).length = D.length := by rw [← h.cut, List.length_map]
  refine ⟨by omega, ?_, ?_⟩
  · simp only [← h.cut, List.getElem_map]
  · have h1 : D[k].data.toList ∈ cuts s.data.toList := by rw [← h.cut]; exact List.mem_map.2 ⟨D[k], List.getElem_mem hk, rfl⟩
    have h2 := cuts_short _ _ h1
    simpa using h2


/-- The numbers that texts spell, if all do. -/
def readNums : List (List UInt8) → Option (List Nat)
  | [] => some []
  | p :: ps => match readNum p, readNums ps with
    | some n, some l => some (n :: l)
    | _, _ => none
def readNList (s : List UInt8) : Option (List Nat) :=
  if s = [110, 111, 110, 101] then some [] else if (cuts s).length ≤ 256 then readNums (cuts s) else none
theorem readNums_snoc {ps : List (List UInt8)} {k : Nat} {l : List Nat} {n : Nat} (h : k < ps.length) (hl : readNums (ps.take k) = some l) (hn : readNum ps[k] = some n) : readNums (ps.take (k + 1)) = some (l ++ [n]) := by
  induction ps generalizing k l with
  | nil => simp at h
  | cons p r ih =>
    cases k with
    | zero =>
      simp at hl hn ⊢
      simp [readNums] at hl
      subst hl
      simp [readNums, hn]
    | succ k =>
      rw [List.take_succ_cons] at hl ⊢
      simp only [readNums] at hl ⊢
      cases hp : readNum p with
      | none => rw [hp] at hl; simp at hl
      | some m =>
        cases hr : readNums (r.take k) with
        | none => rw [hp, hr] at hl; simp at hl
        | some t =>
          rw [hp, hr] at hl
          simp at hl
          subst hl
          rw [ih (by simpa using h) hr (by simpa using hn)]
          rfl
theorem readNums_bad {ps : List (List UInt8)} {k : Nat} (h : k < ps.length) (hn : readNum ps[k] = none) : readNums ps = none := by
  induction ps generalizing k with
  | nil => simp at h
  | cons p r ih =>
    simp only [readNums]
    cases k with
    | zero => simp at hn; rw [hn]
    | succ k =>
      rw [ih (k := k) (by simpa using h) (by simpa using hn)]
      cases readNum p <;> rfl
theorem readNums_len {ps : List (List UInt8)} {l : List Nat} (h : readNums ps = some l) : l.length = ps.length := by
  induction ps generalizing l with
  | nil => simp [readNums] at h; subst h; rfl
  | cons p r ih =>
    simp only [readNums] at h
    cases hp : readNum p with
    | none => rw [hp] at h; simp at h
    | some m =>
      cases hr : readNums r with
      | none => rw [hp, hr] at h; simp at h
      | some t =>
        rw [hp, hr] at h
        simp at h
        subst h
        simp [ih hr]
theorem readNums_in {ps : List (List UInt8)} {l : List Nat} (h : readNums ps = some l) : ∀ n ∈ l, n < 2 ^ 32 := by
  induction ps generalizing l with
  | nil => simp [readNums] at h; subst h; intro n hn; cases hn
  | cons p r ih =>
    simp only [readNums] at h
    cases hp : readNum p with
    | none => rw [hp] at h; simp at h
    | some m =>
      cases hr : readNums r with
      | none => rw [hp, hr] at h; simp at h
      | some t =>
        rw [hp, hr] at h
        simp at h
        subst h
        intro n hn
        rcases List.mem_cons.1 hn with rfl | hn
        · exact (readNum_some hp).1
        · exact ih hr n hn
def nlistVal (s : List UInt8) : List Nat := (readNList s).getD []
def nlistGood (s : List UInt8) : Bool := (readNList s).isSome
theorem readN_few {s : ByteArray} (hn : s.data.toList ≠ [110, 111, 110, 101]) (hl : (cuts s.data.toList).length ≤ 256) : readNList s.data.toList = readNums (cuts s.data.toList) := by
  unfold readNList; rw [if_neg hn, if_pos hl]
theorem readN_many {s : ByteArray} (hn : s.data.toList ≠ [110, 111, 110, 101]) (hl : 256 < (cuts s.data.toList).length) : readNList s.data.toList = none := by
  unfold readNList; rw [if_neg hn, if_neg (by omega)]

def fvals (l : List Nat) : List Value := l.map fun n => Value.float .f32 n
theorem fvals_snoc (l : List Nat) (n : Nat) : fvals (l ++ [n]) = fvals l ++ [.float .f32 n] := by simp [fvals]
theorem f_one (n : Nat) : ∀ u ∈ [Value.float .f32 n], u.oneCell' = true := by
  intro u hu
  simp at hu
  subst hu
  rfl
/-- The slice is the call's own, from the block 'base' on, and holds the floats l. -/
def OwnF (base : Nat) (w : World) (a : Option Addr) (cap : Nat) (l : List Nat) : Prop :=
  w.ownsRow base 24 1 (.slice a l.length cap) l.length (fvals l)
theorem OwnF.nil (base : Nat) (w : World) : OwnF base w none 0 [] := ⟨rfl, .inl ⟨rfl, rfl⟩⟩
end Go.Proofs.YtcjkcoibeieeeaaGreatDoor
