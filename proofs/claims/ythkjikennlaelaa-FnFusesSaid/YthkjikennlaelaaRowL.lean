/-
  Rows of a few cells, said by a list; buses. No theorem of a claim stands here.
-/
import Derived.Test.YthkjikennlaelaaDrawF
import Derived.OwnWalk
set_option linter.unusedVariables false
set_option linter.unusedSimpArgs false
namespace Go.Proofs.Ythkjikennlaelaa
open Go Go.RowKit Go.Deep

/-- Block g is a row of the cells L. -/
def RL (w : World) (g : Nat) (t : TypeId) (L : List Value) : Prop := w.rowIs g t L.length (fun j => L.getD j (.bool false))
theorem RL.new (w : World) (L : List Value) (t : TypeId) : RL (w.alloc (.cells L.toArray t)) w.heap.size t L := by
  have h := World.rowIs_alloc w L.toArray t (fun j => L.getD j (.bool false)) (fun i hi => by
    have hl : i < L.length := by simpa using hi
    simp [List.getD, hl])
  simpa [RL] using h
theorem RL.lt {w : World} {g : Nat} {t : TypeId} {L : List Value} (h : RL w g t L) : g < w.heap.size := World.rowIs.lt h
theorem RL.cell {w : World} {g : Nat} {t : TypeId} {L : List Value} (h : RL w g t L) (i : Nat) (hi : i < L.length) : w.cell? ⟨g, i, none⟩ = some (L.getD i (.bool false)) := World.rowIs.cell h hi
theorem RL.frozen {w : World} {g : Nat} {t : TypeId} {L : List Value} (h : RL w g t L) (i : Nat) : w.frozen? ⟨g, i, none⟩ = false := World.rowIs.frozen h i
theorem RL.set {w : World} {g : Nat} {t : TypeId} {L : List Value} (h : RL w g t L) (i : Nat) (u : Value) : RL (w.setCell ⟨g, i, none⟩ u) g t (L.set i u) := by
  have h2 := World.rowIs.set h i u
  unfold RL
  rw [List.length_set]
  refine h2.congr fun j hj => ?_
  by_cases e : j = i
  · subst e; simp [List.getD, hj]
  · simp [List.getD, e, List.getElem?_set, Ne.symm e]
theorem RL.other {w : World} {g : Nat} {t : TypeId} {L : List Value} (h : RL w g t L) {b : Nat} (hne : g ≠ b) (i : Nat) (u : Value) : RL (w.setCell ⟨b, i, none⟩ u) g t L := World.rowIs.setOther (a := ⟨b, i, none⟩) h hne u
theorem RL.allocd {w : World} {g : Nat} {t : TypeId} {L : List Value} (h : RL w g t L) (o : Obj) : RL (w.alloc o) g t L := World.rowIs.alloc h o
theorem RL.drewN {w : World} {g : Nat} {t : TypeId} {L : List Value} (h : RL w g t L) (n : Nat) : RL (w.drewN n) g t L := h
theorem RL.kept {w w' : World} {g : Nat} {t : TypeId} {L : List Value} {r : Option Nat} (h : RL w g t L) (hg : w.grownBy w' r) (hne : ∀ k, r = some k → g ≠ k) : RL w' g t L :=
  World.rowIs.of_block h (hg.block g h.lt (fun e => hne g e.symm rfl))
theorem RL.below {w w' : World} {g : Nat} {t : TypeId} {L : List Value} {B : Nat} (h : RL w g t L) (hb : Below B w w') (hB : g < B) : RL w' g t L := World.rowIs.of_block h (hb.block g hB)

/-- A row of a list's cells reads as the list, at the addresses behind its first one. -/
theorem RL.news {w : World} {g : Nat} {t : TypeId} {L : List Value} (h : RL w g t L) : ∀ j u, L[j]? = some u → w.cell? ((⟨g, 0, none⟩ : Addr).add j) = some u := by
  intro j u hu
  have hj : j < L.length := (List.getElem?_eq_some_iff.1 hu).1
  have e : (⟨g, 0, none⟩ : Addr).add j = ⟨g, j, none⟩ := by
    unfold Addr.add
    by_cases h0 : j = 0
    · subst h0; rfl
    · rw [if_neg h0]; simp
  rw [e, h.cell j hj]
  simp [List.getD, hu]

/-- The numbers of a bus. -/
structure BusV where
  par : Int
  o0 : Nat
  o1 : Nat
  s0 : Nat
  s1 : Nat
  kind : Int
  a0 : Nat
  a1 : Nat
  b0 : Nat
  b1 : Nat
  c0 : Nat
  c1 : Nat
  cust : Int
def BusV.vals (b : BusV) : List Value := [.int .i64 b.par, .complex .f32 b.o0 b.o1, .complex .f32 b.s0 b.s1, .int .i64 b.kind, .complex .f32 b.a0 b.a1, .complex .f32 b.b0 b.b1, .complex .f32 b.c0 b.c1, .int .i64 b.cust]
def flat (l : List BusV) : List Value := l.flatMap BusV.vals
theorem flat_snoc (l : List BusV) (b : BusV) : flat (l ++ [b]) = flat l ++ b.vals := by simp [flat]
theorem flat_len (l : List BusV) : (flat l).length = l.length * 8 := by
  induction l with
  | nil => rfl
  | cons b r ih =>
    have e : flat (b :: r) = b.vals ++ flat r := rfl
    rw [e, List.length_append, ih, List.length_cons]
    show 8 + _ = _
    omega
theorem flat_get : ∀ (l : List BusV) (k j : Nat) (hk : k < l.length) (hj : j < 8), (flat l)[k * 8 + j]? = (l[k].vals)[j]? := by
  intro l
  induction l with
  | nil => intro k j hk; simp at hk
  | cons b r ih =>
    intro k j hk hj
    have e : flat (b :: r) = b.vals ++ flat r := rfl
    have h8 : b.vals.length = 8 := rfl
    rw [e]
    cases k with
    | zero =>
      rw [List.getElem?_append_left (by rw [h8]; omega)]
      simp
    | succ k =>
      rw [List.getElem?_append_right (by rw [h8]; omega), h8, show (k + 1) * 8 + j - 8 = k * 8 + j by omega, ih k j (by simpa using hk) hj]
      rfl
theorem one_vals (b : BusV) : ∀ u ∈ b.vals, u.oneCell' = true := by
  intro u hu
  simp [BusV.vals] at hu
  rcases hu with rfl | rfl | rfl | rfl | rfl | rfl | rfl | rfl <;> rfl

/-- What a bus at index k has. -/
structure Good (k : Nat) (b : BusV) : Prop where
  root : k = 0 → b.par = -1 ∧ b.o0 = 0 ∧ b.o1 = 0 ∧ b.s0 = 0 ∧ b.s1 = 0
  par : 0 < k → 0 ≤ b.par ∧ b.par < k
  kind : 0 ≤ b.kind ∧ b.kind ≤ 2
  cust : 0 ≤ b.cust ∧ b.cust ≤ 1000000
  own : b.o0 < 2 ^ 32 ∧ b.o1 < 2 ^ 32 ∧ b.s0 < 2 ^ 32 ∧ b.s1 < 2 ^ 32
  load : b.a0 < 2 ^ 32 ∧ b.a1 < 2 ^ 32 ∧ b.b0 < 2 ^ 32 ∧ b.b1 < 2 ^ 32 ∧ b.c0 < 2 ^ 32 ∧ b.c1 < 2 ^ 32

theorem own_grown {w w' : World} {base n s : Nat} {e : TypeId} {g c : Nat} {r : Option Nat} {xs : List Value} (h : w.ownsRow base e s (.slice (some ⟨g, 0, none⟩) n c) n xs) (hg : w.grownBy w' r) (hne : ∀ k, r = some k → g ≠ k) : w'.ownsRow base e s (.slice (some ⟨g, 0, none⟩) n c) n xs :=
  h.kept hg (.inr fun e2 => hne g e2.symm rfl)
theorem own_other {w : World} {base n s : Nat} {e : TypeId} {g c : Nat} {xs : List Value} (h : w.ownsRow base e s (.slice (some ⟨g, 0, none⟩) n c) n xs) {b : Nat} (hne : g ≠ b) (i : Nat) (u : Value) : (w.setCell ⟨b, i, none⟩ u).ownsRow base e s (.slice (some ⟨g, 0, none⟩) n c) n xs := by
  refine ⟨h.1, ?_⟩
  rcases h.2 with h2 | ⟨g2, c2, cur, e1, h1, h2, h3⟩
  · exact .inl h2
  · simp at e1
    obtain ⟨rfl, rfl⟩ := e1
    exact .inr ⟨g, c, cur, rfl, h1, by rw [Below.heap_setCell _ _ _ _ (by show g ≠ b; exact hne)]; exact h2, h3⟩
theorem own_lt {w : World} {base n s : Nat} {e : TypeId} {g c : Nat} {xs : List Value} (h : w.ownsRow base e s (.slice (some ⟨g, 0, none⟩) n c) n xs) : base ≤ g ∧ g < w.heap.size ∧ n ≤ c ∧ c ≤ maxLen := by
  rcases h.2 with ⟨h2, _⟩ | ⟨g2, c2, cur, e1, h1, h2, h3, h4, _⟩
  · cases h2
  · simp at e1
    obtain ⟨rfl, rfl⟩ := e1
    exact ⟨h1, (Array.getElem?_eq_some_iff.1 h2).1, h3, h4⟩
theorem own_ne_row {w : World} {base n s : Nat} {e t : TypeId} {g c g2 : Nat} {xs L : List Value} (h : w.ownsRow base e s (.slice (some ⟨g, 0, none⟩) n c) n xs) (h2 : RL w g2 t L) (ht : e ≠ t) : g ≠ g2 := by
  intro ee
  subst ee
  rcases h.2 with ⟨h3, _⟩ | ⟨g3, c3, cur, e1, _, hh, _⟩
  · cases h3
  · simp at e1
    obtain ⟨rfl, rfl⟩ := e1
    obtain ⟨c4, hb, _, _⟩ := h2
    rw [hh] at hb
    simp at hb
    exact ht hb.2
theorem own_form {w : World} {base n s : Nat} {e : TypeId} {v : Value} {xs : List Value} (h : w.ownsRow base e s v (n + 1) xs) : ∃ g cap, v = .slice (some ⟨g, 0, none⟩) (n + 1) cap := by
  rcases h.2 with ⟨_, h2⟩ | ⟨g, c, cur, e1, _⟩
  · omega
  · exact ⟨g, c, e1⟩
end Go.Proofs.Ythkjikennlaelaa
