/-
  A text cut at its commas, of no program. No theorem of a claim stands here.
-/
import Derived.Lib.Split
import Derived.Lib.IndexMore
import Derived.Test.YtcjkcoibeieeeaaGreatDoorRows
set_option linter.unusedVariables false
namespace Go.Proofs.YtcjkcoibeieeeaaGreatDoor
open Go

def cuts : List UInt8 → List (List UInt8)
  | [] => [[]]
  | c :: r => if c = 44 then [] :: cuts r else match cuts r with
    | [] => [[c]]
    | p :: ps => (c :: p) :: ps

theorem cuts_ne (l : List UInt8) : cuts l ≠ [] := by
  cases l with
  | nil => simp [cuts]
  | cons c r =>
    unfold cuts
    split
    · simp
    · split <;> simp
theorem cuts_len (l : List UInt8) : (cuts l).length ≤ l.length + 1 := by
  induction l with
  | nil => simp [cuts]
  | cons c r ih =>
    unfold cuts
    split
    · simp; exact ih
    · split
      · simp
      · rename_i p ps h
        rw [h] at ih
        simp at ih ⊢
        omega
theorem cuts_none {l : List UInt8} (h : ∀ c ∈ l, c ≠ 44) : cuts l = [l] := by
  induction l with
  | nil => rfl
  | cons c r ih =>
    unfold cuts
    rw [if_neg (h c (by simp)), ih fun x hx => h x (List.mem_cons_of_mem _ hx)]
theorem cuts_seg {l : List UInt8} (h : ∀ c ∈ l, c ≠ 44) (r : List UInt8) : cuts (l ++ 44 :: r) = l :: cuts r := by
  induction l with
  | nil => simp [cuts]
  | cons c t ih =>
    rw [List.cons_append]
    conv => lhs; unfold cuts
    rw [if_neg (h c (by simp)), ih fun x hx => h x (List.mem_cons_of_mem _ hx)]

theorem pre_one (c : UInt8) (r : List UInt8) : [44].isPrefixOf (c :: r) = (44 == c) := by simp [List.isPrefixOf]

theorem cuts_index (l : List UInt8) : (Lib.index l [44] = -1 ∧ ∀ c ∈ l, c ≠ 44) ∨ ∃ i : Nat, Lib.index l [44] = i ∧ i < l.length ∧ (∀ c ∈ l.take i, c ≠ 44) ∧ l = l.take i ++ 44 :: l.drop (i + 1) := by
  induction l with
  | nil => left; exact ⟨rfl, fun c hc => by cases hc⟩
  | cons c r ih =>
    unfold Lib.index
    rw [pre_one]
    by_cases hc : c = 44
    · subst hc
      right
      exact ⟨0, rfl, by simp, fun c hc => by simp at hc, by simp⟩
    · have hb : ((44 : UInt8) == c) = false := by rw [beq_eq_false_iff_ne]; exact fun e => hc e.symm
      rw [hb]
      simp only [Bool.false_eq_true, if_false]
      rcases ih with ⟨h1, h2⟩ | ⟨i, h1, h2, h3, h4⟩
      · left
        rw [h1]
        refine ⟨rfl, fun x hx => ?_⟩
        rcases List.mem_cons.1 hx with rfl | hx
        · exact hc
        · exact h2 x hx
      · right
        have hne : (((i : Nat) : Int) == -1) = false := by rw [beq_eq_false_iff_ne]; omega
        rw [h1, hne]
        refine ⟨i + 1, by simp, by simp; omega, fun x hx => ?_, ?_⟩
        · rw [List.take_succ_cons] at hx
          rcases List.mem_cons.1 hx with rfl | hx
          · exact hc
          · exact h3 x hx
        · rw [List.take_succ_cons, List.drop_succ_cons, List.cons_append, ← h4]

/-- What strings.SplitN cuts is what is cut, if it is not too long; else it is as long as may be. -/
theorem splitK_cuts (k : Nat) : ∀ l : List UInt8, ((cuts l).length ≤ k + 1 → Lib.splitK [44] 0 k l = cuts l) ∧ (k + 1 < (cuts l).length → (Lib.splitK [44] 0 k l).length = k + 1) := by
  induction k with
  | zero =>
    intro l
    refine ⟨fun h => ?_, fun h => rfl⟩
    rcases cuts_index l with ⟨h1, h2⟩ | ⟨i, h1, h2, h3, h4⟩
    · rw [cuts_none h2]; rfl
    · rw [h4, cuts_seg h3] at h
      have := cuts_ne (l.drop (i + 1))
      cases hc : cuts (l.drop (i + 1)) with
      | nil => exact absurd hc this
      | cons a b => rw [hc] at h; simp at h
  | succ k ih =>
    intro l
    rcases cuts_index l with ⟨h1, h2⟩ | ⟨i, h1, h2, h3, h4⟩
    · rw [cuts_none h2]
      unfold Lib.splitK
      rw [h1]
      exact ⟨fun _ => rfl, fun h => by simp at h⟩
    · have hne : (((i : Nat) : Int) == -1) = false := by rw [beq_eq_false_iff_ne]; omega
      have e : cuts l = l.take i :: cuts (l.drop (i + 1)) := by
        conv => lhs; rw [h4]
        exact cuts_seg h3 _
      have hs : Lib.splitK [44] 0 (k + 1) l = l.take i :: Lib.splitK [44] 0 k (l.drop (i + 1)) := by
        conv => lhs; unfold Lib.splitK
        rw [h1, hne]
        simp
      rw [e, hs]
      obtain ⟨i1, i2⟩ := ih (l.drop (i + 1))
      refine ⟨fun h => ?_, fun h => ?_⟩
      · rw [i1 (by simpa using h)]
      · rw [List.length_cons, i2 (by simpa using h)]

end Go.Proofs.YtcjkcoibeieeeaaGreatDoor
