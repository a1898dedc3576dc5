/-
  A text cut at its commas: the walk in the model. No theorem of a claim stands here.
-/
import Derived.Test.YtcjkcoibeieeeaaGreatDoorCut0
import Derived.Test.YtcjkcoibeieeeaaGreatDoorNumT
import Derived.Laws.Strings
import Derived.Lib.Strings
import Derived.Laws.Strings2
set_option linter.unusedVariables false
namespace Go.Proofs.YtcjkcoibeieeeaaGreatDoor
open Go Go.RowKit Go.Deep Go.Proofs.YtcjkcoibeieeeaaGreatDoor.Fl

def svals (D : List ByteArray) : List Value := D.map Value.string
theorem svals_snoc (D : List ByteArray) (x : ByteArray) : svals (D ++ [x]) = svals D ++ [.string x] := by simp [svals]

/-- Where the cutting stands: D is cut already, the piece that begins at f goes on at i. -/
def CutAt (s : ByteArray) (D : List ByteArray) (f i : Nat) : Prop :=
  (i ≤ s.size ∧ f ≤ i ∧ (∀ c ∈ (s.data.toList.drop f).take (i - f), c ≠ 44) ∧ D.map (·.data.toList) ++ cuts (s.data.toList.drop f) = cuts s.data.toList) ∨
  (i = s.size + 1 ∧ D.map (·.data.toList) = cuts s.data.toList)

theorem ext_list (s : ByteArray) (a b : Nat) : (s.extract a b).data.toList = (s.data.toList.drop a).take (b - a) := by
  rw [← ByteArray.toList_eq]; exact Lib.extract_toList s a b
theorem CutAt.start (s : ByteArray) : CutAt s [] 0 0 := .inl ⟨Nat.zero_le _, Nat.le_refl _, fun c hc => by simp at hc, by simp⟩
theorem drop_split {l : List UInt8} {f i : Nat} (h1 : f ≤ i) (h2 : i < l.length) : l.drop f = (l.drop f).take (i - f) ++ l[i] :: l.drop (i + 1) := by
  have h3 : (l.drop f).drop (i - f) = l[i] :: l.drop (i + 1) := by
    rw [List.drop_drop, show f + (i - f) = i by omega, List.drop_eq_getElem_cons h2]
  rw [← h3, List.take_append_drop]
theorem CutAt.next {s : ByteArray} {D : List ByteArray} {f i : Nat} (h : CutAt s D f i) (hi : i < s.size) (hc : s[i] ≠ 44) : CutAt s D f (i + 1) := by
  rcases h with ⟨h1, h2, h3, h4⟩ | ⟨h1, _⟩
  · refine .inl ⟨by omega, by omega, ?_, h4⟩
    have hl : i < s.data.toList.length := by simpa using hi
    intro c hcm
    have e : (s.data.toList.drop f).take (i + 1 - f) = (s.data.toList.drop f).take (i - f) ++ [s.data.toList[i]] := by
      rw [show i + 1 - f = (i - f) + 1 by omega]
      have hlt : i - f < (s.data.toList.drop f).length := by rw [List.length_drop]; omega
      rw [List.take_succ_eq_append_getElem hlt]
      congr 2
      rw [List.getElem_drop]
      congr 1
      omega
    rw [e] at hcm
    rcases List.mem_append.1 hcm with hm | hm
    · exact h3 c hm
    · simp at hm
      subst hm
      exact hc
  · omega
theorem CutAt.cut {s : ByteArray} {D : List ByteArray} {f i : Nat} (h : CutAt s D f i) (hi : i < s.size) (hc : s[i] = 44) : CutAt s (D ++ [s.extract f i]) (i + 1) (i + 1) := by
  rcases h with ⟨h1, h2, h3, h4⟩ | ⟨h1, _⟩
  · have hl : i < s.data.toList.length := by simpa using hi
    refine .inl ⟨by omega, Nat.le_refl _, fun c hc => by simp at hc, ?_⟩
    have e := drop_split h2 hl
    have e2 : s.data.toList[i] = 44 := hc
    rw [e2] at e
    rw [← h4, e, cuts_seg h3]
    simp
  · omega
theorem CutAt.last {s : ByteArray} {D : List ByteArray} {f i : Nat} (h : CutAt s D f i) (hi : i = s.size) : CutAt s (D ++ [s.extract f i]) (i + 1) (i + 1) := by
  rcases h with ⟨h1, h2, h3, h4⟩ | ⟨h1, _⟩
  · refine .inr ⟨by omega, ?_⟩
    have e : (s.data.toList.drop f).take (i - f) = s.data.toList.drop f := List.take_of_length_le (by rw [List.length_drop, Array.length_toList]; have : s.data.size = s.size := rfl; omega)
    rw [e] at h3
    rw [← h4, cuts_none h3]
    simp [e]
  · omega
theorem CutAt.done {s : ByteArray} {D : List ByteArray} {f i : Nat} (h : CutAt s D f i) (hi : s.size < i) : D.map (·.data.toList) = cuts s.data.toList := by
  rcases h with ⟨h1, _⟩ | ⟨_, h⟩
  · omega
  · exact h

end Go.Proofs.YtcjkcoibeieeeaaGreatDoor
