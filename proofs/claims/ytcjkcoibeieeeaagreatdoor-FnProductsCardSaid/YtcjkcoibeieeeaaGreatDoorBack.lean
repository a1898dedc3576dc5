/-
  A list of numbers is read back from its text: of no program. No theorem of a claim stands here.
-/
import Derived.Test.YtcjkcoibeieeeaaGreatDoorReadF
set_option linter.unusedVariables false
namespace Go.Proofs.YtcjkcoibeieeeaaGreatDoor
open Go Go.RowKit Go.Proofs.YtcjkcoibeieeeaaGreatDoor.Fl

theorem hexd_comma : ∀ d : Nat, d < 16 → hexd d ≠ 44 := by decide
theorem hexN_comma : ∀ (k n : Nat), ∀ c ∈ hexN k n, c ≠ 44
  | 0, n => fun c hc => by cases hc
  | k + 1, n => fun c hc => by
    rw [hexN] at hc
    rcases List.mem_append.1 hc with h | h
    · exact hexN_comma k _ c h
    · simp at h
      subst h
      exact hexd_comma _ (Nat.mod_lt _ (by decide))
theorem cuts_join : ∀ (x : List UInt8) (r : List (List UInt8)), (∀ c ∈ x, c ≠ 44) → (∀ t ∈ r, ∀ c ∈ t, c ≠ 44) → cuts (x ++ Lib.joinTail [44] r) = x :: r
  | x, [], hx, _ => by
    simp only [Lib.joinTail, List.map_nil, List.flatten_nil, List.append_nil]
    exact cuts_none hx
  | x, y :: r, hx, hr => by
    have e : Lib.joinTail [44] (y :: r) = 44 :: (y ++ Lib.joinTail [44] r) := by simp [Lib.joinTail]
    rw [e, cuts_seg hx, cuts_join y r (hr y (by simp)) (fun t ht => hr t (List.mem_cons_of_mem _ ht))]
def canon (b : Nat) : Nat := bitsN (vl .f32 b)
theorem canon_none : vl .f32 2143289344 = none := by decide
theorem canon_idem (b : Nat) : bitsN (vl .f32 (canon b)) = canon b := by
  unfold canon
  rcases vl_cases .f32 b with h | h
  · rw [h]
    show bitsN (vl .f32 2143289344) = 2143289344
    rw [canon_none]; rfl
  · rw [h]
    show bitsN (vl .f32 b) = b
    rw [h]; rfl
theorem vl_canon (b : Nat) : vl .f32 (canon b) = vl .f32 b := by
  unfold canon
  rcases vl_cases .f32 b with h | h
  · rw [h]; exact canon_none
  · rw [h]; exact h
theorem readNum_hexT {b : Nat} (hb : b < 2 ^ 32) : readNum (hexT b) = some (canon b) :=
  readNum_of (bitsN_lt hb) (canon_idem b)
theorem readNums_texts : ∀ (l : List Nat), (∀ n ∈ l, n < 2 ^ 32) → readNums (numTexts l) = some (l.map canon)
  | [], _ => rfl
  | b :: r, h => by
    show readNums (hexT b :: numTexts r) = _
    unfold readNums
    rw [readNum_hexT (h b (by simp)), readNums_texts r (fun n hn => h n (List.mem_cons_of_mem _ hn))]
    rfl
theorem readNList_back (l : List Nat) (hl : l.length ≤ 256) (h : ∀ n ∈ l, n < 2 ^ 32) : readNList (numTextOf l) = some (l.map canon) := by
  cases l with
  | nil => rfl
  | cons b r =>
    have e : numTextOf (b :: r) = hexT b ++ Lib.joinTail [44] (numTexts r) := by
      unfold numTextOf
      rw [if_neg (by simp)]
      show Lib.join (hexT b :: numTexts r) [44] = _
      rw [Lib.join_cons]
    have hc : cuts (hexT b ++ Lib.joinTail [44] (numTexts r)) = numTexts (b :: r) := by
      refine cuts_join _ _ (hexN_comma 8 _) ?_
      intro t ht
      unfold numTexts at ht
      obtain ⟨n, _, rfl⟩ := List.mem_map.1 ht
      exact hexN_comma 8 _
    rw [e]
    unfold readNList
    rw [if_neg, hc, if_pos (by simpa [numTexts] using hl), readNums_texts _ h]
    intro he
    have h2 := congrArg List.length he
    rw [List.length_append, hexT_len] at h2
    simp at h2
    omega
end Go.Proofs.YtcjkcoibeieeeaaGreatDoor
