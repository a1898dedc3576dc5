/-
  Curves as lists of numbers: which are valid, the time at a current. Plain facts, no program. No theorem of a claim stands here.
-/
import Derived.Test.YthkjikennlaelaaOrd
import Derived.Test.YthkjikennlaelaaCv
set_option linter.unusedSimpArgs false
set_option linter.unusedVariables false
namespace Go.Proofs.Ythkjikennlaelaa.Fl
open Go Go.RowKit

/-- Is the curve as asked at index i, held against the index before? -/
def okAt (C T : List Nat) (i : Nat) : Bool := posB (C.getD i 0) && posB (T.getD i 0) && (i == 0 || !(leF .f32 (C.getD i 0) (C.getD (i - 1) 0) || gtF .f32 (T.getD i 0) (T.getD (i - 1) 0)))
def okN (n m : Nat) : Bool := decide (2 ≤ n) && decide (n ≤ 16) && (m == n)
def okC (C T : List Nat) : Bool := okN C.length T.length && (List.range C.length).all (okAt C T)
theorem okN_true {n m : Nat} (h : okN n m = true) : 2 ≤ n ∧ n ≤ 16 ∧ m = n := by
  unfold okN at h
  simp at h
  exact ⟨h.1.1, h.1.2, h.2⟩
theorem okN_of {n m : Nat} (h1 : 2 ≤ n) (h2 : n ≤ 16) (h3 : m = n) : okN n m = true := by
  unfold okN
  simp [h1, h2, h3]
theorem okC_yes {C T : List Nat} (h : okN C.length T.length = true) (ha : ∀ i, i < C.length → okAt C T i = true) : okC C T = true := by
  unfold okC
  rw [h, Bool.true_and, List.all_eq_true]
  intro i hi
  exact ha i (List.mem_range.1 hi)
theorem okC_no {C T : List Nat} {i : Nat} (hi : i < C.length) (h : okAt C T i = false) : okC C T = false := by
  unfold okC
  rw [show (List.range C.length).all (okAt C T) = false from ?_, Bool.and_false]
  rw [List.all_eq_false]
  exact ⟨i, List.mem_range.2 hi, by simp [h]⟩
theorem okC_bad {C T : List Nat} (h : okN C.length T.length = false) : okC C T = false := by unfold okC; rw [h]; rfl
/-- What a valid curve has. -/
structure OkC (C T : List Nat) : Prop where
  two : 2 ≤ C.length
  most : C.length ≤ 16
  len : T.length = C.length
  cur : ∀ i, i < C.length → rung .f32 (C.getD i 0) < FloatKind.f32.format.infRung ∧ vl .f32 (C.getD i 0) = some (C.getD i 0) ∧ 0 < sv .f32 (C.getD i 0)
  time : ∀ i, i < C.length → rung .f32 (T.getD i 0) < FloatKind.f32.format.infRung ∧ vl .f32 (T.getD i 0) = some (T.getD i 0) ∧ 0 < sv .f32 (T.getD i 0)
  up : ∀ i, i + 1 < C.length → sv .f32 (C.getD i 0) < sv .f32 (C.getD (i + 1) 0)
  down : ∀ i, i + 1 < C.length → sv .f32 (T.getD (i + 1) 0) ≤ sv .f32 (T.getD i 0)
theorem okC_true {C T : List Nat} (h : okC C T = true) : OkC C T := by
  unfold okC at h
  simp only [Bool.and_eq_true, List.all_eq_true, List.mem_range] at h
  obtain ⟨h1, h2, h3⟩ := okN_true h.1
  have hc : ∀ i, i < C.length → posB (C.getD i 0) = true ∧ posB (T.getD i 0) = true := by
    intro i hi
    have := h.2 i hi
    unfold okAt at this
    simp only [Bool.and_eq_true] at this
    exact this.1
  have hs : ∀ i, i + 1 < C.length → leF .f32 (C.getD (i + 1) 0) (C.getD i 0) = false ∧ gtF .f32 (T.getD (i + 1) 0) (T.getD i 0) = false := by
    intro i hi
    have := h.2 (i + 1) hi
    unfold okAt at this
    rw [Nat.add_sub_cancel] at this
    simp only [Bool.and_eq_true] at this
    have h4 := this.2
    simpa using h4
  refine ⟨h1, h2, h3, fun i hi => posB_true (hc i hi).1, fun i hi => posB_true (hc i hi).2, fun i hi => ?_, fun i hi => ?_⟩
  · have := (hs i hi).1
    rw [leF_sv (posB_true (hc _ hi).1).2.1 (posB_true (hc i (by omega)).1).2.1] at this
    simpa using this
  · have := (hs i hi).2
    rw [gtF_sv (posB_true (hc _ hi).2).2.1 (posB_true (hc i (by omega)).2).2.1] at this
    simpa using this
theorem OkC.ups {C T : List Nat} (h : OkC C T) {i : Nat} : ∀ {j : Nat}, i ≤ j → j < C.length → sv .f32 (C.getD i 0) ≤ sv .f32 (C.getD j 0)
  | 0, hij, hj => by obtain rfl : i = 0 := by omega
                     exact Int.le_refl _
  | j + 1, hij, hj => by
    by_cases e : i = j + 1
    · subst e; exact Int.le_refl _
    · have h1 := h.ups (i := i) (j := j) (by omega) (by omega)
      have h2 := h.up j hj
      omega
theorem OkC.downs {C T : List Nat} (h : OkC C T) {i : Nat} : ∀ {j : Nat}, i ≤ j → j < C.length → sv .f32 (T.getD j 0) ≤ sv .f32 (T.getD i 0)
  | 0, hij, hj => by obtain rfl : i = 0 := by omega
                     exact Int.le_refl _
  | j + 1, hij, hj => by
    by_cases e : i = j + 1
    · subst e; exact Int.le_refl _
    · have h1 := h.downs (i := i) (j := j) (by omega) (by omega)
      have h2 := h.down j hj
      omega

/-- The greatest index, k at most, from which on the current is; none if there is none. -/
def lastGe (C : List Nat) (x : Nat) : Nat → Option Nat
  | 0 => if geF .f32 x (C.getD 0 0) then some 0 else none
  | k + 1 => if geF .f32 x (C.getD (k + 1) 0) then some (k + 1) else lastGe C x k
/-- The time between index i and the next one. -/
def segT (C T : List Nat) (x i : Nat) : Option Nat := fop .add .f32 (vl .f32 (T.getD i 0)) (fop .mul .f32 (fop .sub .f32 (vl .f32 (T.getD (i + 1) 0)) (vl .f32 (T.getD i 0))) (fop .quo .f32 (fop .sub .f32 (vl .f32 x) (vl .f32 (C.getD i 0))) (fop .sub .f32 (vl .f32 (C.getD (i + 1) 0)) (vl .f32 (C.getD i 0)))))
def timeI (C T : List Nat) (x i : Nat) : Option Nat := if i + 1 = C.length then vl .f32 (T.getD i 0) else segT C T x i
/-- The time at a current of a curve with n points: none if it does not trip. -/
def timeF (C T : List Nat) (x : Nat) : Option (Option Nat) := (lastGe C x (C.length - 1)).map (timeI C T x)
theorem lastGe_at {C : List Nat} {x i : Nat} (h : geF .f32 x (C.getD i 0) = true) : ∀ k, i ≤ k → (∀ j, i < j → j ≤ k → geF .f32 x (C.getD j 0) = false) → lastGe C x k = some i
  | 0, hk, _ => by obtain rfl : i = 0 := by omega
                   unfold lastGe; rw [if_pos h]
  | k + 1, hk, hj => by
    unfold lastGe
    by_cases e : i = k + 1
    · subst e; rw [if_pos h]
    · rw [hj (k + 1) (by omega) (Nat.le_refl _), if_neg (by simp)]
      exact lastGe_at h k (by omega) (fun j h1 h2 => hj j h1 (by omega))
theorem lastGe_none {C : List Nat} {x : Nat} : ∀ k, (∀ j, j ≤ k → geF .f32 x (C.getD j 0) = false) → lastGe C x k = none
  | 0, hj => by unfold lastGe; rw [hj 0 (Nat.le_refl _), if_neg (by simp)]
  | k + 1, hj => by
    unfold lastGe
    rw [hj (k + 1) (Nat.le_refl _), if_neg (by simp)]
    exact lastGe_none k (fun j h2 => hj j (by omega))
theorem lastGe_spec {C : List Nat} {x i : Nat} : ∀ {k}, lastGe C x k = some i → i ≤ k ∧ geF .f32 x (C.getD i 0) = true ∧ ∀ j, i < j → j ≤ k → geF .f32 x (C.getD j 0) = false
  | 0, h => by
    unfold lastGe at h
    split at h
    · rename_i hg
      cases h
      exact ⟨Nat.le_refl _, hg, fun j h1 h2 => by omega⟩
    · cases h
  | k + 1, h => by
    unfold lastGe at h
    split at h
    · rename_i hg
      cases h
      exact ⟨Nat.le_refl _, hg, fun j h1 h2 => by omega⟩
    · rename_i hg
      obtain ⟨h1, h2, h3⟩ := lastGe_spec h
      refine ⟨by omega, h2, fun j h4 h5 => ?_⟩
      by_cases e : j = k + 1
      · subst e; simpa using hg
      · exact h3 j h4 (by omega)
/-- A current that is a number, from the first one on, and less than that at i, is less than all later ones. -/
theorem geF_num {x y : Nat} (h : geF .f32 x y = true) : vl .f32 x = some x ∧ vl .f32 y = some y := by
  rcases vl_cases .f32 x with hx | hx
  · rw [geF_nan (.inl hx)] at h; cases h
  rcases vl_cases .f32 y with hy | hy
  · rw [geF_nan (.inr hy)] at h; cases h
  exact ⟨hx, hy⟩
theorem ge_not_lt {x y : Nat} (hx : vl .f32 x = some x) (hy : vl .f32 y = some y) : geF .f32 x y = !ltF .f32 x y := by
  rw [geF_sv hx hy, ltF_sv hx hy]
  by_cases h : sv .f32 y ≤ sv .f32 x
  · rw [decide_eq_true h, decide_eq_false (by omega)]; rfl
  · rw [decide_eq_false h, decide_eq_true (by omega)]; rfl
/-- No time below the first current. -/
theorem timeF_none {C T : List Nat} (h : OkC C T) {x : Nat} (hx : geF .f32 x (C.getD 0 0) = false) : timeF C T x = none := by
  unfold timeF
  rw [lastGe_none, Option.map_none]
  intro j hj
  have h2 := h.two
  have hj' : j < C.length := by omega
  rcases vl_cases .f32 x with hv | hv
  · exact geF_nan (.inl hv)
  · rw [geF_sv hv (h.cur 0 (by omega)).2.1] at hx
    rw [geF_sv hv (h.cur j hj').2.1]
    have h1 := h.ups (i := 0) (j := j) (Nat.zero_le _) hj'
    have hx := of_decide_eq_false hx
    exact decide_eq_false (by omega)
/-- The time where the first current above is at i + 1. -/
theorem timeF_seg {C T : List Nat} (h : OkC C T) {x i : Nat} (hi : i + 1 < C.length) (hx : geF .f32 x (C.getD i 0) = true) (hlt : ltF .f32 x (C.getD (i + 1) 0) = true) : timeF C T x = some (segT C T x i) := by
  have hv := (geF_num hx).1
  unfold timeF
  rw [lastGe_at hx (C.length - 1) (by omega) ?_, Option.map_some]
  · unfold timeI; rw [if_neg (by omega)]
  · intro j h1 h2
    have hj : j < C.length := by omega
    rw [ltF_sv hv (h.cur (i + 1) hi).2.1] at hlt
    rw [geF_sv hv (h.cur j hj).2.1]
    have h3 := h.ups (i := i + 1) (j := j) (by omega) hj
    have hlt := of_decide_eq_true hlt
    exact decide_eq_false (by omega)
theorem timeF_last {C T : List Nat} (h : OkC C T) {x : Nat} (hx : geF .f32 x (C.getD (C.length - 1) 0) = true) : timeF C T x = some (vl .f32 (T.getD (C.length - 1) 0)) := by
  have h2 := h.two
  unfold timeF
  rw [lastGe_at hx (C.length - 1) (Nat.le_refl _) (fun j h1 h2 => by omega), Option.map_some]
  unfold timeI; rw [if_pos (by omega)]
end Go.Proofs.Ythkjikennlaelaa.Fl
