/-
  Sums along trees of buses: what a walk from the last bus to the first leaves at a bus is the sum over those below it. No theorem of a claim stands here.
-/
import Derived.Test.YtbcjgjdkapdihaaSplit
import Derived.Test.YtbcjgjdkapdihaaCust
set_option linter.unusedVariables false
set_option linter.unusedSimpArgs false
namespace Go.Proofs.Ytbcjgjdkapdihaa
open Go

/-- One round: a bus's sum is added to its parent's. -/
def wst {n : Nat} (S : Nat → Int) (x : IB n) : Nat → Int := fun j => if x.1.2.par = (j : Int) then S j + S x.1.1 else S j
def wsum {n : Nat} (V : Nat → Int) (pre : List (IB n)) : Nat → Int := pre.foldl wst V
theorem wsum_snoc {n : Nat} (V : Nat → Int) (pre : List (IB n)) (x : IB n) : wsum V (pre ++ [x]) = wst (wsum V pre) x := by simp [wsum]
theorem wsum_bound {n : Nat} (pre : List (IB n)) : ∀ (V : Nat → Int) (M : Nat), (∀ j, (V j).natAbs ≤ M) → ∀ j, (wsum V pre j).natAbs ≤ M * 2 ^ pre.length := by
  induction pre with
  | nil => intro V M h j; simpa [wsum] using h j
  | cons x r ih =>
    intro V M h j
    have h1 : ∀ j, (wst V x j).natAbs ≤ M * 2 := by
      intro j
      unfold wst
      have ha := h j
      have hb := h x.1.1
      split <;> omega
    have := ih (wst V x) (M * 2) h1 j
    rw [List.length_cons, Nat.pow_succ, Nat.mul_comm (2 ^ r.length) 2, ← Nat.mul_assoc]
    exact this
theorem wsum_small {n : Nat} (V : Nat → Int) (pre : List (IB n)) (hV : ∀ j, (V j).natAbs ≤ 50) (h : pre.length ≤ 16) (j : Nat) : (wsum V pre j).natAbs ≤ 3276800 := by
  have h1 := wsum_bound pre V 50 hV j
  have h2 : 2 ^ pre.length ≤ 2 ^ 16 := Nat.pow_le_pow_right (by omega) h
  have h3 : (2 : Nat) ^ 16 = 65536 := by decide
  omega

/-- The rounds for buses t - 1, .., 0. -/
def wfold (Bs : List BusV) : Nat → (Nat → Int) → (Nat → Int)
  | 0, S => S
  | t + 1, S => wfold Bs t (fun j => if parAt Bs t = (j : Int) then S j + S t else S j)
theorem wfold_sum {Bs : List BusV} (hG : ∀ i (h : i < Bs.length), Good i Bs[i]) (h0 : 0 < Bs.length) (V : Nat → Int) : ∀ t, t ≤ Bs.length → wfold Bs (Bs.length - t) (wsum V (upto (gB Bs hG h0) t)) = wfold Bs Bs.length V
  | 0, _ => rfl
  | t + 1, ht => by
    have ih := wfold_sum hG h0 V t (by omega)
    rw [upto_succ, wsum_snoc, ← ih]
    have hx := gB_at (hG := hG) (h1 := h0) (j := t) (by omega)
    generalize gB Bs hG h0 t = x at *
    generalize wsum V (upto (gB Bs hG h0) t) = S at *
    obtain ⟨k, hk⟩ : ∃ k, Bs.length - t = k + 1 := ⟨Bs.length - t - 1, by omega⟩
    rw [hk, show Bs.length - (t + 1) = k by omega]
    show _ = wfold Bs k _
    congr 1
    have e1 : x.1.1 = k := by rw [hx]; show Bs.length - 1 - t = k; omega
    have e2 : x.1.2.par = parAt Bs k := by
      rw [hx, parAt_get (show k < Bs.length by omega)]
      show Bs[Bs.length - 1 - t].par = Bs[k].par
      congr 2
      omega
    unfold wst
    rw [e1, e2]
theorem wfold_last {Bs : List BusV} (hG : ∀ i (h : i < Bs.length), Good i Bs[i]) (h0 : 0 < Bs.length) (V : Nat → Int) : wsum V (upto (gB Bs hG h0) Bs.length) = wfold Bs Bs.length V := by
  have h := wfold_sum hG h0 V Bs.length (Nat.le_refl _)
  rw [Nat.sub_self] at h
  exact h

/-- The sum of S over a list of buses. -/
def wls (S : Nat → Int) (l : List Int) : Int := l.foldl (fun s k => s + S k.toNat) 0
theorem wls_snoc (S : Nat → Int) (l : List Int) (k : Int) : wls S (l ++ [k]) = wls S l + S k.toNat := by simp [wls]
theorem wls_take (S : Nat → Int) (L : List Int) (k : Nat) (hk : k < L.length) : wls S (L.take (k + 1)) = wls S (L.take k) + S (L.getD k 0).toNat := by
  rw [List.take_succ_eq_append_getElem hk, wls_snoc]
  simp [List.getD, hk]
theorem wls_bound (S : Nat → Int) (M : Nat) (h : ∀ j, (S j).natAbs ≤ M) (L : List Int) : ∀ k, k ≤ L.length → (wls S (L.take k)).natAbs ≤ M * k
  | 0, _ => by simp [wls]
  | k + 1, hk => by
    have ih := wls_bound S M h L k (by omega)
    have := h (L.getD k 0).toNat
    rw [wls_take S L k (by omega), Nat.mul_succ]
    omega
theorem belL_none (Bs : List BusV) (b : Nat) : ∀ k, k ≤ b → belL Bs b k = []
  | 0, _ => rfl
  | k + 1, h => by
    unfold belL
    rw [belL_none Bs b k (by omega), if_neg]
    rintro (h | h)
    · cases h
    · omega
theorem wls_upd (Bs : List BusV) (b : Nat) (p : Int) (s : Int) (S : Nat → Int) : ∀ k, wls (fun j => if p = (j : Int) then S j + s else S j) (belL Bs b k) = wls S (belL Bs b k) + (if p ∈ belL Bs b k then s else 0)
  | 0 => by simp [belL, wls]
  | k + 1 => by
    have ih := wls_upd Bs b p s S k
    have hm := belL_mem Bs b k
    unfold belL
    by_cases hc : parAt Bs k ∈ belL Bs b k ∨ k = b
    · rw [if_pos hc, wls_snoc, wls_snoc, ih, Int.toNat_natCast]
      generalize belL Bs b k = L at *
      by_cases e : p = (k : Int)
      · have hn : ¬ p ∈ L := fun h => by have := hm _ h; omega
        rw [if_neg hn, if_pos e, if_pos (by rw [e]; simp)]
        omega
      · have hmem : p ∈ L ++ [(k : Int)] ↔ p ∈ L := by simp [e]
        rw [if_neg e]
        simp only [hmem]
        omega
    · rw [if_neg hc]
      exact ih
theorem wfold_bel {Bs : List BusV} (hG : ∀ i, i < Bs.length → -1 ≤ parAt Bs i ∧ parAt Bs i < i) (b : Nat) : ∀ t, t ≤ Bs.length → ∀ S : Nat → Int, wfold Bs t S b = if b < t then wls S (belL Bs b t) else S b
  | 0, _, S => rfl
  | t + 1, ht, S => by
    have ih := wfold_bel hG b t (by omega) (fun j => if parAt Bs t = (j : Int) then S j + S t else S j)
    have hp := hG t (by omega)
    show wfold Bs t _ b = _
    rw [ih]
    by_cases h1 : b < t
    · rw [if_pos h1, if_pos (by omega), wls_upd]
      conv => rhs; unfold belL
      by_cases hc : parAt Bs t ∈ belL Bs b t
      · rw [if_pos hc, if_pos (.inl hc), wls_snoc, Int.toNat_natCast]
      · rw [if_neg hc, if_neg (by rintro (h | h); exact hc h; omega), Int.add_zero]
    · rw [if_neg h1]
      by_cases h2 : b = t
      · subst h2
        show (if parAt Bs b = (b : Int) then S b + S b else S b) = if b < b + 1 then wls S (belL Bs b (b + 1)) else S b
        rw [if_neg (by omega), if_pos (by omega)]
        unfold belL
        rw [if_pos (.inr rfl), belL_none Bs b b (Nat.le_refl _)]
        simp [wls]
      · show (if parAt Bs t = (b : Int) then S b + S t else S b) = if b < t + 1 then wls S (belL Bs b (t + 1)) else S b
        rw [if_neg (by omega), if_neg (by omega)]
theorem good_parW {Bs : List BusV} (hG : ∀ i (h : i < Bs.length), Good i Bs[i]) (i : Nat) (h : i < Bs.length) : -1 ≤ parAt Bs i ∧ parAt Bs i < i := by
  rw [parAt_get h]
  have hg := hG i h
  by_cases h0 : i = 0
  · have := (hg.root h0).1; omega
  · have := hg.par (by omega); omega
/-- What stands at bus b at the end: the sum over the buses below it. -/
theorem wsum_below {Bs : List BusV} (hG : ∀ i (h : i < Bs.length), Good i Bs[i]) (h0 : 0 < Bs.length) (V : Nat → Int) (b : Nat) (hb : b < Bs.length) : wsum V (upto (gB Bs hG h0) Bs.length) b = wls V (belL Bs b Bs.length) := by
  rw [wfold_last, wfold_bel (good_parW hG) b Bs.length (Nat.le_refl _) V, if_pos hb]
end Go.Proofs.Ytbcjgjdkapdihaa
