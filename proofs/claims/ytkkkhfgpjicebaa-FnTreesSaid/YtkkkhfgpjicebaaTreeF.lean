/-
  What trees of buses hold: paths, what is below, sums of customers. No theorem of a claim stands here.
-/
import Derived.Test.YtkkkhfgpjicebaaCust
import Derived.Test.YtkkkhfgpjicebaaDepth
import Derived.Test.YtkkkhfgpjicebaaSplit
set_option linter.unusedVariables false
set_option linter.unusedSimpArgs false
namespace Go.Proofs.Ytkkkhfgpjicebaa
open Go

theorem ups_cons {Bs : List BusV} {f : Nat} {a : Int} (h : a ≠ -1) : ups Bs (f + 1) a = a :: ups Bs f (parAt Bs a.toNat) := by
  conv => lhs; unfold ups
  rw [if_neg h]
theorem ups_head (Bs : List BusV) : ∀ (f : Nat) (a : Int), 0 < (ups Bs f a).length → (ups Bs f a).getD 0 0 = a
  | 0, a, h => by simp [ups] at h
  | f + 1, a, h => by
    by_cases e : a = -1
    · rw [e, ups_end] at h; simp at h
    · rw [ups_cons e]; rfl
theorem ups_step (Bs : List BusV) : ∀ (f : Nat) (a : Int) (j : Nat), j + 1 < (ups Bs f a).length → parAt Bs ((ups Bs f a).getD j 0).toNat = (ups Bs f a).getD (j + 1) 0
  | 0, a, j, h => by simp [ups] at h
  | f + 1, a, j, h => by
    by_cases e : a = -1
    · rw [e, ups_end] at h; simp at h
    · rw [ups_cons e] at h ⊢
      rw [List.length_cons] at h
      cases j with
      | zero =>
        have := ups_head Bs f (parAt Bs a.toNat) (by omega)
        show parAt Bs a.toNat = (ups Bs f (parAt Bs a.toNat)).getD 0 0
        exact this.symm
      | succ j =>
        have := ups_step Bs f (parAt Bs a.toNat) j (by omega)
        exact this
theorem ups_mem {Bs : List BusV} (hG : ∀ i, i < Bs.length → -1 ≤ parAt Bs i ∧ parAt Bs i < i) : ∀ (f : Nat) (a : Int), -1 ≤ a → a < Bs.length → ∀ x ∈ ups Bs f a, 0 ≤ x ∧ x < Bs.length
  | 0, a, _, _, x, h => by simp [ups] at h
  | f + 1, a, h1, h2, x, h => by
    by_cases e : a = -1
    · rw [e, ups_end] at h; cases h
    · rw [ups_cons e] at h
      have hp := hG a.toNat (by omega)
      rcases List.mem_cons.1 h with h | h
      · omega
      · exact ups_mem hG f _ hp.1 (by omega) x h
theorem ups_last {Bs : List BusV} (hG : ∀ i, i < Bs.length → -1 ≤ parAt Bs i ∧ parAt Bs i < i) (hR : ∀ i, i < Bs.length → parAt Bs i = -1 → i = 0) : ∀ (f : Nat) (a : Int), 0 ≤ a → a < Bs.length → a + 1 ≤ f → (ups Bs f a).getD ((ups Bs f a).length - 1) 0 = 0
  | 0, a, h0, _, h => by omega
  | f + 1, a, h0, h1, h => by
    have hp := hG a.toNat (by omega)
    rw [ups_cons (by omega)]
    by_cases e : parAt Bs a.toNat = -1
    · rw [e, ups_end]
      have := hR a.toNat (by omega) e
      show a = 0
      omega
    · have ih := ups_last hG hR f (parAt Bs a.toNat) (by omega) (by omega) (by omega)
      have hl : 0 < (ups Bs f (parAt Bs a.toNat)).length := by
        cases f with
        | zero => omega
        | succ f => rw [ups_cons e]; simp
      generalize ups Bs f (parAt Bs a.toNat) = L at *
      rw [List.length_cons, show L.length + 1 - 1 = (L.length - 1) + 1 by omega]
      exact ih
theorem good_root {Bs : List BusV} (hG : ∀ i (h : i < Bs.length), Good i Bs[i]) (i : Nat) (h : i < Bs.length) (e : parAt Bs i = -1) : i = 0 := by
  rw [parAt_get h] at e
  by_cases h0 : i = 0
  · exact h0
  · have := (hG i h).par (by omega); omega
theorem bel_iff {Bs : List BusV} (hG : ∀ i (h : i < Bs.length), Good i Bs[i]) (h16 : Bs.length ≤ 16) (b : Nat) : ∀ k, k ≤ Bs.length → ∀ i, i < k → ((i : Int) ∈ belL Bs b k ↔ (b : Int) ∈ ups Bs 17 i)
  | 0, _, i, h => by omega
  | k + 1, hk, i, hi => by
    have ih := bel_iff hG h16 b k (by omega)
    have hm := belL_mem Bs b k
    unfold belL
    by_cases e : i = k
    · subst e
      have hp := good_par hG i (by omega)
      have hni : ¬ (i : Int) ∈ belL Bs b i := fun h => by have := hm _ h; omega
      have h1 : (b : Int) ∈ ups Bs 17 i ↔ (b = i ∨ (b : Int) ∈ ups Bs 16 (parAt Bs i)) := by
        rw [show (17 : Nat) = 16 + 1 from rfl, ups_cons (by omega), Int.toNat_natCast, List.mem_cons]
        constructor
        · rintro (h | h)
          · exact .inl (by omega)
          · exact .inr h
        · rintro (h | h)
          · exact .inl (by omega)
          · exact .inr h
      have h2 : (b : Int) ∈ ups Bs 16 (parAt Bs i) ↔ parAt Bs i ∈ belL Bs b i := by
        by_cases e2 : parAt Bs i = -1
        · rw [e2, ups_end]
          constructor
          · intro h; cases h
          · intro h; have := hm _ h; omega
        · obtain ⟨q, hq⟩ : ∃ q : Nat, parAt Bs i = q := ⟨(parAt Bs i).toNat, by omega⟩
          rw [hq, ih q (by omega), ups_stable (good_par hG) 16 q (by omega) (by omega) (by omega)]
      rw [h1, h2]
      by_cases hc : parAt Bs i ∈ belL Bs b i ∨ i = b
      · rw [if_pos hc]
        constructor
        · intro _; rcases hc with h | h
          · exact .inr h
          · exact .inl h.symm
        · intro _; simp
      · rw [if_neg hc]
        constructor
        · intro h; exact absurd h hni
        · rintro (h | h)
          · exact absurd (.inr h.symm) hc
          · exact absurd (.inl h) hc
    · have ih2 := ih i (by omega)
      by_cases hc : parAt Bs k ∈ belL Bs b k ∨ k = b
      · rw [if_pos hc, List.mem_append, ih2]
        constructor
        · rintro (h | h)
          · exact h
          · simp at h; omega
        · exact .inl
      · rw [if_neg hc]; exact ih2

/-- The sum of S over those of the t buses from lo on whose parent is b. -/
def ks (Bs : List BusV) (S : Nat → Int) (b : Int) : Nat → Nat → Int
  | _, 0 => 0
  | lo, t + 1 => (if parAt Bs lo = b then S lo else 0) + ks Bs S b (lo + 1) t
theorem ks_congr {Bs : List BusV} {S S' : Nat → Int} {b : Int} : ∀ (t lo : Nat), (∀ k, lo ≤ k → S' k = S k) → ks Bs S' b lo t = ks Bs S b lo t
  | 0, _, _ => rfl
  | t + 1, lo, h => by
    unfold ks
    rw [h lo (Nat.le_refl _), ks_congr t (lo + 1) (fun k hk => h k (by omega))]
theorem ks_snoc (Bs : List BusV) (S : Nat → Int) (b : Int) : ∀ (t lo : Nat), ks Bs S b lo (t + 1) = ks Bs S b lo t + (if parAt Bs (lo + t) = b then S (lo + t) else 0)
  | 0, lo => by simp [ks]
  | t + 1, lo => by
    have ih := ks_snoc Bs S b t (lo + 1)
    have e1 : ks Bs S b lo (t + 1 + 1) = (if parAt Bs lo = b then S lo else 0) + ks Bs S b (lo + 1) (t + 1) := rfl
    have e2 : ks Bs S b lo (t + 1) = (if parAt Bs lo = b then S lo else 0) + ks Bs S b (lo + 1) t := rfl
    rw [e1, e2, ih, show lo + 1 + t = lo + (t + 1) by omega]
    omega
/-- The sum of S over a list of buses. -/
def lsum (S : Nat → Int) (l : List Int) : Int := l.foldl (fun s k => s + S k.toNat) 0
theorem lsum_snoc (S : Nat → Int) (l : List Int) (k : Int) : lsum S (l ++ [k]) = lsum S l + S k.toNat := by simp [lsum]
theorem kids_sum (Bs : List BusV) (S : Nat → Int) (b : Int) : ∀ n, lsum S (kids Bs b n) = ks Bs S b 0 n
  | 0 => rfl
  | n + 1 => by
    have ih := kids_sum Bs S b n
    rw [ks_snoc, Nat.zero_add]
    by_cases h : parAt Bs n = b
    · rw [kids_yes h, lsum_snoc, ih, if_pos h, Int.toNat_natCast]
    · rw [kids_no h, ih, if_neg h, Int.add_zero]
def custAt (Bs : List BusV) (i : Nat) : Int := ((Bs[i]?).map BusV.cust).getD 0
theorem custAt_get {Bs : List BusV} {i : Nat} (h : i < Bs.length) : custAt Bs i = Bs[i].cust := by simp [custAt, h]
theorem csum_inv {Bs : List BusV} (hG : ∀ i (h : i < Bs.length), Good i Bs[i]) (h0 : 0 < Bs.length) : ∀ t, t ≤ Bs.length → ∀ j : Nat, csum (upto (gB Bs hG h0) t) j = (if Bs.length - t ≤ j ∧ j < Bs.length then custAt Bs j else 0) + ks Bs (csum (upto (gB Bs hG h0) t)) j (Bs.length - t) t
  | 0, _, j => by
    rw [if_neg (by omega)]
    rfl
  | t + 1, ht, j => by
    have ih := csum_inv hG h0 t (by omega)
    rw [upto_succ, csum_snoc]
    have hx := gB_at (hG := hG) (h1 := h0) (j := t) (by omega)
    generalize gB Bs hG h0 t = x at *
    generalize csum (upto (gB Bs hG h0) t) = S at *
    obtain ⟨⟨i, B⟩, hi, hgd⟩ := x
    simp at hx
    obtain ⟨hxi, hxB⟩ := hx
    have hi2 : i < Bs.length := hi
    have hil : Bs.length - t = i + 1 := by omega
    have hil2 : Bs.length - (t + 1) = i := by omega
    have hBi : Bs[i] = B := by subst hxi; exact hxB.symm
    have hpi : parAt Bs i = B.par := by rw [parAt_get hi2, hBi]
    have hci : custAt Bs i = B.cust := by rw [custAt_get hi2, hBi]
    rw [hil] at ih
    rw [hil2]
    have hp := good_par hG i hi2
    rw [hpi] at hp
    have hj := ih j
    by_cases e : B.par = -1
    · have hS : ∀ m, cstep S ⟨(i, B), hi, hgd⟩ m = if m = i then S i + B.cust else S m := fun m => cstep_root S ⟨(i, B), hi, hgd⟩ e m
      generalize cstep S ⟨(i, B), hi, hgd⟩ = S' at *
      show S' j = (if i ≤ j ∧ j < Bs.length then custAt Bs j else 0) + ((if parAt Bs i = (j : Int) then S' i else 0) + ks Bs S' j (i + 1) t)
      have hk : ks Bs S' j (i + 1) t = ks Bs S j (i + 1) t := ks_congr t (i + 1) (fun k hk => by rw [hS k, if_neg (by omega)])
      have hSj := hS j
      rw [hk, if_neg (show ¬ parAt Bs i = (j : Int) by omega)]
      by_cases hji : j = i
      · rw [if_pos hji] at hSj
        rw [if_neg (show ¬ (i + 1 ≤ j ∧ j < Bs.length) by omega)] at hj
        rw [if_pos (show i ≤ j ∧ j < Bs.length by omega)]
        have hcj : custAt Bs j = B.cust := by rw [hji]; exact hci
        have hSS : S j = S i := by rw [hji]
        omega
      · rw [if_neg hji] at hSj
        by_cases hjn : i + 1 ≤ j ∧ j < Bs.length
        · rw [if_pos hjn] at hj; rw [if_pos (show i ≤ j ∧ j < Bs.length by omega)]; omega
        · rw [if_neg hjn] at hj; rw [if_neg (show ¬ (i ≤ j ∧ j < Bs.length) by omega)]; omega
    · obtain ⟨q, hq⟩ : ∃ q : Nat, B.par = q := ⟨B.par.toNat, by omega⟩
      have hqi : q < i := by omega
      have hS : ∀ m, cstep S ⟨(i, B), hi, hgd⟩ m = if m = q then S q + (S i + B.cust) else if m = i then S i + B.cust else S m := fun m => cstep_at S ⟨(i, B), hi, hgd⟩ q hq (by simp; omega) m
      generalize cstep S ⟨(i, B), hi, hgd⟩ = S' at *
      show S' j = (if i ≤ j ∧ j < Bs.length then custAt Bs j else 0) + ((if parAt Bs i = (j : Int) then S' i else 0) + ks Bs S' j (i + 1) t)
      have hk : ks Bs S' j (i + 1) t = ks Bs S j (i + 1) t := ks_congr t (i + 1) (fun k hk => by rw [hS k, if_neg (by omega), if_neg (by omega)])
      have hSj := hS j
      have hSi := hS i
      rw [if_neg (show ¬ i = q by omega), if_pos rfl] at hSi
      rw [hk]
      by_cases hjq : j = q
      · rw [if_pos hjq] at hSj
        rw [if_neg (show ¬ (i + 1 ≤ j ∧ j < Bs.length) by omega)] at hj
        rw [if_neg (show ¬ (i ≤ j ∧ j < Bs.length) by omega), if_pos (show parAt Bs i = (j : Int) by omega)]
        have hSS : S j = S q := by rw [hjq]
        omega
      · rw [if_neg hjq] at hSj
        rw [if_neg (show ¬ parAt Bs i = (j : Int) by omega)]
        by_cases hji : j = i
        · rw [if_pos hji] at hSj
          rw [if_neg (show ¬ (i + 1 ≤ j ∧ j < Bs.length) by omega)] at hj
          rw [if_pos (show i ≤ j ∧ j < Bs.length by omega)]
          have hcj : custAt Bs j = B.cust := by rw [hji]; exact hci
          have hSS : S j = S i := by rw [hji]
          omega
        · rw [if_neg hji] at hSj
          by_cases hjn : i + 1 ≤ j ∧ j < Bs.length
          · rw [if_pos hjn] at hj; rw [if_pos (show i ≤ j ∧ j < Bs.length by omega)]; omega
          · rw [if_neg hjn] at hj; rw [if_neg (show ¬ (i ≤ j ∧ j < Bs.length) by omega)]; omega
/-- The customers below a bus are its own and those below its children. -/
theorem csum_kids {Bs : List BusV} (hG : ∀ i (h : i < Bs.length), Good i Bs[i]) (h0 : 0 < Bs.length) (j : Nat) (hj : j < Bs.length) : csum (upto (gB Bs hG h0) Bs.length) j = custAt Bs j + lsum (csum (upto (gB Bs hG h0) Bs.length)) (kids Bs j Bs.length) := by
  have h := csum_inv hG h0 Bs.length (Nat.le_refl _) j
  rw [Nat.sub_self, if_pos (by omega)] at h
  rw [kids_sum]
  exact h
end Go.Proofs.Ytkkkhfgpjicebaa
