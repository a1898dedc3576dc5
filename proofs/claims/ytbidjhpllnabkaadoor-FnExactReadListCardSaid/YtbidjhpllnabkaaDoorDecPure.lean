/-
  Decimal numerals, of no program: what is read back. No theorem of a claim stands here.
-/
import Derived.Lib.ParseIntB
import Derived.Lib.ParseIntBTie
import Derived.Lib.ItoaNum
import Derived.Lib.ItoaMem
import Derived.Lib.ItoaLen
set_option linter.unusedVariables false
namespace Go.Proofs.YtbidjhpllnabkaaDoor
open Go

/-- One byte more of a numeral; a byte that is no digit is passed over. -/
def digStep (n : Int) (c : UInt8) : Int := if 48 ≤ c.toNat ∧ c.toNat ≤ 57 then 10 * n + ((c.toNat : Int) - 48) else n
def digNum (l : List UInt8) : Int := l.foldl digStep 0
def digSgn (l : List UInt8) : Int := if l.head? = some 45 then -digNum l else digNum l
/-- The number that a text spells as Decimal does, if it is not too great. -/
def readDec (l : List UInt8) : Option Int := if (1 ≤ l.length ∧ l.length ≤ 17) ∧ (-1000000000000000 ≤ digSgn l ∧ digSgn l ≤ 1000000000000000) ∧ Lib.itoa (digSgn l) = l then some (digSgn l) else none
def resInt : Option Int → Value
  | some n => .tuple #[.int .i64 n, .bool true]
  | none => .tuple #[.int .i64 0, .bool false]

theorem digNum_snoc {l : List UInt8} {k : Nat} (h : k < l.length) : digNum (l.take (k + 1)) = digStep (digNum (l.take k)) l[k] := by
  unfold digNum; rw [List.take_succ_eq_append_getElem h, List.foldl_append]; rfl

theorem digNum_bd' : ∀ (l : List UInt8) (a : Int) (k : Nat), 0 ≤ a → a < 10 ^ k → 0 ≤ l.foldl digStep a ∧ l.foldl digStep a < 10 ^ (k + l.length)
  | [], a, k, h0, h1 => by simpa using ⟨h0, h1⟩
  | c :: l, a, k, h0, h1 => by
    have hs : 0 ≤ digStep a c ∧ digStep a c < 10 ^ (k + 1) := by
      rw [Int.pow_succ]
      unfold digStep
      split <;> omega
    have h := digNum_bd' l (digStep a c) (k + 1) hs.1 hs.2
    rw [List.foldl_cons, List.length_cons, show k + (l.length + 1) = k + 1 + l.length by omega]
    exact h
theorem digNum_bd (l : List UInt8) : 0 ≤ digNum l ∧ digNum l < 10 ^ l.length := by
  have h := digNum_bd' l 0 0 (Int.le_refl _) (by decide)
  rw [Nat.zero_add] at h
  exact h
theorem pow10_le {a b : Nat} (h : a ≤ b) : (10 : Int) ^ a ≤ 10 ^ b := by
  have := Nat.pow_le_pow_right (n := 10) (by decide) h
  exact_mod_cast this

theorem digNum_small {l : List UInt8} {k : Nat} (hk : k ≤ 16) : 0 ≤ digNum (l.take k) ∧ digNum (l.take k) < 10000000000000000 := by
  have h := digNum_bd (l.take k)
  have h2 : (l.take k).length ≤ 16 := by rw [List.length_take]; omega
  have h3 : (10 : Int) ^ (l.take k).length ≤ 10 ^ 16 := pow10_le h2
  have h4 : (10 : Int) ^ 16 = 10000000000000000 := by decide
  omega
theorem digNum_small' {l : List UInt8} (hk : l.length ≤ 17) : 0 ≤ digNum l ∧ digNum l < 100000000000000000 := by
  have h := digNum_bd l
  have h3 : (10 : Int) ^ l.length ≤ 10 ^ 17 := pow10_le hk
  have h4 : (10 : Int) ^ 17 = 100000000000000000 := by decide
  omega

theorem digit_toNat (u : Nat) (h : u < 10) : (UInt8.ofNat (48 + u)).toNat = 48 + u := by
  rw [UInt8.toNat_ofNat']; omega

theorem digNum_from (u : Nat) : ∀ a : Int, (Lib.decDigits u).foldl digStep a = a * 10 ^ (Lib.nDigits u) + u := by
  induction u using Nat.strongRecOn with
  | _ u ih =>
    intro a
    by_cases h : u < 10
    · rw [Lib.decDigits, dif_pos h, Lib.nDigits_small h]
      simp only [List.foldl_cons, List.foldl_nil, digStep, digit_toNat u h]
      rw [if_pos (by omega), Int.pow_one]
      omega
    · rw [Lib.decDigits, dif_neg h, Lib.nDigits_big h, List.foldl_append, ih (u / 10) (by omega) a]
      simp only [List.foldl_cons, List.foldl_nil, digStep, digit_toNat (u % 10) (by omega)]
      rw [if_pos (by omega), Int.pow_succ, ← Int.mul_assoc]
      generalize a * 10 ^ Lib.nDigits (u / 10) = z
      omega
theorem digNum_dec (u : Nat) : digNum (Lib.decDigits u) = u := by
  unfold digNum; rw [digNum_from]; simp

theorem decDigits_head (u : Nat) : ∃ c r, Lib.decDigits u = c :: r ∧ 48 ≤ c.toNat ∧ c.toNat ≤ 57 := by
  induction u using Nat.strongRecOn with
  | _ u ih =>
    by_cases h : u < 10
    · refine ⟨UInt8.ofNat (48 + u), [], ?_, ?_⟩
      · rw [Lib.decDigits, dif_pos h]
      · rw [digit_toNat u h]; omega
    · obtain ⟨c, r, e, hc⟩ := ih (u / 10) (by omega)
      refine ⟨c, r ++ [UInt8.ofNat (48 + u % 10)], ?_, hc⟩
      rw [Lib.decDigits, dif_neg h, e]; rfl

theorem digSgn_itoa (n : Int) : digSgn (Lib.itoa n) = n := by
  unfold Lib.itoa digSgn
  by_cases h : n < 0
  · rw [if_pos h]
    simp only [List.head?_cons, if_true]
    have e : digNum (45 :: Lib.decDigits n.natAbs) = digNum (Lib.decDigits n.natAbs) := by
      unfold digNum
      rw [List.foldl_cons]
      rfl
    rw [e, digNum_dec]; omega
  · rw [if_neg h]
    obtain ⟨c, r, e, hc⟩ := decDigits_head n.toNat
    have hne : ¬ (Lib.decDigits n.toNat).head? = some 45 := by
      rw [e]
      simp only [List.head?_cons, Option.some.injEq]
      rintro rfl
      simp at hc
    rw [if_neg hne, digNum_dec]; omega

theorem parseUintM_dec (M : Nat) (hM : M ≤ 18446744073709551615) (u : Nat) : ∀ (r : List UInt8) (a : Nat), a * 10 ^ Lib.nDigits u + u ≤ M → Lib.parseUintM M a (Lib.decDigits u ++ r) = Lib.parseUintM M (a * 10 ^ Lib.nDigits u + u) r := by
  induction u using Nat.strongRecOn with
  | _ u ih =>
    intro r a hu
    by_cases h : u < 10
    · rw [Lib.nDigits_small h, Nat.pow_one] at hu ⊢
      rw [Lib.decDigits, dif_pos h]
      simp only [List.cons_append, List.nil_append, Lib.parseUintM, digit_toNat u h]
      rw [if_pos (by omega), if_neg (by omega), if_neg (by omega)]
      congr 1
      omega
    · rw [Lib.nDigits_big h, Nat.pow_succ, ← Nat.mul_assoc] at hu ⊢
      rw [Lib.decDigits, dif_neg h, List.append_assoc, ih (u / 10) (by omega) _ a (by generalize a * 10 ^ Lib.nDigits (u / 10) = z at *; omega)]
      generalize a * 10 ^ Lib.nDigits (u / 10) = z at *
      simp only [List.cons_append, List.nil_append, Lib.parseUintM, digit_toNat (u % 10) (by omega)]
      rw [if_pos (by omega), if_neg (by omega), if_neg (by omega)]
      congr 1
      omega

theorem parseUintB_dec (u : Nat) (hu : u ≤ 18446744073709551615) : Lib.parseUintB 64 (Lib.decDigits u) = .ok u := by
  obtain ⟨c, r, e, hc⟩ := decDigits_head u
  unfold Lib.parseUintB
  rw [if_neg (by rw [e]; simp)]
  have h := parseUintM_dec (2 ^ 64 - 1) (by decide) u [] 0 (by simpa using hu)
  rw [List.append_nil] at h
  rw [h]
  simp [Lib.parseUintM]

/-- WHAT Decimal TELLS IS READ BACK. -/
theorem parse_itoa (n : Int) (h0 : -9223372036854775808 ≤ n) (h1 : n ≤ 9223372036854775807) : Lib.parseIntB 64 (Lib.itoa n) = .ok n := by
  unfold Lib.itoa
  by_cases h : n < 0
  · rw [if_pos h]
    unfold Lib.parseIntB
    simp only
    rw [if_pos (by decide), parseUintB_dec n.natAbs (by omega)]
    simp only
    rw [if_neg (by simp), if_neg (by rintro ⟨_, h2⟩; have e : (2 : Nat) ^ (64 - 1) = 9223372036854775808 := by decide
                                     omega)]
    rw [if_pos (by decide)]
    congr 1; omega
  · rw [if_neg h]
    obtain ⟨c, r, e, hc⟩ := decDigits_head n.toNat
    have hp := parseUintB_dec n.toNat (by omega)
    rw [e] at hp ⊢
    unfold Lib.parseIntB
    simp only
    rw [if_neg (by omega), hp]
    simp only
    have e2 : (2 : Nat) ^ (64 - 1) = 9223372036854775808 := by decide
    rw [if_neg (by rintro ⟨_, h2⟩; omega), if_neg (by rintro ⟨h2, _⟩; omega), if_neg (by omega)]
    congr 1; omega

theorem itoa_len (n : Int) (h0 : -1000000000000000 ≤ n) (h1 : n ≤ 1000000000000000) : 1 ≤ (Lib.itoa n).length ∧ (Lib.itoa n).length ≤ 17 := by
  have key : ∀ u : Nat, u ≤ 1000000000000000 → 1 ≤ (Lib.decDigits u).length ∧ (Lib.decDigits u).length ≤ 16 := by
    intro u hu
    rw [Lib.decDigits_length]
    refine ⟨Lib.nDigits_pos u, ?_⟩
    by_cases hz : u < 10
    · rw [Lib.nDigits_small hz]; decide
    · apply Classical.byContradiction
      intro hn
      obtain ⟨m, hm⟩ : ∃ m, Lib.nDigits u = m + 17 := ⟨Lib.nDigits u - 17, by omega⟩
      have hb : ∀ (k v : Nat), Lib.nDigits v = k + 2 → 10 ^ (k + 1) ≤ v := by
        intro k
        induction k with
        | zero =>
          intro v hv
          by_cases h : v < 10
          · rw [Lib.nDigits_small h] at hv; omega
          · simpa using Nat.le_of_not_lt h
        | succ k ih =>
          intro v hv
          by_cases h : v < 10
          · rw [Lib.nDigits_small h] at hv; omega
          · rw [Lib.nDigits_big h] at hv
            have := ih (v / 10) (by omega)
            rw [Nat.pow_succ]; omega
      have h2 := hb (m + 15) u (by omega)
      have h3 : (10 : Nat) ^ 16 ≤ 10 ^ (m + 15 + 1) := Nat.pow_le_pow_right (by decide) (by omega)
      have h4 : (10 : Nat) ^ 16 = 10000000000000000 := by decide
      omega
  unfold Lib.itoa
  by_cases h : n < 0
  · rw [if_pos h]
    have := key n.natAbs (by omega)
    simp only [List.length_cons]; omega
  · rw [if_neg h]
    have := key n.toNat (by omega)
    omega

theorem readDec_itoa {n : Int} (h0 : -1000000000000000 ≤ n) (h1 : n ≤ 1000000000000000) : readDec (Lib.itoa n) = some n := by
  unfold readDec
  rw [digSgn_itoa, if_pos ⟨itoa_len n h0 h1, ⟨h0, h1⟩, rfl⟩]
theorem readDec_some {l : List UInt8} {n : Int} (h : readDec l = some n) : Lib.itoa n = l ∧ -1000000000000000 ≤ n ∧ n ≤ 1000000000000000 := by
  unfold readDec at h
  split at h
  · rename_i hc
    injection h with h
    subst h
    exact ⟨hc.2.2, hc.2.1⟩
  · cases h
theorem readDec_none {l : List UInt8} (h : ∀ n : Int, -1000000000000000 ≤ n → n ≤ 1000000000000000 → Lib.itoa n ≠ l) : readDec l = none := by
  cases hr : readDec l with
  | none => rfl
  | some n => have := readDec_some hr; exact absurd this.1 (h n this.2.1 this.2.2)
/-- By what the library reads. -/
theorem readDec_ok {l : List UInt8} {v : Int} (h : Lib.parseIntB 64 l = .ok v) : readDec l = if (-1000000000000000 ≤ v ∧ v ≤ 1000000000000000) ∧ Lib.itoa v = l then some v else none := by
  by_cases hc : (-1000000000000000 ≤ v ∧ v ≤ 1000000000000000) ∧ Lib.itoa v = l
  · rw [if_pos hc, ← hc.2]; exact readDec_itoa hc.1.1 hc.1.2
  · rw [if_neg hc]
    refine readDec_none fun n h0 h1 e => hc ?_
    rw [← e, parse_itoa n (by omega) (by omega)] at h
    injection h with h
    subst h
    exact ⟨⟨h0, h1⟩, e⟩
theorem readDec_bad {l : List UInt8} (h : ∀ v, Lib.parseIntB 64 l ≠ .ok v) : readDec l = none :=
  readDec_none fun n h0 h1 e => h n (by rw [← e]; exact parse_itoa n (by omega) (by omega))
end Go.Proofs.YtbidjhpllnabkaaDoor
