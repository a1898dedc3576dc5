/-
  Hexadecimal numerals, of no program. No theorem of a claim stands here.
-/
import Derived.Test.YtcjkcoibeieeeaaGreatDoorRows
set_option linter.unusedVariables false
namespace Go.Proofs.YtcjkcoibeieeeaaGreatDoor
open Go

def hexd (d : Nat) : UInt8 := if d < 10 then UInt8.ofNat (48 + d) else UInt8.ofNat (87 + d)
/-- The last k hexadecimal digits of n, the greatest ahead. -/
def hexN : Nat → Nat → List UInt8
  | 0, _ => []
  | k + 1, n => hexN k (n / 16) ++ [hexd (n % 16)]

theorem hexN_len : ∀ (k n : Nat), (hexN k n).length = k
  | 0, n => rfl
  | k + 1, n => by simp [hexN, hexN_len k]
theorem hexN_head : ∀ (k n : Nat), hexN (k + 1) n = hexd (n / 16 ^ k % 16) :: hexN k n
  | 0, n => by simp [hexN]
  | k + 1, n => by
    rw [hexN, hexN_head k (n / 16)]
    conv => rhs; rw [hexN]
    rw [Nat.div_div_eq_div_mul, show 16 * 16 ^ k = 16 ^ (k + 1) by rw [Nat.pow_succ, Nat.mul_comm]]
    rfl
theorem hexN_zero : ∀ (k : Nat), hexN k 0 = List.replicate k 48
  | 0 => rfl
  | k + 1 => by rw [hexN, hexN_zero k, List.replicate_succ']; rfl
theorem hexN_pad : ∀ (k L n : Nat), n < 16 ^ L → List.replicate k 48 ++ hexN L n = hexN (k + L) n
  | 0, L, n, h => by simp
  | k + 1, L, n, h => by
    have e : k + 1 + L = (k + L) + 1 := by omega
    rw [e, hexN_head (k + L) n, List.replicate_succ, List.cons_append, hexN_pad k L n h]
    congr 1
    rw [Nat.div_eq_of_lt (Nat.lt_of_lt_of_le h (Nat.pow_le_pow_right (by decide) (by omega)))]
    rfl
theorem hexN_get {k n t : Nat} (h : t < k) : (hexN k n)[t]'(by rw [hexN_len]; exact h) = hexd (n / 16 ^ (k - 1 - t) % 16) := by
  induction k generalizing t with
  | zero => omega
  | succ k ih =>
    simp only [hexN_head k n]
    cases t with
    | zero => simp
    | succ t =>
      rw [List.getElem_cons_succ, ih (by omega)]
      rw [show k + 1 - 1 - (t + 1) = k - 1 - t by omega]
theorem hexd_lt (d : Nat) (h : d < 16) : ((hexd d).toNat : Int) < 256 := by
  have := (hexd d).toNat_lt; omega

/-- One digit read; none if it is none. -/
def hexVal (c : UInt8) : Option Nat := if 48 ≤ c.toNat ∧ c.toNat ≤ 57 then some (c.toNat - 48) else if 97 ≤ c.toNat ∧ c.toNat ≤ 102 then some (c.toNat - 87) else none
theorem hexVal_hexd : ∀ d : Nat, d < 16 → hexVal (hexd d) = some d := by decide
theorem hexVal_some {c : UInt8} {d : Nat} (h : hexVal c = some d) : d < 16 ∧ hexd d = c := by
  unfold hexVal at h
  split at h
  · rename_i hc
    injection h with h
    refine ⟨by omega, UInt8.toNat_inj.1 ?_⟩
    unfold hexd
    rw [if_pos (by omega), UInt8.toNat_ofNat']
    omega
  · split at h
    · rename_i hc
      injection h with h
      refine ⟨by omega, UInt8.toNat_inj.1 ?_⟩
      unfold hexd
      rw [if_neg (by omega), UInt8.toNat_ofNat']
      omega
    · cases h
/-- What digits spell behind n. -/
def hexRead (n : Nat) : List UInt8 → Option Nat
  | [] => some n
  | c :: r => match hexVal c with
    | some d => hexRead (16 * n + d) r
    | none => none
theorem hexRead_hexN : ∀ (k n a : Nat) (r : List UInt8), hexRead a (hexN k n ++ r) = hexRead (a * 16 ^ k + n % 16 ^ k) r
  | 0, n, a, r => by simp [hexN, Nat.mod_one]
  | k + 1, n, a, r => by
    rw [hexN, List.append_assoc, hexRead_hexN k (n / 16) a]
    simp only [List.cons_append, List.nil_append, hexRead]
    rw [hexVal_hexd _ (Nat.mod_lt _ (by decide))]
    simp only
    congr 1
    have h := Nat.mod_mul (x := n) (a := 16) (b := 16 ^ k)
    rw [Nat.pow_succ, Nat.mul_comm (16 ^ k) 16, h, Nat.mul_add, ← Nat.mul_assoc, Nat.mul_comm 16 a, Nat.mul_assoc]
    omega
theorem hexRead_all (k n : Nat) (h : n < 16 ^ k) : hexRead 0 (hexN k n) = some n := by
  have := hexRead_hexN k n 0 []
  rw [List.append_nil] at this
  rw [this, Nat.mod_eq_of_lt h]
  simp [hexRead]
theorem hexRead_back : ∀ (l : List UInt8) (a n : Nat), hexRead a l = some n → n / 16 ^ l.length = a ∧ hexN l.length n = l
  | [], a, n, h => by simp [hexRead] at h; subst h; simp [hexN]
  | c :: r, a, n, h => by
    simp only [hexRead] at h
    cases hv : hexVal c with
    | none => rw [hv] at h; cases h
    | some d =>
      rw [hv] at h
      simp only at h
      obtain ⟨h1, h2⟩ := hexRead_back r (16 * a + d) n h
      obtain ⟨h3, h4⟩ := hexVal_some hv
      rw [List.length_cons]
      refine ⟨?_, ?_⟩
      · rw [Nat.pow_succ, ← Nat.div_div_eq_div_mul, h1]; omega
      · rw [hexN_head, h1, h2, show (16 * a + d) % 16 = d by omega, h4]
theorem hexRead_eight {l : List UInt8} {n : Nat} (hl : l.length = 8) (h : hexRead 0 l = some n) : n < 4294967296 ∧ hexN 8 n = l := by
  obtain ⟨h1, h2⟩ := hexRead_back l 0 n h
  rw [hl] at h1 h2
  refine ⟨?_, h2⟩
  have := (Nat.div_eq_zero_iff).1 h1
  rcases this with h3 | h3
  · simp at h3
  · exact h3
end Go.Proofs.YtcjkcoibeieeeaaGreatDoor
