/-
  The reading of lists of numbers: the walk in the model. No theorem of a claim stands here.
-/
import Derived.Test.YtcjkcoibeieeeaaGreatDoorReadF
set_option linter.unusedVariables false
namespace Go.Proofs.YtcjkcoibeieeeaaGreatDoor
open Go Go.RowKit Go.Deep Go.Proofs.YtcjkcoibeieeeaaGreatDoor.Fl

theorem infoF32 : (Tryz.prog.info? 24).map (fun i => (i.zero, i.size, i.bytes)) = some (some (.float .f32 0), 1, 4) := by kernel_rfl
theorem hexVal_dig {c : UInt8} (h0 : 48 ≤ c.toNat) (h1 : c.toNat ≤ 57) : hexVal c = some (c.toNat - 48) := if_pos ⟨h0, h1⟩
theorem hexVal_let {c : UInt8} (h0 : 97 ≤ c.toNat) (h1 : c.toNat ≤ 102) : hexVal c = some (c.toNat - 87) := by
  unfold hexVal
  rw [if_neg (by omega), if_pos ⟨h0, h1⟩]
theorem hexVal_no {c : UInt8} (h0 : ¬ (48 ≤ c.toNat ∧ c.toNat ≤ 57)) (h1 : ¬ (97 ≤ c.toNat ∧ c.toNat ≤ 102)) : hexVal c = none := by
  unfold hexVal
  rw [if_neg h0, if_neg h1]
theorem hexRead_cons {n : Nat} {c : UInt8} {r : List UInt8} {d : Nat} (h : hexVal c = some d) : hexRead n (c :: r) = hexRead (16 * n + d) r := by
  rw [hexRead, h]
theorem hexRead_stop {n : Nat} {c : UInt8} {r : List UInt8} (h : hexVal c = none) : hexRead n (c :: r) = none := by
  rw [hexRead, h]
theorem pow_small {m j : Nat} (h : m < 16 ^ j) (hj : j ≤ 7) : m < 268435456 := by
  have h2 : (16 : Nat) ^ j ≤ 16 ^ 7 := Nat.pow_le_pow_right (by decide) hj
  have e : (16 : Nat) ^ 7 = 268435456 := by decide
  omega
theorem pow_step {m j d : Nat} (h : m < 16 ^ j) (hd : d < 16) : 16 * m + d < 16 ^ (j + 1) := by
  rw [Nat.pow_succ]; omega

end Go.Proofs.YtcjkcoibeieeeaaGreatDoor
