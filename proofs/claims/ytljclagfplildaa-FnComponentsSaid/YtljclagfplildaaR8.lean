/-
  The small parts of the laws on trees: lengths, a number that an input chooses, a number that is in a list. No theorem of a claim stands here.
-/
import Derived.Test.YtljclagfplildaaSrc
import Derived.Test.YtljclagfplildaaInts
set_option linter.unusedVariables false
set_option maxRecDepth 8000
namespace Go.Proofs.Ytljclagfplildaa
open Go Go.RowKit Go.Deep

theorem r8Long_any (a b : Option Addr) (la ca lb cb : Nat) (w : World) : Calls Try.prog 43 #[.slice a la ca, .slice b lb cb] w fun e w' => e = .returned (.bool (decide (48 < la ∨ 48 < lb))) ∧ w' = w := by
  by_cases c1 : 48 < la
  · have d1 : decide ((48 : Int) < (la : Int)) = true := by simp; omega
    have e1 : decide (48 < la ∨ 48 < lb) = true := by simp; omega
    rw [e1]
    go_enter Try.func43, Try.ntmps43
    go_wp2
    go_ret
    exact ⟨rfl, rfl⟩
  · have d1 : decide ((48 : Int) < (la : Int)) = false := by simp; omega
    by_cases c2 : 48 < lb
    · have d2 : decide ((48 : Int) < (lb : Int)) = true := by simp; omega
      have e1 : decide (48 < la ∨ 48 < lb) = true := by simp; omega
      rw [e1]
      go_enter Try.func43, Try.ntmps43
      go_wp2
      go_ret
      exact ⟨rfl, rfl⟩
    · have d2 : decide ((48 : Int) < (lb : Int)) = false := by simp; omega
      have e1 : decide (48 < la ∨ 48 < lb) = false := by simp; omega
      rw [e1]
      go_enter Try.func43, Try.ntmps43
      go_wp2
      go_ret
      exact ⟨rfl, rfl⟩

theorem r8At_any (p : Nat) (a : Option Addr) (len cap k : Nat) (n : Int) (w : World) (hb : BRd p w a len cap) (hn : 1 ≤ n) (hk : k ≤ 1000000) :
    Calls Try.prog 46 #[.slice a len cap, .int .i64 k, .int .i64 n] w fun e w' => ∃ v : Int, e = .returned (.int .i64 v) ∧ 0 ≤ v ∧ v < n ∧ w' = w := by
  by_cases h1 : n ≤ 1
  · have d1 : decide (n ≤ 1) = true := by simp; omega
    go_enter Try.func46, Try.ntmps46
    go_wp2
    go_ret
    exact ⟨0, rfl, by omega, by omega, rfl⟩
  · have d1 : decide (n ≤ 1) = false := by simp; omega
    by_cases h2 : len ≤ k
    · have d2 : decide ((len : Int) ≤ (k : Int)) = true := by simp; omega
      go_enter Try.func46, Try.ntmps46
      go_wp2
      go_ret
      exact ⟨0, rfl, by omega, by omega, rfl⟩
    · have d2 : decide ((len : Int) ≤ (k : Int)) = false := by simp; omega
      obtain ⟨b, o, v, rfl, hbp, hv0, hv1, hc⟩ := hb.2.2.2 k (by omega)
      have hcap := hb.1
      go_enter Try.func46, Try.ntmps46
      go_wp2
      go_ret
      exact ⟨_, rfl, Int.emod_nonneg _ (by omega), Int.emod_lt_of_pos _ (by omega), rfl⟩

end Go.Proofs.Ytljclagfplildaa
