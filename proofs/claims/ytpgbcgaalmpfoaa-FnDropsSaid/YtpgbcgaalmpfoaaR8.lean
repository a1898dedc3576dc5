/-
  The small parts of the laws on trees: lengths, a number that an input chooses, a number that is in a list. No theorem of a claim stands here.
-/
import Derived.Test.YtpgbcgaalmpfoaaSrc
import Derived.Test.YtpgbcgaalmpfoaaInts
set_option linter.unusedVariables false
set_option maxRecDepth 8000
namespace Go.Proofs.Ytpgbcgaalmpfoaa
open Go Go.RowKit Go.Deep

theorem r8Long_any (a b : Option Addr) (la ca lb cb : Nat) (w : World) : Calls Try.prog 36 #[.slice a la ca, .slice b lb cb] w fun e w' => e = .returned (.bool (decide (48 < la ∨ 48 < lb))) ∧ w' = w := by
  by_cases c1 : 48 < la
  · have d1 : decide ((48 : Int) < (la : Int)) = true := by simp; omega
    have e1 : decide (48 < la ∨ 48 < lb) = true := by simp; omega
    rw [e1]
    go_enter Try.func36, Try.ntmps36
    go_wp2
    go_ret
    exact ⟨rfl, rfl⟩
  · have d1 : decide ((48 : Int) < (la : Int)) = false := by simp; omega
    by_cases c2 : 48 < lb
    · have d2 : decide ((48 : Int) < (lb : Int)) = true := by simp; omega
      have e1 : decide (48 < la ∨ 48 < lb) = true := by simp; omega
      rw [e1]
      go_enter Try.func36, Try.ntmps36
      go_wp2
      go_ret
      exact ⟨rfl, rfl⟩
    · have d2 : decide ((48 : Int) < (lb : Int)) = false := by simp; omega
      have e1 : decide (48 < la ∨ 48 < lb) = false := by simp; omega
      rw [e1]
      go_enter Try.func36, Try.ntmps36
      go_wp2
      go_ret
      exact ⟨rfl, rfl⟩

theorem r8At_any (p : Nat) (a : Option Addr) (len cap k : Nat) (n : Int) (w : World) (hb : BRd p w a len cap) (hn : 1 ≤ n) (hk : k ≤ 1000000) :
    Calls Try.prog 39 #[.slice a len cap, .int .i64 k, .int .i64 n] w fun e w' => ∃ v : Int, e = .returned (.int .i64 v) ∧ 0 ≤ v ∧ v < n ∧ w' = w := by
  by_cases h1 : n ≤ 1
  · have d1 : decide (n ≤ 1) = true := by simp; omega
    go_enter Try.func39, Try.ntmps39
    go_wp2
    go_ret
    exact ⟨0, rfl, by omega, by omega, rfl⟩
  · have d1 : decide (n ≤ 1) = false := by simp; omega
    by_cases h2 : len ≤ k
    · have d2 : decide ((len : Int) ≤ (k : Int)) = true := by simp; omega
      go_enter Try.func39, Try.ntmps39
      go_wp2
      go_ret
      exact ⟨0, rfl, by omega, by omega, rfl⟩
    · have d2 : decide ((len : Int) ≤ (k : Int)) = false := by simp; omega
      obtain ⟨b, o, v, rfl, hbp, hv0, hv1, hc⟩ := hb.2.2.2 k (by omega)
      have hcap := hb.1
      go_enter Try.func39, Try.ntmps39
      go_wp2
      go_ret
      exact ⟨_, rfl, Int.emod_nonneg _ (by omega), Int.emod_lt_of_pos _ (by omega), rfl⟩

theorem r8In_any (w : World) (a : Option Addr) (len cap : Nat) (l : List Int) (n : Int) (ha : IRd w a len cap l) (hl : len ≤ 1048576) :
    Calls Try.prog 41 #[.slice a len cap, .int .i64 n] w fun e w' => e = .returned (.bool (decide (n ∈ l))) ∧ w' = w := by
  have Ha := Lib.hid ha
  clear ha
  go_enter Try.func41, Try.ntmps41
  go_wp2
  go_loop [5] (fun i => ∃ k : Nat, k ≤ len ∧ i = .int .i64 k ∧ Hid (∀ j, j < k → l.getD j 0 ≠ n)) (fun i => len - (intOf i).toNat)
  case atStart => exact ⟨0, Nat.zero_le _, rfl, Lib.hid (fun j hj => absurd hj (Nat.not_lt_zero _))⟩
  case round =>
    obtain ⟨k, hk, rfl, Hk⟩ := hrel
    by_cases hlt : k < len
    · obtain ⟨b, o, rfl, hc, hbs⟩ := Ha.out.2.2.2.1 k hlt
      have hcap := Ha.out.2.1
      by_cases he : l.getD k 0 = n
      · have hin : n ∈ l := by
          have hl' : k < l.length := by rw [Ha.out.1]; exact hlt
          rw [← he]
          simp [List.getD, hl']
        rw [he] at hc
        go_wp2
        go_ret
        exact ⟨by first | rfl | rw [decide_eq_true hin], rfl⟩
      · have hne : (l.getD k 0 == n) = false := by rw [beq_eq_false_iff_ne]; exact he
        generalize hv : l.getD k 0 = v at hc hne he
        have Hk2 : Hid (∀ j, j < k + 1 → l.getD j 0 ≠ n) := Lib.hid (fun j hj => by
          by_cases e : j = k
          · subst e; rw [hv]; exact he
          · exact Hk.out j (by omega))
        clear hv
        go_wp2
        go_round
        case rel => exact ⟨k + 1, by omega, by go_num, Hk2⟩
        case measure => simp [intOf]; omega
    · obtain rfl : k = len := by omega
      have hin : ¬ n ∈ l := by
        intro h
        obtain ⟨j, hj, e⟩ := List.getElem_of_mem h
        have := Hk.out j (by rw [← Ha.out.1]; exact hj)
        simp [List.getD, hj, e] at this
      go_wp2
      go_ret
      exact ⟨by first | rfl | rw [decide_eq_false hin], rfl⟩
end Go.Proofs.Ytpgbcgaalmpfoaa
