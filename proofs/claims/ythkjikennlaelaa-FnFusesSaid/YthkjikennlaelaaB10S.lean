/-
  The parts of the laws: lengths, a number that an input chooses; without lists that are drawn. No theorem of a claim stands here.
-/
import Derived.Test.YthkjikennlaelaaSrc
import Derived.Test.YthkjikennlaelaaSum
set_option linter.unusedVariables false
set_option maxRecDepth 8000
namespace Go.Proofs.Ythkjikennlaelaa
open Go Go.RowKit Go.Deep Go.Proofs.Ythkjikennlaelaa.Fl

theorem BRd.below {p : Nat} {w w' : World} {a : Option Addr} {len cap B : Nat} (h : BRd p w a len cap) (hb : Below B w w') (hB : p ≤ B) : BRd p w' a len cap := by
  obtain ⟨h1, h2, h3, h4⟩ := h
  refine ⟨h1, h2, h3, fun k hk => ?_⟩
  obtain ⟨b, o, v, e, hbp, hv0, hv1, hc⟩ := h4 k hk
  exact ⟨b, o, v, e, hbp, hv0, hv1, (hb.cell (show (⟨b, o + k, none⟩ : Addr).block < B from Nat.lt_of_lt_of_le hbp hB)).trans hc⟩
theorem BRd.up {p q : Nat} {w : World} {a : Option Addr} {len cap : Nat} (h : BRd p w a len cap) (hq : p ≤ q) : BRd q w a len cap := by
  obtain ⟨h1, h2, h3, h4⟩ := h
  refine ⟨h1, h2, h3, fun k hk => ?_⟩
  obtain ⟨b, o, v, e, hbp, hv⟩ := h4 k hk
  exact ⟨b, o, v, e, by omega, hv⟩
theorem gweak {w w' : World} (h : w.grownBy w' none) (r : Option Nat) : w.grownBy w' r := ⟨h.os, h.tape, h.output, h.size, fun k hk _ => h.block k hk (by simp)⟩

theorem b10Long_any (a b : Option Addr) (la ca lb cb : Nat) (w : World) : Calls Try.prog 14 #[.slice a la ca, .slice b lb cb] w fun e w' => e = .returned (.bool (decide (1048576 < la ∨ 1048576 < lb))) ∧ w' = w := by
  by_cases c1 : 1048576 < la
  · have d1 : decide ((1048576 : Int) < (la : Int)) = true := by simp; omega
    have e1 : decide (1048576 < la ∨ 1048576 < lb) = true := by simp; omega
    rw [e1]
    go_enter Try.func14, Try.ntmps14
    go_wp2
    go_ret
    exact ⟨rfl, rfl⟩
  · have d1 : decide ((1048576 : Int) < (la : Int)) = false := by simp; omega
    by_cases c2 : 1048576 < lb
    · have d2 : decide ((1048576 : Int) < (lb : Int)) = true := by simp; omega
      have e1 : decide (1048576 < la ∨ 1048576 < lb) = true := by simp; omega
      rw [e1]
      go_enter Try.func14, Try.ntmps14
      go_wp2
      go_ret
      exact ⟨rfl, rfl⟩
    · have d2 : decide ((1048576 : Int) < (lb : Int)) = false := by simp; omega
      have e1 : decide (1048576 < la ∨ 1048576 < lb) = false := by simp; omega
      rw [e1]
      go_enter Try.func14, Try.ntmps14
      go_wp2
      go_ret
      exact ⟨rfl, rfl⟩

theorem b10At_any (p : Nat) (a : Option Addr) (len cap k : Nat) (n : Int) (w : World) (hb : BRd p w a len cap) (hn : 1 ≤ n) (hk : k ≤ 1000) :
    Calls Try.prog 17 #[.slice a len cap, .int .i64 k, .int .i64 n] w fun e w' => ∃ v : Int, e = .returned (.int .i64 v) ∧ 0 ≤ v ∧ v < n ∧ w' = w := by
  by_cases h1 : n ≤ 1
  · have d1 : decide (n ≤ 1) = true := by simp; omega
    go_enter Try.func17, Try.ntmps17
    go_wp2
    go_ret
    exact ⟨0, rfl, by omega, by omega, rfl⟩
  · have d1 : decide (n ≤ 1) = false := by simp; omega
    by_cases h2 : k < len
    · have d2 : decide ((k : Int) < (len : Int)) = true := by simp; omega
      obtain ⟨b, o, v, rfl, hbp, hv0, hv1, hc⟩ := hb.2.2.2 k h2
      have hcap := hb.1
      go_enter Try.func17, Try.ntmps17
      go_wp2
      go_ret
      exact ⟨_, rfl, Int.emod_nonneg _ (by omega), Int.emod_lt_of_pos _ (by omega), rfl⟩
    · have d2 : decide ((k : Int) < (len : Int)) = false := by simp; omega
      go_enter Try.func17, Try.ntmps17
      go_wp2
      go_ret
      exact ⟨_, rfl, Int.emod_nonneg _ (by omega), Int.emod_lt_of_pos _ (by omega), rfl⟩

end Go.Proofs.Ythkjikennlaelaa
