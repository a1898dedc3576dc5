/-
  The greatest of a list of integers, in the program. No theorem of a claim stands here.
-/
import Derived.Test.YtkkkhfgpjicebaaKids
set_option linter.unusedVariables false
set_option linter.unusedSimpArgs false
set_option maxRecDepth 8000
namespace Go.Proofs.Ytkkkhfgpjicebaa
open Go Go.RowKit Go.Shelf Go.Deep Go.Proofs.Ytkkkhfgpjicebaa.Fl

set_option maxHeartbeats 2000000 in
theorem max_any (w : World) (a : Option Addr) (len cap : Nat) (l : List Int) (ha : IRd w a len cap l) (h1 : 1 ≤ len) (hl : len ≤ 1048576) :
    Calls Try.prog 97 #[.slice a len cap] w fun e w' => ∃ m, e = .returned (.int .i64 m) ∧ (∀ j, j < len → l.getD j 0 ≤ m) ∧ w' = w := by
  have Ha := Lib.hid ha
  clear ha
  have hcap := Ha.out.2.1
  obtain ⟨b, o, rfl, hc0, hbs⟩ := Ha.out.2.2.2.1 0 (by omega)
  rw [Nat.add_zero] at hc0
  go_enter Try.func97, Try.ntmps97
  go_wp2
  go_loop [3, 4] (fun M i => ∃ (k : Nat) (m : Int), 1 ≤ k ∧ k ≤ len ∧ i = .int .i64 k ∧ M = .int .i64 m ∧ Hid (∀ j, j < k → l.getD j 0 ≤ m)) (fun _ i => len - (intOf i).toNat)
  case atStart =>
    refine ⟨1, l.getD 0 0, Nat.le_refl _, h1, rfl, rfl, Lib.hid (fun j hj => ?_)⟩
    have e : j = 0 := by omega
    rw [e]
    exact Int.le_refl _
  case round =>
    obtain ⟨k, m, hk1, hk, rfl, rfl, Hk⟩ := hrel
    by_cases hlt : k < len
    · obtain ⟨b2, o2, e2, hc, _⟩ := Ha.out.2.2.2.1 k hlt
      simp at e2
      obtain ⟨rfl, rfl⟩ := e2
      have Hk2 : Hid (∀ j, j < k + 1 → l.getD j 0 ≤ (if m < l.getD k 0 then l.getD k 0 else m)) := Lib.hid (fun j hj => by
        rw [show (if m < l.getD k 0 then l.getD k 0 else m) = max m (l.getD k 0) by split <;> omega]
        by_cases e : j = k
        · subst e; omega
        · have := Hk.out j (by omega); omega)
      generalize l.getD k 0 = v at *
      go_wp2
      go_round
      case rel => exact ⟨k + 1, if m < v then v else m, by omega, by omega, by go_num, rfl, Hk2⟩
      case measure => simp [intOf]; omega
    · obtain rfl : k = len := by omega
      go_wp2
      go_ret
      exact ⟨m, rfl, Hk.out, rfl⟩
end Go.Proofs.Ytkkkhfgpjicebaa
