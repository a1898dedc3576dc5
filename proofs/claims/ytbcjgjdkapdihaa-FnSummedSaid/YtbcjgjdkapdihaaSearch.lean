/-
  A search in a list of ascending integers, in the program. No theorem of a claim stands here.
-/
import Derived.Test.YtbcjgjdkapdihaaKids
set_option linter.unusedVariables false
set_option linter.unusedSimpArgs false
set_option maxRecDepth 8000
namespace Go.Proofs.Ytbcjgjdkapdihaa
open Go Go.RowKit Go.Shelf Go.Deep Go.Proofs.Ytbcjgjdkapdihaa.Fl

theorem less_any (x y : Int) (w : World) : Calls Try.prog 206 #[.int .i64 x, .int .i64 y] w fun e w' => e = .returned (.bool (decide (x < y))) ∧ w' = w := by
  have hx : (x != x) = false := by simp
  go_enter Try.func206, Try.ntmps206
  go_wp2
  go_ret
  exact ⟨by simp, rfl⟩

set_option maxHeartbeats 2000000 in
theorem search_any (w : World) (a : Option Addr) (len cap : Nat) (l : List Int) (t : Int) (ha : IRd w a len cap l) (hl : len ≤ 1000) (hs : ∀ i j, i < j → j < len → l.getD i 0 < l.getD j 0) :
    Calls Try.prog 171 #[.slice a len cap, .int .i64 t] w fun e w' => ∃ p, e = .returned (.tuple #[p, .bool (decide (t ∈ l))]) ∧ w' = w := by
  have Ha := Lib.hid ha
  have HS := Lib.hid hs
  clear ha hs
  have hcap := Ha.out.2.1
  go_enter Try.func171, Try.ntmps171
  go_wp2
  go_loop [7, 8] (fun I J => ∃ i j : Nat, I = .int .i64 i ∧ J = .int .i64 j ∧ i ≤ j ∧ j ≤ len ∧ Hid (∀ x, x < i → l.getD x 0 < t) ∧ Hid (∀ x, j ≤ x → x < len → t ≤ l.getD x 0)) (fun I J => (intOf J).toNat - (intOf I).toNat)
  case atStart => exact ⟨0, len, rfl, rfl, Nat.zero_le _, Nat.le_refl _, Lib.hid (fun x h => absurd h (Nat.not_lt_zero _)), Lib.hid (fun x h h2 => absurd h2 (by omega))⟩
  case round =>
    obtain ⟨i, j, rfl, rfl, hij, hj, Hi, Hj⟩ := hrel
    by_cases hlt : i < j
    · obtain ⟨b2, o2, rfl, hc, _⟩ := Ha.out.2.2.2.1 ((i + j) / 2) (by omega)
      have hm : (i + j) / 2 < len := by omega
      by_cases hv : l.getD ((i + j) / 2) 0 < t
      · have Hi2 := Lib.hid (show ∀ x, x < (i + j) / 2 + 1 → l.getD x 0 < t from fun x hx => by
          by_cases e : x = (i + j) / 2
          · rw [e]; exact hv
          · have := HS.out x ((i + j) / 2) (by omega) hm; omega)
        generalize l.getD ((i + j) / 2) 0 = v at *
        have hls := fun w' => less_any v t w'
        go_wp2_with (go_at_call 206; refine (hls _).mono ?_; rintro e w3 ⟨rfl, rfl⟩)
        go_round
        case rel => exact ⟨(i + j) / 2 + 1, j, by go_num, rfl, by omega, by omega, Hi2, Hj⟩
        case measure => simp [intOf]; omega
      · have Hj2 := Lib.hid (show ∀ x, (i + j) / 2 ≤ x → x < len → t ≤ l.getD x 0 from fun x hx hx2 => by
          by_cases e : x = (i + j) / 2
          · rw [e]; omega
          · have := HS.out ((i + j) / 2) x (by omega) hx2; omega)
        generalize l.getD ((i + j) / 2) 0 = v at *
        have hls := fun w' => less_any v t w'
        go_wp2_with (go_at_call 206; refine (hls _).mono ?_; rintro e w3 ⟨rfl, rfl⟩)
        go_round
        case rel => exact ⟨i, (i + j) / 2, rfl, by go_num, by omega, by omega, Hi, Hj2⟩
        case measure => simp [intOf]; omega
    · obtain rfl : i = j := by omega
      have hmem : ∀ x, x < l.length → l[x]? = some (l.getD x 0) := fun x hx => by simp [List.getD, hx]
      by_cases hi2 : i < len
      · obtain ⟨b2, o2, rfl, hc, _⟩ := Ha.out.2.2.2.1 i hi2
        by_cases hv : l.getD i 0 = t
        · have hin : decide (t ∈ l) = true := decide_eq_true (by rw [← hv]; exact List.mem_of_getElem? (hmem i (by rw [Ha.out.1]; exact hi2)))
          rw [hv] at hc
          clear hmem
          go_wp2_with fail
          go_ret2
          exact ⟨⟨.int .i64 i, by first | (rw [hin]; done) | (rw [hin]; rfl) | simp [hin]⟩, rfl⟩
        · have hin : decide (t ∈ l) = false := decide_eq_false (fun h => by
            obtain ⟨x, hx, e⟩ := List.getElem_of_mem h
            have e2 : l.getD x 0 = t := by simp [List.getD, hx, e]
            rw [Ha.out.1] at hx
            by_cases h3 : x < i
            · have := Hi.out x h3; omega
            · by_cases h4 : x = i
              · subst h4; exact hv e2
              · have := HS.out i x (by omega) hx
                have := Hj.out i (Nat.le_refl _) hi2
                omega)
          have hvt : (l.getD i 0 == t) = false := by rw [beq_eq_false_iff_ne]; exact hv
          generalize l.getD i 0 = v at *
          clear hmem
          have hvv : (v != v) = false := by simp
          go_wp2
          go_ret2
          exact ⟨⟨.int .i64 i, by first | (rw [hin]; done) | (rw [hin]; rfl) | simp [hin]⟩, rfl⟩
      · have hin : decide (t ∈ l) = false := decide_eq_false (fun h => by
          obtain ⟨x, hx, e⟩ := List.getElem_of_mem h
          have e2 : l.getD x 0 = t := by simp [List.getD, hx, e]
          rw [Ha.out.1] at hx
          have := Hi.out x (by omega)
          omega)
        clear hmem
        go_wp2_with fail
        go_ret2
        exact ⟨⟨.int .i64 i, by first | (rw [hin]; done) | (rw [hin]; rfl) | simp [hin]⟩, rfl⟩
end Go.Proofs.Ytbcjgjdkapdihaa
