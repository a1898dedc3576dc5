/-
  Lists of numbers that are drawn. No theorem of a claim stands here.
-/
import Derived.Test.YtcjkcoibeieeeaaGreatDoorDrawF
import Derived.Test.YtcjkcoibeieeeaaGreatDoorReadS
set_option linter.unusedVariables false
set_option maxRecDepth 8000
namespace Go.Proofs.YtcjkcoibeieeeaaGreatDoor
open Go Go.RowKit Go.Deep Go.Proofs.YtcjkcoibeieeeaaGreatDoor.Fl

theorem below_src {w w' : World} {p : Nat} (hg : w.grownBy w' (some p)) (hp : p ≤ w.heap.size) : Below p w w' := (Below.refl p w).grown hg hp (fun k e => by cases e; exact Nat.le_refl _)
theorem OwnF.src {base : Nat} {w w' : World} {g c p n : Nat} {l : List Nat} (h : w.ownsRow base 24 1 (.slice (some ⟨g, 0, none⟩) n c) n (fvals l)) (hg : w.grownBy w' (some p)) (hne : g ≠ p) : w'.ownsRow base 24 1 (.slice (some ⟨g, 0, none⟩) n c) n (fvals l) :=
  h.kept hg (.inr fun e => hne (Option.some.inj e))

set_option maxHeartbeats 4000000 in
theorem drawFloats_any (w : World) (p : Nat) (a : Option Addr) (len cap i : Nat) (hs : Src w p a len cap i) (hi : i ≤ 100) (n : Nat) (hn : n ≤ 64) :
    Calls Tryz.prog 47 #[.pointer (some ⟨p, 0, none⟩), .int .i64 n] w fun e w' => ∃ (l : List Nat) (g c : Nat), e = .returned (.slice (some ⟨g, 0, none⟩) l.length c) ∧ l.length = n ∧ (∀ x ∈ l, x < 2 ^ 32) ∧ g < w'.heap.size ∧ OwnF w.heap.size w' (some ⟨g, 0, none⟩) c l ∧ Below p w w' := by
  obtain ⟨i0, hz, hz0, hz1, hz2⟩ := info_parts infoF32
  have hp := hs.lt
  have S0 := Lib.hid (hs.allocd (.cells #[] 24))
  clear hs
  go_enter Tryz.func47, Tryz.ntmps47
  go_wp2_with (go_at_call 39; refine (one_any _ p a len cap _ S0.out (by omega) 4 (by omega) (by omega)).mono ?_; rintro e1 w1 ⟨v1, j1, rfl, hj1, gs1, hg1⟩)
  have Ho1 : Hid (w1.ownsRow w.heap.size 24 1 (.slice (some ⟨w.heap.size, 0, none⟩) 0 0) 0 (fvals [])) := Lib.hid (OwnF.src (p := p) ⟨rfl, .inr ⟨w.heap.size, 0, #[], rfl, Nat.le_refl _, by show (w.heap.push _)[w.heap.size]? = _; simp, Nat.le_refl _, by simp [maxLen], rfl, rfl⟩⟩ hg1 (by omega))
  have Hb1 := Lib.hid (((Below.refl p w).alloc (Nat.le_of_lt hp) (.cells #[] 24)).trans (below_src hg1 (by simp; omega)))
  have S1 := Lib.hid gs1
  have hsz : w.heap.size < w1.heap.size := by have := hg1.size; simp at this; omega
  clear gs1 hg1 S0
  go_loopw [1, 5] (fun N O wr => ∃ (k : Nat) (l : List Nat) (g c j : Nat), N = .int .i64 ((n : Int) - k) ∧ O = .slice (some ⟨g, 0, none⟩) k c ∧ l.length = k ∧ k ≤ n ∧ j ≤ j1 + 10 * k ∧ Hid (∀ x ∈ l, x < 2 ^ 32) ∧ w.heap.size ≤ g ∧ g < wr.heap.size ∧
    Hid (wr.ownsRow w.heap.size 24 1 (.slice (some ⟨g, 0, none⟩) k c) k (fvals l)) ∧ Hid (Src wr p a len cap j) ∧ Hid (Below p w wr)) (fun N _ _ => (intOf N).toNat)
  case atStart => exact ⟨0, [], w.heap.size, 0, j1, by simp, rfl, rfl, Nat.zero_le _, by omega, Lib.hid (fun x hx => by cases hx), Nat.le_refl _, hsz, Ho1, S1, Hb1⟩
  case round =>
    obtain ⟨k, l, g, c, j, rfl, rfl, hl, hk, hj, Hl, hg0, hgs, Ho, Hs, Hw⟩ := hrel
    by_cases hlt : k < n
    · have d1 : decide ((0 : Int) < (n : Int) - (k : Int)) = true := by simp; omega
      have hwsz := Hw.out.size
      cases v1
      · go_wp2_with (first | (go_at_call 76; refine (plain_any _ p a len cap _ Hs.out (by omega)).mono ?_; rintro e2 w2 ⟨r, j2, rfl, hr, hj2, gs2, hg2⟩; have Hb2 := Lib.hid (Hw.out.trans (below_src hg2 (by omega))); have Ho2 := Lib.hid (OwnF.src Ho.out hg2 (by omega)); have S2 := Lib.hid gs2; have hsz2 := hg2.size; clear hg2 gs2) | (at_builtin; refine wpList_append_own _ rfl (.tmp 20) (.tmp 23) 30 rfl w.heap.size 24 i0 (.float .f32 0) 1 4 Tryz.underlying30 hz hz0 hz1 hz2 rfl (by decide) (.slice (some ⟨g, 0, none⟩) k c) k _ rfl (Ho2.out.alloc _) ⟨w2.heap.size, 0, none⟩ 1 1 [.float .f32 r] rfl (by simp) (cell_newrowB _ _ _) (f_one _) (by unfold maxLen; omega) (by omega) (by simp; omega) ?_; intro v' w3 hown' hgrow3 hnil3; obtain ⟨g', c', rfl, hg0', hgs', hc'⟩ := form_own hown'; have Hb3 := Lib.hid ((Hb2.out.alloc (by omega) _).grown hgrow3 (by simp; omega) (by intro x hx; simp [Value.ownBlock] at hx; omega)); have S3 := Lib.hid ((S2.out.allocd _).keep hgrow3 (by intro x hx; simp [Value.ownBlock] at hx; omega)); have Ho3 := Lib.hid hown'; clear hown' hgrow3 hnil3))
        go_roundw
        case rel => exact ⟨k + 1, l ++ [r], g', c', j2, by go_num, rfl, by simp [hl], hlt, by omega, Lib.hid (fun x hx => by rcases List.mem_append.1 hx with h | h; exact Hl.out x h; simp at h; subst h; exact hr), hg0', hgs', Lib.hid (by rw [fvals_snoc]; exact Ho3.out), S3, Hb3⟩
        case measure => simp [intOf]; omega
      · go_wp2_with (first | (go_at_call 42; refine (drawFloat_any _ p a len cap _ Hs.out (by omega)).mono ?_; rintro e2 w2 ⟨r, j2, rfl, hr, hj2, gs2, hg2⟩; have Hb2 := Lib.hid (Hw.out.trans (below_src hg2 (by omega))); have Ho2 := Lib.hid (OwnF.src Ho.out hg2 (by omega)); have S2 := Lib.hid gs2; have hsz2 := hg2.size; clear hg2 gs2) | (at_builtin; refine wpList_append_own _ rfl (.tmp 15) (.tmp 18) 30 rfl w.heap.size 24 i0 (.float .f32 0) 1 4 Tryz.underlying30 hz hz0 hz1 hz2 rfl (by decide) (.slice (some ⟨g, 0, none⟩) k c) k _ rfl (Ho2.out.alloc _) ⟨w2.heap.size, 0, none⟩ 1 1 [.float .f32 r] rfl (by simp) (cell_newrowB _ _ _) (f_one _) (by unfold maxLen; omega) (by omega) (by simp; omega) ?_; intro v' w3 hown' hgrow3 hnil3; obtain ⟨g', c', rfl, hg0', hgs', hc'⟩ := form_own hown'; have Hb3 := Lib.hid ((Hb2.out.alloc (by omega) _).grown hgrow3 (by simp; omega) (by intro x hx; simp [Value.ownBlock] at hx; omega)); have S3 := Lib.hid ((S2.out.allocd _).keep hgrow3 (by intro x hx; simp [Value.ownBlock] at hx; omega)); have Ho3 := Lib.hid hown'; clear hown' hgrow3 hnil3))
        go_roundw
        case rel => exact ⟨k + 1, l ++ [r], g', c', j2, by go_num, rfl, by simp [hl], hlt, by omega, Lib.hid (fun x hx => by rcases List.mem_append.1 hx with h | h; exact Hl.out x h; simp at h; subst h; exact hr), hg0', hgs', Lib.hid (by rw [fvals_snoc]; exact Ho3.out), S3, Hb3⟩
        case measure => simp [intOf]; omega
    · obtain rfl : k = n := by omega
      have d1 : decide ((0 : Int) < (k : Int) - (k : Int)) = false := by simp
      go_wp2
      go_ret
      subst hl
      exact ⟨l, g, c, rfl, rfl, Hl.out, hgs, Ho.out, Hw.out⟩
end Go.Proofs.YtcjkcoibeieeeaaGreatDoor
