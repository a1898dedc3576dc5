/-
  Complex numbers that are drawn: whole ones, any ones, lists of them. No theorem of a claim stands here.
-/
import Derived.Test.YtcjkcoibeieeeaaGreatDoorB10
import Derived.Test.YtcjkcoibeieeeaaGreatDoorOwnC
import Derived.Test.YtcjkcoibeieeeaaGreatDoorWhole
set_option linter.unusedVariables false
set_option linter.unusedSimpArgs false
set_option maxRecDepth 8000
namespace Go.Proofs.YtcjkcoibeieeeaaGreatDoor
open Go Go.RowKit Go.Deep Go.Proofs.YtcjkcoibeieeeaaGreatDoor.Fl

def DCx (p : Nat) (a : Option Addr) (len cap i c : Nat) (w : World) (e : Ending) (w' : World) : Prop :=
  ∃ (re im j : Nat), e = .returned (.complex .f32 re im) ∧ re < 2 ^ 32 ∧ im < 2 ^ 32 ∧ j ≤ i + c ∧ Src w' p a len cap j ∧ w.grownBy w' (some p)
theorem ownC_src {base : Nat} {w w' : World} {g c p n : Nat} {l : List (Nat × Nat)} (h : w.ownsRow base 42 1 (.slice (some ⟨g, 0, none⟩) n c) n (cvals l)) (hg : w.grownBy w' (some p)) (hne : g ≠ p) : w'.ownsRow base 42 1 (.slice (some ⟨g, 0, none⟩) n c) n (cvals l) :=
  h.kept hg (.inr fun e => hne (Option.some.inj e))
theorem ownC_drew {base : Nat} {w : World} {g c n : Nat} {l : List (Nat × Nat)} (h : w.ownsRow base 42 1 (.slice (some ⟨g, 0, none⟩) n c) n (cvals l)) (m : Nat) : (w.drewN m).ownsRow base 42 1 (.slice (some ⟨g, 0, none⟩) n c) n (cvals l) := h

theorem drawComplex_any (w : World) (p : Nat) (a : Option Addr) (len cap i : Nat) (hs : Src w p a len cap i) (hi : i ≤ 999980000) :
    Calls Tryz.prog 70 #[.pointer (some ⟨p, 0, none⟩)] w (DCx p a len cap i 24 w) := by
  have Hs := Lib.hid hs
  clear hs
  go_enter Tryz.func70, Tryz.ntmps70
  go_wp2_with fail
  refine (drawFloat_any _ p a len cap _ Hs.out (by omega)).mono ?_
  rintro e1 w1 ⟨r1, j1, rfl, hr1, hj1, gs1, hg1⟩
  have S1 := Lib.hid gs1
  have G1 := Lib.hid hg1
  clear gs1 hg1 Hs
  go_wp2_with fail
  refine (drawFloat_any _ p a len cap _ S1.out (by omega)).mono ?_
  rintro e2 w2 ⟨r2, j2, rfl, hr2, hj2, gs2, hg2⟩
  have S2 := Lib.hid gs2
  have G2 := Lib.hid (gtrans G1.out hg2)
  clear gs2 hg2 S1 G1
  go_wp2_with fail
  go_ret
  exact ⟨_, _, _, rfl, hr1, hr2, by omega, S2.out, G2.out⟩
theorem drawFine_any (w : World) (p : Nat) (a : Option Addr) (len cap i : Nat) (hs : Src w p a len cap i) (hi : i ≤ 999980000) :
    Calls Tryz.prog 71 #[.pointer (some ⟨p, 0, none⟩)] w (DCx p a len cap i 24 w) := by
  have Hs := Lib.hid hs
  clear hs
  have hq := fun x y (w : World) => run_fov (P := Tryz.prog) .quo rfl 24 .f32 x y w
  go_enter Tryz.func71, Tryz.ntmps71
  go_wp2_with fail
  refine (pick_any _ p a len cap _ Hs.out (by omega) 65 (by omega) (by omega)).mono ?_
  rintro e1 w1 ⟨v1, j1, rfl, hv10, hv11, hj1, gs1, hg1⟩
  have S1 := Lib.hid gs1
  have G1 := Lib.hid hg1
  clear gs1 hg1 Hs
  go_wp2_with fail
  refine (pick_any _ p a len cap _ (S1.out.drew _) (by omega) 65 (by omega) (by omega)).mono ?_
  rintro e2 w2 ⟨v2, j2, rfl, hv20, hv21, hj2, gs2, hg2⟩
  have S2 := Lib.hid gs2
  have G2 := Lib.hid (gtrans (gdr G1.out _) hg2)
  clear gs2 hg2 S1 G1
  go_wp2_with fail
  go_ret
  exact ⟨_, _, _, rfl, fov_lt _ _ _ _ _, fov_lt _ _ _ _ _, by omega, S2.out.drew _, gdr G2.out _⟩

set_option maxHeartbeats 4000000 in
theorem drawComplexes_any (w : World) (p : Nat) (a : Option Addr) (len cap i : Nat) (hs : Src w p a len cap i) (hi : i ≤ 100) (n : Nat) (hn : n ≤ 64) :
    Calls Tryz.prog 65 #[.pointer (some ⟨p, 0, none⟩), .int .i64 n] w fun e w' => ∃ (l : List (Nat × Nat)) (g c : Nat), e = .returned (.slice (some ⟨g, 0, none⟩) n c) ∧ l.length = n ∧ (∀ x ∈ l, x.1 < 2 ^ 32 ∧ x.2 < 2 ^ 32) ∧ g < w'.heap.size ∧ OwnC w.heap.size w' (some ⟨g, 0, none⟩) c l ∧ Below p w w' := by
  obtain ⟨i0, hz, hz0, hz1, hz2⟩ := info_parts infoC64
  have hp := hs.lt
  have S0 := Lib.hid (hs.allocd (.cells #[] 42))
  clear hs
  go_enter Tryz.func65, Tryz.ntmps65
  go_wp2_with (go_at_call 39; refine (one_any _ p a len cap _ S0.out (by omega) 5 (by omega) (by omega)).mono ?_; rintro e1 w1 ⟨v1, j1, rfl, hj1, gs1, hg1⟩)
  have Ho1 : Hid (w1.ownsRow w.heap.size 42 1 (.slice (some ⟨w.heap.size, 0, none⟩) 0 0) 0 (cvals [])) := Lib.hid (ownC_src (p := p) ⟨rfl, .inr ⟨w.heap.size, 0, #[], rfl, Nat.le_refl _, by show (w.heap.push _)[w.heap.size]? = _; simp, Nat.le_refl _, by simp [maxLen], rfl, rfl⟩⟩ hg1 (by omega))
  have Hb1 := Lib.hid (((Below.refl p w).alloc (Nat.le_of_lt hp) (.cells #[] 42)).trans (below_src hg1 (by simp; omega)))
  have S1 := Lib.hid gs1
  have hsz : w.heap.size < w1.heap.size := by have := hg1.size; simp at this; omega
  clear gs1 hg1 S0
  go_loopw [1, 5] (fun N O wr => ∃ (k : Nat) (l : List (Nat × Nat)) (g c j : Nat), N = .int .i64 ((n : Int) - k) ∧ O = .slice (some ⟨g, 0, none⟩) k c ∧ l.length = k ∧ k ≤ n ∧ j ≤ j1 + 24 * k ∧ Hid (∀ x ∈ l, x.1 < 2 ^ 32 ∧ x.2 < 2 ^ 32) ∧ w.heap.size ≤ g ∧ g < wr.heap.size ∧
    Hid (wr.ownsRow w.heap.size 42 1 (.slice (some ⟨g, 0, none⟩) k c) k (cvals l)) ∧ Hid (Src wr p a len cap j) ∧ Hid (Below p w wr)) (fun N _ _ => (intOf N).toNat)
  case atStart => exact ⟨0, [], w.heap.size, 0, j1, by simp, rfl, rfl, Nat.zero_le _, by omega, Lib.hid (fun x hx => by cases hx), Nat.le_refl _, hsz, Ho1, S1, Hb1⟩
  case round =>
    obtain ⟨k, l, g, c, j, rfl, rfl, hl, hk, hj, Hl, hg0, hgs, Ho, Hs, Hw⟩ := hrel
    by_cases hlt : k < n
    · have d1 : decide ((0 : Int) < (n : Int) - (k : Int)) = true := by simp; omega
      have hwsz := Hw.out.size
      cases v1
      · go_wp2_with (first | (go_at_call 71; refine (drawFine_any _ p a len cap _ Hs.out (by omega)).mono ?_; rintro e2 w2 ⟨re, im, j2, rfl, hre, him, hj2, gs2, hg2⟩; have Hb2 := Lib.hid (Hw.out.trans (below_src hg2 (by omega))); have Ho2 := Lib.hid (ownC_src Ho.out hg2 (by omega)); have S2 := Lib.hid gs2; have hsz2 := hg2.size; clear hg2 gs2) | (at_builtin; refine wpList_append_own _ rfl (.tmp 20) (.tmp 23) 45 rfl w.heap.size 42 i0 (.complex .f32 0 0) 1 8 Tryz.underlying45 hz hz0 hz1 hz2 rfl (by decide) (.slice (some ⟨g, 0, none⟩) k c) k _ rfl (Ho2.out.alloc _) ⟨w2.heap.size, 0, none⟩ 1 1 [.complex .f32 re im] rfl (by simp) (cell_newrowB _ _ _) (c_one (re, im)) (by unfold maxLen; omega) (by omega) (by simp; omega) ?_; intro v' w3 hown' hgrow3 hnil3; obtain ⟨g', c', rfl, hg0', hgs', hc'⟩ := form_own hown'; have Hb3 := Lib.hid ((Hb2.out.alloc (by omega) _).grown hgrow3 (by simp; omega) (by intro x hx; simp [Value.ownBlock] at hx; omega)); have S3 := Lib.hid ((S2.out.allocd _).keep hgrow3 (by intro x hx; simp [Value.ownBlock] at hx; omega)); have Ho3 := Lib.hid hown'; clear hown' hgrow3 hnil3))
        go_roundw
        case rel => exact ⟨k + 1, l ++ [(re, im)], g', c', j2, by go_num, rfl, by simp [hl], hlt, by omega, Lib.hid (fun x hx => by rcases List.mem_append.1 hx with h | h; exact Hl.out x h; simp at h; subst h; exact ⟨hre, him⟩), hg0', hgs', Lib.hid (by rw [cvals_snoc]; exact Ho3.out), S3, Hb3⟩
        case measure => simp [intOf]; omega
      · go_wp2_with (first | (go_at_call 70; refine (drawComplex_any _ p a len cap _ Hs.out (by omega)).mono ?_; rintro e2 w2 ⟨re, im, j2, rfl, hre, him, hj2, gs2, hg2⟩; have Hb2 := Lib.hid (Hw.out.trans (below_src hg2 (by omega))); have Ho2 := Lib.hid (ownC_src Ho.out hg2 (by omega)); have S2 := Lib.hid gs2; have hsz2 := hg2.size; clear hg2 gs2) | (at_builtin; refine wpList_append_own _ rfl (.tmp 15) (.tmp 18) 45 rfl w.heap.size 42 i0 (.complex .f32 0 0) 1 8 Tryz.underlying45 hz hz0 hz1 hz2 rfl (by decide) (.slice (some ⟨g, 0, none⟩) k c) k _ rfl (Ho2.out.alloc _) ⟨w2.heap.size, 0, none⟩ 1 1 [.complex .f32 re im] rfl (by simp) (cell_newrowB _ _ _) (c_one (re, im)) (by unfold maxLen; omega) (by omega) (by simp; omega) ?_; intro v' w3 hown' hgrow3 hnil3; obtain ⟨g', c', rfl, hg0', hgs', hc'⟩ := form_own hown'; have Hb3 := Lib.hid ((Hb2.out.alloc (by omega) _).grown hgrow3 (by simp; omega) (by intro x hx; simp [Value.ownBlock] at hx; omega)); have S3 := Lib.hid ((S2.out.allocd _).keep hgrow3 (by intro x hx; simp [Value.ownBlock] at hx; omega)); have Ho3 := Lib.hid hown'; clear hown' hgrow3 hnil3))
        go_roundw
        case rel => exact ⟨k + 1, l ++ [(re, im)], g', c', j2, by go_num, rfl, by simp [hl], hlt, by omega, Lib.hid (fun x hx => by rcases List.mem_append.1 hx with h | h; exact Hl.out x h; simp at h; subst h; exact ⟨hre, him⟩), hg0', hgs', Lib.hid (by rw [cvals_snoc]; exact Ho3.out), S3, Hb3⟩
        case measure => simp [intOf]; omega
    · obtain rfl : k = n := by omega
      have d1 : decide ((0 : Int) < (k : Int) - (k : Int)) = false := by simp
      go_wp2
      go_ret
      exact ⟨l, g, c, rfl, hl, Hl.out, hgs, by unfold OwnC; rw [hl]; exact Ho.out, Hw.out⟩

set_option maxHeartbeats 4000000 in
theorem b10Any_any (w : World) (a : Option Addr) (len cap n : Nat) (hb : BRd w.heap.size w a len cap) (hn : n ≤ 64) :
    Calls Tryz.prog 29 #[.slice a len cap, .int .i64 n] w fun e w' => ∃ (l : List (Nat × Nat)) (x : Option Addr) (c : Nat), e = .returned (.slice x n c) ∧ l.length = n ∧ (∀ x ∈ l, x.1 < 2 ^ 32 ∧ x.2 < 2 ^ 32) ∧ CRd w' x n c l ∧ Below w.heap.size w w' := by
  go_enter Tryz.func29, Tryz.ntmps29
  go_wp2_with (first | (go_at_call 38; refine (from_any _ a len cap hb).mono ?_; rintro e0 w0 ⟨rfl, gs1, hg1⟩; have Hs := Lib.hid gs1; have Hg := Lib.hid (gweak hg1 (some w.heap.size)); clear gs1 hg1) | (go_at_call 65; refine (drawComplexes_any _ w.heap.size a len cap _ Hs.out (by omega) n hn).mono ?_; rintro e2 w2 ⟨l, g, c, rfl, hl, hin, hgs, ho, hb2⟩; have Hb := Lib.hid ((below_src Hg.out (Nat.le_refl _)).trans hb2); have Ho := Lib.hid (ho.reads); have Hin := Lib.hid hin; have Hl := Lib.hid hl; clear ho hb2 hin hl))
  go_ret
  exact ⟨l, _, c, rfl, Hl.out, Hin.out, by have h := Ho.out; rwa [Hl.out] at h, Hb.out⟩
set_option maxHeartbeats 4000000 in
theorem b10Complex_any (w : World) (a : Option Addr) (len cap : Nat) (hb : BRd w.heap.size w a len cap) :
    Calls Tryz.prog 32 #[.slice a len cap] w fun e w' => ∃ re im : Nat, e = .returned (.complex .f32 re im) ∧ re < 2 ^ 32 ∧ im < 2 ^ 32 ∧ Below w.heap.size w w' := by
  go_enter Tryz.func32, Tryz.ntmps32
  go_wp2_with (first | (go_at_call 38; refine (from_any _ a len cap hb).mono ?_; rintro e0 w0 ⟨rfl, gs1, hg1⟩; have Hs := Lib.hid gs1; have Hg := Lib.hid (gweak hg1 (some w.heap.size)); clear gs1 hg1) | (go_at_call 39; refine (one_any _ w.heap.size a len cap _ Hs.out (by omega) 4 (by omega) (by omega)).mono ?_; rintro e1 w1 ⟨v1, j1, rfl, hj1, gs1, hg1⟩; have Hg1 := Lib.hid (gtrans Hg.out hg1); clear Hs Hg hg1; have Hs := Lib.hid gs1; have Hg := Lib.hid Hg1.out; clear gs1 Hg1; cases v1) | (go_at_call 70; refine (drawComplex_any _ w.heap.size a len cap _ Hs.out (by omega)).mono ?_; rintro e2 w2 ⟨re, im, j, rfl, hre, him, hj, gs1, hg1⟩; have Hg1 := Lib.hid (gtrans Hg.out hg1); clear Hs Hg hg1; have Hg := Lib.hid Hg1.out; clear gs1 Hg1) | (go_at_call 71; refine (drawFine_any _ w.heap.size a len cap _ Hs.out (by omega)).mono ?_; rintro e2 w2 ⟨re, im, j, rfl, hre, him, hj, gs1, hg1⟩; have Hg1 := Lib.hid (gtrans Hg.out hg1); clear Hs Hg hg1; have Hg := Lib.hid Hg1.out; clear gs1 Hg1))
  all_goals go_ret
  all_goals exact ⟨_, _, rfl, hre, him, below_src Hg.out (Nat.le_refl _)⟩

/-- A list of complex numbers whose parts are whole numbers, at most m in magnitude. -/
def Whole (m : Nat) (l : List (Nat × Nat)) : Prop := ∀ x ∈ l, ∃ A B : Int, Wh .f32 x.1 A ∧ Wh .f32 x.2 B ∧ A.natAbs ≤ m ∧ B.natAbs ≤ m ∧ x.1 < 2 ^ 32 ∧ x.2 < 2 ^ 32
theorem ofInt_lt (n : Int) : floatOfInt .f32 n < 2 ^ 32 := Ieee.Format.nearest_lt _ _ _ _

set_option maxHeartbeats 4000000 in
theorem b10Whole_any (w : World) (a : Option Addr) (len cap n m : Nat) (hb : BRd w.heap.size w a len cap) (hn : n ≤ 100) (hm : m ≤ 1000) :
    Calls Tryz.prog 21 #[.slice a len cap, .int .i64 n, .int .i64 m] w fun e w' => ∃ (l : List (Nat × Nat)) (g c : Nat), e = .returned (.slice (some ⟨g, 0, none⟩) n c) ∧ l.length = n ∧ Whole m l ∧ CRd w' (some ⟨g, 0, none⟩) n c l ∧ w.heap.size ≤ g ∧ Below w.heap.size w w' := by
  obtain ⟨i0, hz, hz0, hz1, hz2⟩ := info_parts infoC64
  go_enter Tryz.func21, Tryz.ntmps21
  go_wp2_with fail
  refine (from_any _ a len cap hb).mono ?_
  rintro e0 w0 ⟨rfl, gs0, hg0⟩
  have hsz0 := gs0.lt
  have S1 := Lib.hid (gs0.allocd (.cells #[] 42))
  have Hb1 := Lib.hid ((below_src (gweak hg0 (some w.heap.size)) (Nat.le_refl _)).alloc (Nat.le_of_lt hsz0) (.cells #[] 42))
  have Ho1 : Hid ((w0.alloc (.cells #[] 42)).ownsRow w0.heap.size 42 1 (.slice (some ⟨w0.heap.size, 0, none⟩) 0 0) 0 (cvals [])) := Lib.hid (World.ownsRow_lit w0 #[] 0 (Nat.le_refl _) (by simp [maxLen]) rfl)
  clear gs0 hg0 hb
  go_wp2_with fail
  go_loopw [1, 8] (fun N O wr => ∃ (k : Nat) (l : List (Nat × Nat)) (g c j : Nat), N = .int .i64 ((n : Int) - k) ∧ O = .slice (some ⟨g, 0, none⟩) k c ∧ l.length = k ∧ k ≤ n ∧ j ≤ 10 * k ∧ Hid (Whole m l) ∧ w0.heap.size ≤ g ∧ g < wr.heap.size ∧
    Hid (wr.ownsRow w0.heap.size 42 1 (.slice (some ⟨g, 0, none⟩) k c) k (cvals l)) ∧ Hid (Src wr w.heap.size a len cap j) ∧ Hid (Below w.heap.size w wr)) (fun N _ _ => (intOf N).toNat)
  case atStart => exact ⟨0, [], w0.heap.size, 0, 0, by simp, rfl, rfl, Nat.zero_le _, by omega, Lib.hid (fun x hx => by cases hx), Nat.le_refl _, by simp, Ho1, S1, Hb1⟩
  case round =>
    obtain ⟨k, l, g, c, j, rfl, rfl, hl, hk, hj, Hl, hg0, hgs, Ho, Hs, Hw⟩ := hrel
    by_cases hlt : k < n
    · have d1 : decide ((0 : Int) < (n : Int) - (k : Int)) = true := by simp; omega
      have hwsz := Hw.out.size
      go_wp2_with fail
      refine (pick_any _ w.heap.size a len cap _ Hs.out (by omega) (2 * (m : Int) + 1) (by omega) (by omega)).mono ?_
      rintro e1 w1 ⟨v1, j1, rfl, hv10, hv11, hj1, gs1, hg1⟩
      have Hb2 := Lib.hid (Hw.out.trans (below_src hg1 (by omega)))
      have Ho2 := Lib.hid (ownC_src Ho.out hg1 (by omega))
      have S2 := Lib.hid gs1
      have hsz2 := hg1.size
      clear gs1 hg1 Hs Ho Hw
      go_wp2_with fail
      refine (pick_any _ w.heap.size a len cap _ S2.out (by omega) (2 * (m : Int) + 1) (by omega) (by omega)).mono ?_
      rintro e2 w2 ⟨v2, j2, rfl, hv20, hv21, hj2, gs2, hg2⟩
      have Hb3 := Lib.hid (Hb2.out.trans (below_src hg2 (by omega)))
      have Ho3 := Lib.hid (ownC_src Ho2.out hg2 (by omega))
      have S3 := Lib.hid gs2
      have hsz3 := hg2.size
      clear gs2 hg2 S2 Ho2 Hb2
      go_wp2_with (at_builtin; refine wpList_append_own _ rfl (.tmp 25) (.tmp 36) 45 rfl w0.heap.size 42 i0 (.complex .f32 0 0) 1 8 Tryz.underlying45 hz hz0 hz1 hz2 rfl (by decide) (.slice (some ⟨g, 0, none⟩) k c) k _ rfl (Ho3.out.alloc _) ⟨w2.heap.size, 0, none⟩ 1 1 [.complex .f32 (floatOfInt .f32 (v1 - (m : Int))) (floatOfInt .f32 (v2 - (m : Int)))] rfl (by simp) (cell_newrowB _ _ _) (c_one (floatOfInt .f32 (v1 - (m : Int)), floatOfInt .f32 (v2 - (m : Int)))) (by unfold maxLen; omega) (by omega) (by simp; omega) ?_; intro v' w3 hown' hgrow3 hnil3; obtain ⟨g', c', rfl, hg0', hgs', hc'⟩ := form_own hown'; have Hb4 := Lib.hid ((Hb3.out.alloc (by omega) _).grown hgrow3 (by simp; omega) (by intro x hx; simp [Value.ownBlock] at hx; omega)); have S4 := Lib.hid ((S3.out.allocd _).keep hgrow3 (by intro x hx; simp [Value.ownBlock] at hx; omega)); have Ho4 := Lib.hid hown'; clear hown' hgrow3 hnil3)
      go_roundw
      case rel => exact ⟨k + 1, l ++ [(floatOfInt .f32 (v1 - (m : Int)), floatOfInt .f32 (v2 - (m : Int)))], g', c', j2, by go_num, rfl, by simp [hl], hlt, by omega, Lib.hid (fun x hx => by
        rcases List.mem_append.1 hx with h | h
        · exact Hl.out x h
        · simp at h
          subst h
          exact ⟨v1 - m, v2 - m, wh_ofInt .f32 _ (by rw [show FloatKind.f32.format.binade = 8388608 by decide]; omega), wh_ofInt .f32 _ (by rw [show FloatKind.f32.format.binade = 8388608 by decide]; omega), by omega, by omega, ofInt_lt _, ofInt_lt _⟩), hg0', hgs', Lib.hid (by rw [cvals_snoc]; exact Ho4.out), S4, Hb4⟩
      case measure => simp [intOf]; omega
    · obtain rfl : k = n := by omega
      have d1 : decide ((0 : Int) < (k : Int) - (k : Int)) = false := by simp
      go_wp2
      go_ret
      refine ⟨l, g, c, rfl, hl, Hl.out, ?_, by omega, Hw.out⟩
      have ho : OwnC w0.heap.size wr (some ⟨g, 0, none⟩) c l := by unfold OwnC; rw [hl]; exact Ho.out
      have h := ho.reads
      rwa [hl] at h
end Go.Proofs.YtcjkcoibeieeeaaGreatDoor
