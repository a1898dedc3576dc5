/-
  The parts of the laws of chapter 1: lengths, a number that an input chooses, drawn numbers, sums. No theorem of a claim stands here.
-/
import Derived.Test.YtcjkcoibeieeeaaGreatDoorDrawL
import Derived.Test.YtcjkcoibeieeeaaGreatDoorOwnF
import Derived.Test.YtcjkcoibeieeeaaGreatDoorSum
set_option linter.unusedVariables false
set_option maxRecDepth 8000
namespace Go.Proofs.YtcjkcoibeieeeaaGreatDoor
open Go Go.RowKit Go.Deep Go.Proofs.YtcjkcoibeieeeaaGreatDoor.Fl

theorem BRd.below {p : Nat} {w w' : World} {a : Option Addr} {len cap B : Nat} (h : BRd p w a len cap) (hb : Below B w w') (hB : p ≤ B) : BRd p w' a len cap := by
  obtain ⟨h1, h2, h3, h4⟩ := h
  refine ⟨h1, h2, h3, fun k hk => ?_⟩
  obtain ⟨b, o, v, e, hbp, hv0, hv1, hc⟩ := h4 k hk
  exact ⟨b, o, v, e, hbp, hv0, hv1, (hb.cell (show (⟨b, o + k, none⟩ : Addr).block < B from Nat.lt_of_lt_of_le hbp hB)).trans hc⟩
theorem BRd.up {p q : Nat} {w : World} {a : Option Addr} {len cap : Nat} (h : BRd p w a len cap) (hq : p ≤ q) : BRd q w a len cap := by
  obtain ⟨h1, h2, h3, h4⟩ := h
  refine ⟨h1, h2, h3, fun k hk => ?_⟩
  obtain ⟨b, o, v, e, hbp, hv⟩ := h4 k hk
  exact ⟨b, o, v, e, by omega, hv⟩
theorem gweak {w w' : World} (h : w.grownBy w' none) (r : Option Nat) : w.grownBy w' r := ⟨h.os, h.tape, h.output, h.size, fun k hk _ => h.block k hk (by simp)⟩

theorem b10Long_any (a b : Option Addr) (la ca lb cb : Nat) (w : World) : Calls Tryz.prog 5 #[.slice a la ca, .slice b lb cb] w fun e w' => e = .returned (.bool (decide (1048576 < la ∨ 1048576 < lb))) ∧ w' = w := by
  by_cases c1 : 1048576 < la
  · have d1 : decide ((1048576 : Int) < (la : Int)) = true := by simp; omega
    have e1 : decide (1048576 < la ∨ 1048576 < lb) = true := by simp; omega
    rw [e1]
    go_enter Tryz.func5, Tryz.ntmps5
    go_wp2
    go_ret
    exact ⟨rfl, rfl⟩
  · have d1 : decide ((1048576 : Int) < (la : Int)) = false := by simp; omega
    by_cases c2 : 1048576 < lb
    · have d2 : decide ((1048576 : Int) < (lb : Int)) = true := by simp; omega
      have e1 : decide (1048576 < la ∨ 1048576 < lb) = true := by simp; omega
      rw [e1]
      go_enter Tryz.func5, Tryz.ntmps5
      go_wp2
      go_ret
      exact ⟨rfl, rfl⟩
    · have d2 : decide ((1048576 : Int) < (lb : Int)) = false := by simp; omega
      have e1 : decide (1048576 < la ∨ 1048576 < lb) = false := by simp; omega
      rw [e1]
      go_enter Tryz.func5, Tryz.ntmps5
      go_wp2
      go_ret
      exact ⟨rfl, rfl⟩

theorem b10At_any (p : Nat) (a : Option Addr) (len cap k : Nat) (n : Int) (w : World) (hb : BRd p w a len cap) (hn : 1 ≤ n) (hk : k ≤ 1000) :
    Calls Tryz.prog 11 #[.slice a len cap, .int .i64 k, .int .i64 n] w fun e w' => ∃ v : Int, e = .returned (.int .i64 v) ∧ 0 ≤ v ∧ v < n ∧ w' = w := by
  by_cases h1 : n ≤ 1
  · have d1 : decide (n ≤ 1) = true := by simp; omega
    go_enter Tryz.func11, Tryz.ntmps11
    go_wp2
    go_ret
    exact ⟨0, rfl, by omega, by omega, rfl⟩
  · have d1 : decide (n ≤ 1) = false := by simp; omega
    by_cases h2 : k < len
    · have d2 : decide ((k : Int) < (len : Int)) = true := by simp; omega
      obtain ⟨b, o, v, rfl, hbp, hv0, hv1, hc⟩ := hb.2.2.2 k h2
      have hcap := hb.1
      go_enter Tryz.func11, Tryz.ntmps11
      go_wp2
      go_ret
      exact ⟨_, rfl, Int.emod_nonneg _ (by omega), Int.emod_lt_of_pos _ (by omega), rfl⟩
    · have d2 : decide ((k : Int) < (len : Int)) = false := by simp; omega
      go_enter Tryz.func11, Tryz.ntmps11
      go_wp2
      go_ret
      exact ⟨_, rfl, Int.emod_nonneg _ (by omega), Int.emod_lt_of_pos _ (by omega), rfl⟩

set_option maxHeartbeats 1000000 in
theorem b10Number_any (w : World) (a : Option Addr) (len cap : Nat) (hb : BRd w.heap.size w a len cap) :
    Calls Tryz.prog 6 #[.slice a len cap] w fun e w' => ∃ r : Nat, e = .returned (.float .f32 r) ∧ r < 2 ^ 32 ∧ Below w.heap.size w w' := by
  go_enter Tryz.func6, Tryz.ntmps6
  go_wp2_with (first | (go_at_call 38; refine (from_any _ a len cap hb).mono ?_; rintro e0 w0 ⟨rfl, gs1, hg1⟩; have Hs := Lib.hid gs1; have Hg := Lib.hid (gweak hg1 (some w.heap.size)); clear gs1 hg1) | (go_at_call 39; refine (one_any _ w.heap.size a len cap _ Hs.out (by omega) 2 (by omega) (by omega)).mono ?_; rintro e1 w1 ⟨v1, j1, rfl, hj1, gs1, hg1⟩; have Hg1 := Lib.hid (gtrans Hg.out hg1); clear Hs Hg hg1; have Hs := Lib.hid gs1; have Hg := Lib.hid Hg1.out; clear gs1 Hg1; cases v1) | (go_at_call 40; refine (pick_any _ w.heap.size a len cap _ Hs.out (by omega) 65536 (by omega) (by omega)).mono ?_; rintro e3 w3 ⟨v, j, rfl, hv0, hv1, hj, gs1, hg1⟩; have Hg1 := Lib.hid (gtrans Hg.out hg1); clear Hs Hg hg1; have Hs := Lib.hid gs1; have Hg := Lib.hid Hg1.out; clear gs1 Hg1) | (go_at_call 41; refine (from32_any _ (by omega) (by omega) _).mono ?_; rintro e w' ⟨rfl, rfl⟩) | (go_at_call 42; refine (drawFloat_any _ w.heap.size a len cap _ Hs.out (by omega)).mono ?_; rintro e2 w2 ⟨r, j, rfl, hr, hj, gs1, hg1⟩; have Hg1 := Lib.hid (gtrans Hg.out hg1); clear Hs Hg hg1; have Hs := Lib.hid gs1; have Hg := Lib.hid Hg1.out; clear gs1 Hg1))
  · go_ret
    exact ⟨_, rfl, hr, below_src Hg.out (Nat.le_refl _)⟩
  · go_ret
    exact ⟨_, rfl, by omega, below_src Hg.out (Nat.le_refl _)⟩

set_option maxHeartbeats 1000000 in
theorem b10Numbers_any (w : World) (a : Option Addr) (len cap n : Nat) (hb : BRd w.heap.size w a len cap) (hn : n ≤ 64) :
    Calls Tryz.prog 10 #[.slice a len cap, .int .i64 n] w fun e w' => ∃ (l : List Nat) (x : Option Addr) (c : Nat), e = .returned (.slice x n c) ∧ l.length = n ∧ FRd w' x n c l ∧ Below w.heap.size w w' := by
  go_enter Tryz.func10, Tryz.ntmps10
  go_wp2_with (first | (go_at_call 38; refine (from_any _ a len cap hb).mono ?_; rintro e0 w0 ⟨rfl, gs1, hg1⟩; have Hs := Lib.hid gs1; have Hg := Lib.hid (gweak hg1 (some w.heap.size)); clear gs1 hg1) | (go_at_call 47; refine (drawFloats_any _ w.heap.size a len cap _ Hs.out (by omega) n hn).mono ?_; rintro e2 w2 ⟨l, g, c, rfl, hl, hin, hgs, ho, hb2⟩; have Hb := Lib.hid ((below_src Hg.out (Nat.le_refl _)).trans hb2); have Ho := Lib.hid (ho.reads hin); clear ho hb2 hin))
  go_ret
  exact ⟨l, _, c, rfl, hl, by have h := Ho.out; rwa [hl] at h, Hb.out⟩

theorem sumOf_rd (w : World) (a : Option Addr) (len cap : Nat) (l : List Nat) (ha : FRd w a len cap l) (hl : len ≤ 256) :
    Calls Tryz.prog 48 #[.slice a len cap] w fun e w' => ∃ r n, e = .returned (.tuple #[.float .f32 r, .bool true]) ∧ vl .f32 r = fsum l ∧ r < 2 ^ 32 ∧ w' = w.drewN n := by
  have hadd := fun x y w => run_fov (P := Tryz.prog) .add rfl 24 .f32 x y w
  have hlen := ha.1
  have Ha := Lib.hid ha
  clear ha
  go_enter Tryz.func48, Tryz.ntmps48
  go_wp2
  go_loopw [4, 13] (fun v i wr => ∃ k r n : Nat, k ≤ len ∧ v = .float .f32 r ∧ i = .int .i64 k ∧ r < 2 ^ 32 ∧ Hid (vl .f32 r = fsum (l.take k)) ∧ wr = w.drewN n) (fun _ i _ => len - (intOf i).toNat)
  case atStart => exact ⟨0, 0, 0, Nat.zero_le _, rfl, rfl, by decide, by show vl .f32 0 = _; rw [vl_zero]; rfl, rfl⟩
  case round =>
    obtain ⟨k, r, n, hk, rfl, rfl, hr, hv, rfl⟩ := hrel
    by_cases hlt : k < len
    · obtain ⟨b, o, rfl, c1, _⟩ := Ha.out.2.2.1 k hlt
      have hcap := Ha.out.2.1
      have Hs := Lib.hid (fsum_snoc (l := l) (k := k) (by omega))
      generalize l.getD k 0 = v at c1 Hs
      clear hlen
      go_wp2
      go_roundw
      case rel => exact ⟨k + 1, _, _, by omega, rfl, by go_num, fov_lt _ _ _ _ _, by show vl .f32 _ = _; rw [vl_fov, hv.out, Hs.out], rfl⟩
      case measure => simp [intOf]; omega
    · obtain rfl : k = len := by omega
      have Hv : Hid (vl .f32 r = fsum l) := by
        have := hv.out; rw [List.take_of_length_le (Nat.le_of_eq hlen)] at this; exact this
      clear hlen
      go_wp2
      go_ret2
      exact ⟨r, n, rfl, Hv.out, hr, rfl⟩
theorem sum_rd (w : World) (a : Option Addr) (len cap : Nat) (l : List Nat) (ha : FRd w a len cap l) (hl : len ≤ 256) :
    Calls Tryz.prog 12 #[.slice a len cap] w fun e w' => ∃ r n, e = .returned (.tuple #[.float .f32 r, .bool true]) ∧ vl .f32 r = fsum l ∧ r < 2 ^ 32 ∧ w' = w.drewN n := by
  go_enter Tryz.func12, Tryz.ntmps12
  go_wp2_with (go_at_call 48; refine (sumOf_rd _ _ _ _ _ ha hl).mono ?_; rintro e w' ⟨r, n, rfl, hr, hr2, rfl⟩; have Hr := Lib.hid hr; clear hr)
  go_ret2
  exact ⟨r, _, rfl, Hr.out, hr2, rfl⟩

theorem same_any (a b : Nat) (ha : a < 2 ^ 32) (hb : b < 2 ^ 32) (w : World) :
    Calls Tryz.prog 15 #[.float .f32 a, .float .f32 b] w (VRet (.bool (bitsV (vl .f32 a) == bitsV (vl .f32 b))) w) := by
  have hA := fun w' => l01Bits_any a ha w'
  have hB := fun w' => l01Bits_any b hb w'
  generalize bitsV (vl .f32 a) = x at *
  generalize bitsV (vl .f32 b) = y at *
  have S0 : Hid True := Lib.hid trivial
  have hin : Calls Tryz.prog 53 #[.float .f32 a, .float .f32 b] w (VRet (.bool (x == y)) w) := by
    go_enter Tryz.func53, Tryz.ntmps53
    go_wp2_with (first | (have h_ := S0; clear h_; go_at_call 85; refine (hA _).mono ?_; rintro e w' ⟨n1, rfl, rfl⟩; clear S0; have S1 : Hid True := Lib.hid trivial) | (have h_ := S1; clear h_; go_at_call 85; refine (hB _).mono ?_; rintro e w' ⟨n2, rfl, rfl⟩; clear S1))
    go_ret
    exact ⟨_, rfl, rfl⟩
  go_enter Tryz.func15, Tryz.ntmps15
  go_wp2_with (go_at_call 53; refine hin.mono ?_; rintro e w' ⟨n1, rfl, rfl⟩)
  go_ret
  exact ⟨_, rfl, rfl⟩
end Go.Proofs.YtcjkcoibeieeeaaGreatDoor
