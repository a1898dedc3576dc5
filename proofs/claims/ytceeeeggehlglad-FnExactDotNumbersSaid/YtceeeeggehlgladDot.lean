/-
  Walks: sums of products from left to right. No theorem of a claim stands here.
-/
import Derived.Test.YtceeeeggehlgladSum
import Derived.BigRegion
set_option linter.unusedVariables false
namespace Go.Proofs.Ytceeeeggehlglad.Fl
open Go Go.RowKit

/-- The sum of the products of two lists, from left to right. -/
def fdot (l m : List Nat) (n : Nat) : Option Nat := (List.range n).foldl (fun acc i => fop .add .f32 acc (fop .mul .f32 (vl .f32 (l.getD i 0)) (vl .f32 (m.getD i 0)))) (some 0)
theorem fdot_succ (l m : List Nat) (k : Nat) : fdot l m (k + 1) = fop .add .f32 (fdot l m k) (fop .mul .f32 (vl .f32 (l.getD k 0)) (vl .f32 (m.getD k 0))) := by
  unfold fdot
  rw [List.range_succ, List.foldl_append]; rfl

set_option maxHeartbeats 1000000 in
theorem l01Dot_any (w : World) (a b : Option Addr) (len cap cap2 : Nat) (zs ys : List Nat) (ha : IsRowF .f32 w a len cap zs) (hb : IsRowF .f32 w b len cap2 ys) (hl : len ≤ 1048576) :
    Calls Try.prog 30 #[.slice a len cap, .slice b len cap2] w (FRet .f32 (fdot (zs.take len) (ys.take len) len) w) := by
  have hadd := fun x y w => run_fov (P := Try.prog) .add rfl 22 .f32 x y w
  have hmul := fun x y w => run_fov (P := Try.prog) .mul rfl 22 .f32 x y w
  have Ha := Lib.hid ha
  have Hb := Lib.hid hb
  clear ha hb
  go_enter Try.func30, Try.ntmps30
  go_wp2
  go_loopw [5, 6] (fun v i wr => ∃ k r n : Nat, k ≤ len ∧ v = .float .f32 r ∧ i = .int .i64 k ∧ r < 2 ^ 32 ∧ Hid (vl .f32 r = fdot (zs.take len) (ys.take len) k) ∧ wr = w.drewN n) (fun _ i _ => len - (intOf i).toNat)
  case atStart => exact ⟨0, 0, 0, Nat.zero_le _, rfl, rfl, by decide, by show vl .f32 0 = _; rw [vl_zero]; rfl, rfl⟩
  case round =>
    obtain ⟨k, r, n, hk, rfl, rfl, hr, hv, rfl⟩ := hrel
    by_cases hlt : k < len
    · obtain ⟨b1, o1, rfl, hcap, c1, _⟩ := rowF_cell Ha.out hlt
      obtain ⟨b2, o2, rfl, hcap2, c2, _⟩ := rowF_cell Hb.out hlt
      have Hs := Lib.hid (fdot_succ (zs.take len) (ys.take len) k)
      generalize (zs.take len).getD k 0 = v1 at c1 Hs
      generalize (ys.take len).getD k 0 = v2 at c2 Hs
      go_wp2
      go_region
      all_goals go_wp2
      all_goals (go_roundw; (case rel => exact ⟨k + 1, _, _, by omega, rfl, by go_num, fov_lt _ _ _ _ _, by show vl .f32 _ = _; rw [vl_fov, vl_fov, hv.out, Hs.out], rfl⟩); (case measure => simp [intOf]; omega))
    · obtain rfl : k = len := by omega
      go_wp2
      go_ret
      exact ⟨r, n, rfl, hv.out, hr, rfl⟩

theorem run_self (b : Nat) (w : World) : (convert 22 22 (.float .f32 b)).run Try.prog w = .ok (.float .f32 b) w :=
  run_convert_float_float w 22 22 .f32 .f32 b b isSome_f32 Try.underlying22 rfl

theorem mulNumbers_any (x y : Nat) (w : World) : Calls Try.prog 32 #[.float .f32 x, .float .f32 y] w (FRet .f32 (fop .mul .f32 (vl .f32 x) (vl .f32 y)) w) := by
  have hmul := fun x y w => run_fov (P := Try.prog) .mul rfl 22 .f32 x y w
  have hself := run_self
  go_enter Try.func32, Try.ntmps32
  go_wp2
  go_ret
  exact ⟨_, _, rfl, vl_fov _ _ _ _ _, fov_lt _ _ _ _ _, rfl⟩

theorem dotOf_any (w : World) (a b : Option Addr) (len cap cap2 : Nat) (zs ys : List Nat) (ha : IsRowF .f32 w a len cap zs) (hb : IsRowF .f32 w b len cap2 ys) (hl : len ≤ 256) :
    Calls Try.prog 31 #[.slice a len cap, .slice b len cap2, .func (.func 32) #[] #[]] w (SRet (fdot (zs.take len) (ys.take len) len) true w) := by
  have hadd := fun x y w => run_fov (P := Try.prog) .add rfl 22 .f32 x y w
  have Ha := Lib.hid ha
  have Hb := Lib.hid hb
  have hne : ((len : Int) != (len : Int)) = false := by simp
  have d1 : decide (256 < (len : Int)) = false := by simp; omega
  clear ha hb
  go_enter Try.func31, Try.ntmps31
  go_wp2
  go_loopw [8, 24] (fun v i wr => ∃ k r n : Nat, k ≤ len ∧ v = .float .f32 r ∧ i = .int .i64 k ∧ r < 2 ^ 32 ∧ Hid (vl .f32 r = fdot (zs.take len) (ys.take len) k) ∧ wr = w.drewN n) (fun _ i _ => len - (intOf i).toNat)
  case atStart => exact ⟨0, 0, 0, Nat.zero_le _, rfl, rfl, by decide, by show vl .f32 0 = _; rw [vl_zero]; rfl, rfl⟩
  case round =>
    obtain ⟨k, r, n, hk, rfl, rfl, hr, hv, rfl⟩ := hrel
    by_cases hlt : k < len
    · obtain ⟨b1, o1, rfl, hcap, c1, _⟩ := rowF_cell Ha.out hlt
      obtain ⟨b2, o2, rfl, hcap2, c2, _⟩ := rowF_cell Hb.out hlt
      have Hs := Lib.hid (fdot_succ (zs.take len) (ys.take len) k)
      generalize (zs.take len).getD k 0 = v1 at c1 Hs
      generalize (ys.take len).getD k 0 = v2 at c2 Hs
      go_wp2_with fail
      refine (mulNumbers_any _ _ _).mono ?_
      rintro e w' ⟨q, m, rfl, hq, hq2, rfl⟩
      have Hq := Lib.hid hq
      clear hq
      go_wp2
      go_roundw
      case rel => exact ⟨k + 1, _, _, by omega, rfl, by go_num, fov_lt _ _ _ _ _, by show vl .f32 _ = _; rw [vl_fov, Hq.out, hv.out, Hs.out], rfl⟩
      case measure => simp [intOf]; omega
    · obtain rfl : k = len := by omega
      go_wp2
      go_ret2
      exact ⟨r, n, rfl, hv.out, hr, rfl⟩

def dotV (l m : List Nat) (n n2 : Nat) : Option Nat := if n ≤ 256 ∧ n = n2 then fdot l m n else some 0
def dotOk (n n2 : Nat) : Bool := decide (n ≤ 256 ∧ n = n2)

theorem specDot_any (w : World) (a b : Option Addr) (len len2 cap cap2 : Nat) (zs ys : List Nat) (ha : IsRowF .f32 w a len cap zs) (hb : IsRowF .f32 w b len2 cap2 ys) (hl : len ≤ 1048576) (hl2 : len2 ≤ 1048576) :
    Calls Try.prog 16 #[.slice a len cap, .slice b len2 cap2] w (SRet (dotV (zs.take len) (ys.take len) len len2) (dotOk len len2) w) := by
  by_cases h : len ≤ 256
  · have d1 : decide ((len : Int) ≤ 256) = true := by simp; omega
    by_cases he : len = len2
    · subst he
      have hne : ((len : Int) != (len : Int)) = false := by simp
      have Hv := Lib.hid (show dotV (zs.take len) (ys.take len) len len = fdot (zs.take len) (ys.take len) len by unfold dotV; rw [if_pos ⟨h, rfl⟩])
      have Ho := Lib.hid (show dotOk len len = true by unfold dotOk; simp [h])
      go_enter Try.func16, Try.ntmps16
      go_wp2_with (first | (go_at_call 27; go_in) | (go_at_call 30; refine (l01Dot_any _ _ _ _ _ _ _ _ ha hb hl).mono ?_; rintro e w' ⟨r, n, rfl, hr, hr2, rfl⟩; have Hr := Lib.hid hr; clear hr))
      go_ret2
      exact ⟨r, _, by rw [Ho.out]; rfl, by rw [Hv.out, Hr.out], hr2, rfl⟩
    · have hne : ((len : Int) != (len2 : Int)) = true := by simp; omega
      have Hv := Lib.hid (show dotV (zs.take len) (ys.take len) len len2 = some 0 by unfold dotV; rw [if_neg (fun h => he h.2)])
      have Ho := Lib.hid (show dotOk len len2 = false by unfold dotOk; simp [he])
      go_enter Try.func16, Try.ntmps16
      go_wp2
      go_ret2
      exact ⟨0, 0, by rw [Ho.out]; rfl, by rw [Hv.out, vl_zero], by decide, rfl⟩
  · have d1 : decide ((len : Int) ≤ 256) = false := by simp; omega
    have Hv := Lib.hid (show dotV (zs.take len) (ys.take len) len len2 = some 0 by unfold dotV; rw [if_neg (fun hh => h hh.1)])
    have Ho := Lib.hid (show dotOk len len2 = false by unfold dotOk; simp; omega)
    go_enter Try.func16, Try.ntmps16
    go_wp2
    go_ret2
    exact ⟨0, 0, by rw [Ho.out]; rfl, by rw [Hv.out, vl_zero], by decide, rfl⟩

theorem dotOf_no (w : World) (a b : Option Addr) (v : Value) (len len2 cap cap2 : Nat) (hl : len ≤ 1048576) (hl2 : len2 ≤ 1048576) (h : ¬ (len ≤ 256 ∧ len = len2)) :
    Calls Try.prog 31 #[.slice a len cap, .slice b len2 cap2, v] w fun e w' => e = .returned (.tuple #[.float .f32 0, .bool false]) ∧ w = w' := by
  by_cases he : len = len2
  · subst he
    have hne : ((len : Int) != (len : Int)) = false := by simp
    have d1 : decide (256 < (len : Int)) = true := by simp; omega
    go_enter Try.func31, Try.ntmps31
    go_wp2
    go_ret2
    exact ⟨rfl, rfl⟩
  · have hne : ((len : Int) != (len2 : Int)) = true := by simp; omega
    go_enter Try.func31, Try.ntmps31
    go_wp2
    go_ret2
    exact ⟨rfl, rfl⟩

theorem implDot_any (w : World) (a b : Option Addr) (len len2 cap cap2 : Nat) (zs ys : List Nat) (ha : IsRowF .f32 w a len cap zs) (hb : IsRowF .f32 w b len2 cap2 ys) (hl : len ≤ 1048576) (hl2 : len2 ≤ 1048576) :
    Calls Try.prog 17 #[.slice a len cap, .slice b len2 cap2] w (SRet (dotV (zs.take len) (ys.take len) len len2) (dotOk len len2) w) := by
  by_cases h : len ≤ 256 ∧ len = len2
  · obtain ⟨h, rfl⟩ := h
    have Hv := Lib.hid (show dotV (zs.take len) (ys.take len) len len = fdot (zs.take len) (ys.take len) len by unfold dotV; rw [if_pos ⟨h, rfl⟩])
    have Ho := Lib.hid (show dotOk len len = true by unfold dotOk; simp [h])
    go_enter Try.func17, Try.ntmps17
    go_wp2_with (go_at_call 31; refine (dotOf_any _ _ _ _ _ _ _ _ ha hb h).mono ?_; rintro e w' ⟨r, n, rfl, hr, hr2, rfl⟩; have Hr := Lib.hid hr; clear hr)
    go_ret2
    exact ⟨r, _, by rw [Ho.out]; rfl, by rw [Hv.out, Hr.out], hr2, rfl⟩
  · have Hv := Lib.hid (show dotV (zs.take len) (ys.take len) len len2 = some 0 by unfold dotV; rw [if_neg h])
    have Ho := Lib.hid (show dotOk len len2 = false by unfold dotOk; exact decide_eq_false h)
    have Hh := Lib.hid h
    clear h
    go_enter Try.func17, Try.ntmps17
    go_wp2_with (go_at_call 31; refine (dotOf_no _ _ _ _ _ _ _ _ hl hl2 Hh.out).mono ?_; rintro e w' ⟨rfl, rfl⟩)
    go_ret2
    exact ⟨0, 0, by rw [Ho.out]; rfl, by rw [Hv.out, vl_zero], by decide, rfl⟩
end Go.Proofs.Ytceeeeggehlglad.Fl
