/-
  The walk of the law on products.
-/
import Derived.Test.YtcjkcoibeieeeaaGreatDoorFnNumbersWalk
import Derived.Test.YtcjkcoibeieeeaaGreatDoorDrawC
import Derived.Test.YtcjkcoibeieeeaaGreatDoorNumTC
import Derived.Test.YtcjkcoibeieeeaaGreatDoorProd
import Derived.Laws.Cover3
set_option linter.unusedVariables false
set_option linter.unusedSimpArgs false
set_option maxRecDepth 8000
namespace Go.Proofs.YtcjkcoibeieeeaaGreatDoor
open Go Go.RowKit Go.Deep Go.Proofs.YtcjkcoibeieeeaaGreatDoor.Fl

theorem cmp_self (n : Int) : compare n n = Ordering.eq := by
  show compareOfLessAndEq _ _ = _
  unfold compareOfLessAndEq
  rw [if_neg (by omega), if_pos rfl]
theorem cmp_ne {n m : Int} (h : n ≠ m) : compare n m ≠ Ordering.eq := by
  show compareOfLessAndEq _ _ ≠ _
  unfold compareOfLessAndEq
  split
  · simp
  · first | (rw [if_neg h]; simp) | simp
theorem wh_eq {k : FloatKind} {a b : Nat} {n m : Int} (ha : Wh k a n) (hb : Wh k b m) (h : n = m) : (k.format.order a b == some .eq) = true := by
  rw [wh_order ha hb, h, cmp_self]; rfl
theorem wh_eq' {k : FloatKind} {a b : Nat} {n m : Int} (ha : Wh k a n) (hb : Wh k b m) (h : n = m) : (k.format.order a b != some .eq) = false := by
  rw [wh_order ha hb, h, cmp_self]; rfl
theorem wh_ne {k : FloatKind} {a b : Nat} {n m : Int} (ha : Wh k a n) (hb : Wh k b m) (h : n ≠ m) : (k.format.order a b == some .eq) = false := by
  rw [wh_order ha hb, beq_eq_false_iff_ne]
  intro e
  exact cmp_ne h (Option.some.inj e)
theorem wh_zero : Wh .f32 0 0 := by
  have e : floatOfInt .f32 0 = 0 := by decide
  have h := wh_ofInt .f32 0 (by decide)
  rwa [e] at h

theorem sameI_any (a b : Nat) (ha : a < 2 ^ 32) (hb : b < 2 ^ 32) (h : vl .f32 a = vl .f32 b) (w : World) : Calls Tryz.prog 73 #[.float .f32 a, .float .f32 b] w (VRet (.bool true) w) := by
  have hA := fun w' => bitsOf_any a ha w'
  have hB := fun w' => bitsOf_any b hb w'
  rw [h] at hA
  clear h
  generalize bitsV (vl .f32 b) = y at *
  have hy : (y == y) = true := by simp
  go_enter Tryz.func73, Tryz.ntmps73
  go_wp2_with fail
  refine (hA _).mono ?_
  rintro e w' ⟨n, rfl, rfl⟩
  go_wp2_with fail
  refine (hB _).mono ?_
  rintro e w' ⟨m, rfl, rfl⟩
  go_wp2_with fail
  go_ret
  exact ⟨_, rfl, rfl⟩
theorem sameCxI_any (a b c d : Nat) (ha : a < 2 ^ 32) (hb : b < 2 ^ 32) (hc : c < 2 ^ 32) (hd : d < 2 ^ 32) (h1 : vl .f32 a = vl .f32 c) (h2 : vl .f32 b = vl .f32 d) (w : World) :
    Calls Tryz.prog 34 #[.complex .f32 a b, .complex .f32 c d] w (VRet (.bool true) w) := by
  have hA := fun w' => sameI_any a c ha hc h1 w'
  have hB := fun w' => sameI_any b d hb hd h2 w'
  clear h1 h2
  go_enter Tryz.func34, Tryz.ntmps34
  go_wp2_with fail
  refine (hA _).mono ?_
  rintro e w' ⟨n, rfl, rfl⟩
  go_wp2_with fail
  refine (hB _).mono ?_
  rintro e w' ⟨m, rfl, rfl⟩
  go_wp2_with fail
  go_ret
  exact ⟨_, rfl, rfl⟩
theorem sameT_any (a b : Nat) (ha : a < 2 ^ 32) (hb : b < 2 ^ 32) (h : vl .f32 a = vl .f32 b) (w : World) : Calls Tryz.prog 53 #[.float .f32 a, .float .f32 b] w (VRet (.bool true) w) := by
  have hA := fun w' => l01Bits_any a ha w'
  have hB := fun w' => l01Bits_any b hb w'
  rw [h] at hA
  clear h
  generalize bitsV (vl .f32 b) = y at *
  have hy : (y == y) = true := by simp
  go_enter Tryz.func53, Tryz.ntmps53
  go_wp2_with fail
  refine (hA _).mono ?_
  rintro e w' ⟨n, rfl, rfl⟩
  go_wp2_with fail
  refine (hB _).mono ?_
  rintro e w' ⟨m, rfl, rfl⟩
  go_wp2_with fail
  go_ret
  exact ⟨_, rfl, rfl⟩
theorem sameCxT_any (a b c d : Nat) (ha : a < 2 ^ 32) (hb : b < 2 ^ 32) (hc : c < 2 ^ 32) (hd : d < 2 ^ 32) (h1 : vl .f32 a = vl .f32 c) (h2 : vl .f32 b = vl .f32 d) (w : World) :
    Calls Tryz.prog 91 #[.complex .f32 a b, .complex .f32 c d] w (VRet (.bool true) w) := by
  have hA := fun w' => sameT_any a c ha hc h1 w'
  have hB := fun w' => sameT_any b d hb hd h2 w'
  clear h1 h2
  go_enter Tryz.func91, Tryz.ntmps91
  go_wp2_with fail
  refine (hA _).mono ?_
  rintro e w' ⟨n, rfl, rfl⟩
  go_wp2_with fail
  refine (hB _).mono ?_
  rintro e w' ⟨m, rfl, rfl⟩
  go_wp2_with fail
  go_ret
  exact ⟨_, rfl, rfl⟩
theorem sameCxS_any (a b c d : Nat) (ha : a < 2 ^ 32) (hb : b < 2 ^ 32) (hc : c < 2 ^ 32) (hd : d < 2 ^ 32) (h1 : vl .f32 a = vl .f32 c) (h2 : vl .f32 b = vl .f32 d) (w : World) :
    Calls Tryz.prog 72 #[.complex .f32 a b, .complex .f32 c d] w (VRet (.bool true) w) := by
  have hA := fun w' => sameCxT_any a b c d ha hb hc hd h1 h2 w'
  clear h1 h2
  go_enter Tryz.func72, Tryz.ntmps72
  go_wp2_with fail
  refine (hA _).mono ?_
  rintro e w' ⟨n, rfl, rfl⟩
  go_wp2_with fail
  go_ret
  exact ⟨_, rfl, rfl⟩
/-- Two lists of complex numbers, one the other's numbers told by their bits. -/
theorem b10Same_any (w : World) (a b : Option Addr) (len cap cap2 : Nat) (l : List (Nat × Nat)) (ha : CRd w a len cap (l.map canonP)) (hb : CRd w b len cap2 l) (hin : ∀ n ∈ l, n.1 < 2 ^ 32 ∧ n.2 < 2 ^ 32) (hl : len ≤ 1048576) :
    Calls Tryz.prog 33 #[.slice a len cap, .slice b len cap2] w (VRet (.bool true) w) := by
  have hne : ((len : Int) != (len : Int)) = false := by simp
  have Ha := Lib.hid ha
  have Hb := Lib.hid hb
  have Hin := Lib.hid hin
  clear ha hb hin
  go_enter Tryz.func33, Tryz.ntmps33
  go_wp2
  go_loopw [13] (fun i wr => ∃ k n : Nat, k ≤ len ∧ i = .int .i64 k ∧ wr = w.drewN n) (fun i _ => len - (intOf i).toNat)
  case atStart => exact ⟨0, 0, Nat.zero_le _, rfl, rfl⟩
  case round =>
    obtain ⟨k, n, hk, rfl, rfl⟩ := hrel
    by_cases hlt : k < len
    · obtain ⟨b1, o1, rfl, c1, hbs1⟩ := Ha.out.2.2 k hlt
      obtain ⟨b2, o2, rfl, c2, hbs2⟩ := Hb.out.2.2 k hlt
      have hc1 := Ha.out.2.1
      have hc2 := Hb.out.2.1
      have hkl : k < l.length := by rw [Hb.out.1]; exact hlt
      have em : (l.map canonP).getD k (0, 0) = canonP (l.getD k (0, 0)) := by simp [List.getD, hkl]
      have hbd : (l.getD k (0, 0)).1 < 2 ^ 32 ∧ (l.getD k (0, 0)).2 < 2 ^ 32 := by rw [cgetD hkl]; exact Hin.out _ (List.getElem_mem hkl)
      rw [em] at c1
      have hS := fun w' => sameCxS_any (canonP (l.getD k (0, 0))).1 (canonP (l.getD k (0, 0))).2 (l.getD k (0, 0)).1 (l.getD k (0, 0)).2 (bitsN_lt hbd.1) (bitsN_lt hbd.2) hbd.1 hbd.2 (vl_canon _) (vl_canon _) w'
      clear em hbd
      generalize l.getD k (0, 0) = v at c1 c2 hS
      generalize canonP v = u at c1 hS
      go_wp2
      go_region_with (go_at_call 72; refine (hS _).mono ?_; rintro e w' ⟨m9, rfl, rfl⟩)
      all_goals go_wp2
      all_goals (go_roundw; (case rel => exact ⟨k + 1, _, by omega, by go_num, rfl⟩); (case measure => simp [intOf]; omega))
    · obtain rfl : k = len := by omega
      go_wp2
      go_ret
      exact ⟨n, rfl, rfl⟩
theorem finCx_any (a b : Nat) (ha : a < 2 ^ 32) (hb : b < 2 ^ 32) (w : World) : Calls Tryz.prog 36 #[.complex .f32 a b] w (VRet (.bool (fin .f32 (vl .f32 a) && fin .f32 (vl .f32 b))) w) := by
  have hA := fun w' => isFinite_any a ha w'
  have hB := fun w' => isFinite_any b hb w'
  generalize fin .f32 (vl .f32 b) = q at *
  cases hp : fin .f32 (vl .f32 a)
  · rw [hp] at hA
    clear hp
    go_enter Tryz.func36, Tryz.ntmps36
    go_wp2_with fail
    refine (hA _).mono ?_
    rintro e w' ⟨n, rfl, rfl⟩
    go_wp2_with fail
    go_ret
    exact ⟨_, rfl, rfl⟩
  · rw [hp] at hA
    clear hp
    go_enter Tryz.func36, Tryz.ntmps36
    go_wp2_with fail
    refine (hA _).mono ?_
    rintro e w' ⟨n, rfl, rfl⟩
    go_wp2_with fail
    refine (hB _).mono ?_
    rintro e w' ⟨m, rfl, rfl⟩
    go_wp2_with fail
    go_ret
    exact ⟨_, rfl, rfl⟩
theorem finS_any (a : Nat) (ha : a < 2 ^ 32) (w : World) : Calls Tryz.prog 37 #[.float .f32 a] w (VRet (.bool (fin .f32 (vl .f32 a))) w) := by
  have hA := fun w' => l01Finite_any a ha w'
  go_enter Tryz.func37, Tryz.ntmps37
  go_wp2_with fail
  refine (hA _).mono ?_
  rintro e w' ⟨n, rfl, rfl⟩
  go_wp2_with fail
  go_ret
  exact ⟨_, rfl, rfl⟩

namespace fnProducts
set_option maxHeartbeats 8000000 in
theorem walk (a0 a1 : Option Addr) (len0 cap0 len1 cap1 : Nat) (w : World) (w0 : Rd8 w a0 len0 cap0) (w1 : Rd8 w a1 len1 cap1) (hv : VarsN w) :
    Calls Tryz.prog 4 #[.slice a0 len0 cap0, .slice a1 len1 cap1] w fun e w' => e = .returned (.bool true) ∧ Below w.heap.size w w' := by
  have hL := b10Long_any a0 a1 len0 cap0 len1 cap1
  by_cases hlong : 1048576 < len0 ∨ 1048576 < len1
  · rw [decide_eq_true hlong] at hL
    clear w0 w1 hlong
    go_enter Tryz.func4, Tryz.ntmps4
    go_wp2_with (go_at_call 5; refine (hL _).mono ?_; rintro e w' ⟨rfl, rfl⟩)
    go_ret
    exact ⟨rfl, Below.refl _ _⟩
  rw [decide_eq_false hlong] at hL
  have C0 := Lib.hid (w0.bytes (by omega))
  have C1 := Lib.hid (w1.bytes (by omega))
  have V0 := Lib.hid hv
  clear w0 w1 hlong hv
  go_enter Tryz.func4, Tryz.ntmps4
  go_wp2_with fail
  refine (hL _).mono ?_
  rintro e w ⟨rfl, rfl⟩
  clear hL
  have hW0 : Calls Tryz.prog 21 #[.slice a0 len0 cap0, .int .i64 1, .int .i64 200] w _ := b10Whole_any w a0 len0 cap0 1 200 C0.out (by omega) (by omega)
  go_wp2_with fail
  refine hW0.mono ?_
  rintro e w1 ⟨l1, g1, c1, rfl, hl1, hw1, hr1, _, hb⟩
  clear hW0
  obtain ⟨⟨ar, ai⟩, rfl⟩ := List.length_eq_one_iff.1 hl1
  obtain ⟨A, B, wA, wB, hA, hB, lar, lai⟩ := hw1 _ (List.mem_singleton.2 rfl)
  have hcell1 : w1.cell? ⟨g1, 0, none⟩ = some (.complex .f32 ar ai) := by
    obtain ⟨b, o, e, hc, _⟩ := hr1.2.2 0 (by omega)
    cases e
    simpa using hc
  have hcap1 := hr1.2.1
  have B1 := Lib.hid hb
  have D1 := Lib.hid ((C1.out.below hb (Nat.le_refl _)).up hb.size)
  clear hb hw1 hr1 hl1
  have hW1 : Calls Tryz.prog 21 #[.slice a1 len1 cap1, .int .i64 1, .int .i64 200] w1 _ := b10Whole_any w1 a1 len1 cap1 1 200 D1.out (by omega) (by omega)
  go_wp2_with fail
  refine hW1.mono ?_
  rintro e w2 ⟨l2, g2, c2, rfl, hl2, hw2, hr2, _, hb⟩
  clear hW1 hcell1 hcap1
  obtain ⟨⟨cr, ci⟩, rfl⟩ := List.length_eq_one_iff.1 hl2
  obtain ⟨C, D, wC, wD, hC, hD, lcr, lci⟩ := hw2 _ (List.mem_singleton.2 rfl)
  have hcell2 : w2.cell? ⟨g2, 0, none⟩ = some (.complex .f32 cr ci) := by
    obtain ⟨b, o, e, hc, _⟩ := hr2.2.2 0 (by omega)
    cases e
    simpa using hc
  have hcap2 := hr2.2.1
  have B2 := Lib.hid (below_then B1.out hb)
  clear hb hw2 hr2 hl2 D1 B1
  dsimp only at wA wB wC wD lar lai lcr lci
  have bAC := prodB hA hC
  have bBD := prodB hB hD
  have bAD := prodB hA hD
  have bBC := prodB hB hC
  have bAA := prodB hA hA
  have bBB := prodB hB hB
  go_wp2_with fail
  refine (mulW lar lai lcr lci wA wB wC wD hA hB hC hD _).mono ?_
  rintro e w' ⟨pr, pi, m1, rfl, wP, wQ, lpr, lpi, rfl⟩
  clear hcell2 hcap2
  have hti1 := fun w => run_convert_float_int (P := Tryz.prog) w 24 2 .f32 .i64 ar A isSome_f32 Tryz.underlying2 (wh_toInt wA (by omega))
  have hti2 := fun w => run_convert_float_int (P := Tryz.prog) w 24 2 .f32 .i64 ai B isSome_f32 Tryz.underlying2 (wh_toInt wB (by omega))
  have hti3 := fun w => run_convert_float_int (P := Tryz.prog) w 24 2 .f32 .i64 cr C isSome_f32 Tryz.underlying2 (wh_toInt wC (by omega))
  have hti4 := fun w => run_convert_float_int (P := Tryz.prog) w 24 2 .f32 .i64 ci D isSome_f32 Tryz.underlying2 (wh_toInt wD (by omega))
  have wX := wh_ofInt .f32 (A * C - B * D) (by rw [bin32w]; omega)
  have wY := wh_ofInt .f32 (A * D + B * C) (by rw [bin32w]; omega)
  have wZ := wh_ofInt .f32 (A * A + B * B) (by rw [bin32w]; omega)
  have o1 := wh_eq wP wX rfl
  have o2 := wh_eq wQ wY rfl
  have i1 : -40000 ≤ A * C ∧ A * C ≤ 40000 := by omega
  have i2 : -40000 ≤ B * D ∧ B * D ≤ 40000 := by omega
  have i3 : -40000 ≤ A * D ∧ A * D ≤ 40000 := by omega
  have i4 : -40000 ≤ B * C ∧ B * C ≤ 40000 := by omega
  have i5 : -40000 ≤ A * A ∧ A * A ≤ 40000 := by omega
  have i6 : -40000 ≤ B * B ∧ B * B ≤ 40000 := by omega
  go_wp2_with fail
  refine (mulW lcr lci lar lai wC wD wA wB hC hD hA hB _).mono ?_
  rintro e w' ⟨qr, qi, m2, rfl, wP2, wQ2, lqr, lqi, rfl⟩
  have o3 := wh_eq wP2 wP (by grind)
  have o4 := wh_eq wQ2 wQ (by grind)
  go_wp2_with fail
  refine (powW lar lai wA wB hA hB _).mono ?_
  rintro e w' ⟨pw, m3, rfl, wW, lpw, rfl⟩
  have o5 := wh_eq' wW wZ rfl
  go_wp2_with fail
  refine (conj_any ar ai _).mono ?_
  rintro e w' ⟨rfl, rfl⟩
  go_wp2_with fail
  refine (mulW lar lai lar (negf_lt lai) wA wB wA (wh_negf lai wB) hA hB hA (by omega) _).mono ?_
  rintro e w' ⟨ur, ui, m4, rfl, wU, wV, lur, lui, rfl⟩
  have o6 := wh_eq wU wZ (by grind)
  have o7 := wh_eq wV wh_zero (by grind)
  go_wp2_with fail
  refine (longW lar lai wA wB hA hB _).mono ?_
  rintro e w' ⟨lo, m5, rfl, hlo, llo, rfl⟩
  go_wp2_with fail
  refine (root_any _ (ofInt_lt _) _).mono ?_
  rintro e w' ⟨ro, m6, rfl, hro, lro, rfl⟩
  have hS := fun w' => same_any lo ro llo lro w'
  rw [show (bitsV (vl .f32 lo) == bitsV (vl .f32 ro)) = true by rw [hlo, hro]; simp] at hS
  clear hlo hro
  go_wp2_with fail
  refine (hS _).mono ?_
  rintro e w' ⟨m7, rfl, rfl⟩
  clear hS hti1 hti2 hti3 hti4 o1 o2 o3 o4 o5 o6 o7
  obtain ⟨sre, hsre, wsre⟩ := (WhV.of wA).add (WhV.of wA) (by rw [bin32w]; omega)
  obtain ⟨sim, hsim, wsim⟩ := (WhV.of wB).add (WhV.of wB) (by rw [bin32w]; omega)
  have hca := fun w => run_complex_sum (P := Tryz.prog) (w := w) .add (.inl rfl) 42 .f32 ar ai ar ai sre sim (by unfold cSumBits; rw [floatBits_vl, floatBits_vl, hsre, hsim]; rfl)
  clear hsre hsim
  rcases Decidable.em (C = 0 ∧ D = 0) with hz | hz
  case' inl =>
    have y1 := wh_eq wC wh_zero hz.1
    have y2 := wh_eq wD wh_zero hz.2
    clear hz
    go_wp2_with fail
    clear y1 y2
  case' inr =>
    have y3 : ((FloatKind.f32.format.order cr 0 == some .eq) && (FloatKind.f32.format.order ci 0 == some .eq)) = false := by
      by_cases hc0 : C = 0
      · rw [wh_ne wD wh_zero (fun h => hz ⟨hc0, h⟩), Bool.and_false]
      · rw [wh_ne wC wh_zero hc0, Bool.false_and]
    have h0 : C * C + D * D ≠ 0 := by
      intro e
      have c1 : 0 ≤ C * C := by rcases Int.le_total 0 C with h | h; exact Int.mul_nonneg h h; exact Int.mul_nonneg_of_nonpos_of_nonpos h h
      have c2 : 0 ≤ D * D := by rcases Int.le_total 0 D with h | h; exact Int.mul_nonneg h h; exact Int.mul_nonneg_of_nonpos_of_nonpos h h
      have c3 : C * C = 0 := by omega
      have c4 : D * D = 0 := by omega
      exact hz ⟨by rcases Int.mul_eq_zero.1 c3 with h | h <;> exact h, by rcases Int.mul_eq_zero.1 c4 with h | h <;> exact h⟩
    clear hz
    go_wp2_with fail
    refine (quotW lpr lpi lcr lci wP wQ wC wD rfl rfl hA hB hC hD h0 _).mono ?_
    rintro e w' ⟨xr, xi, m8, rfl, wX2, wY2, lxr, lxi, rfl⟩
    have o8 := wh_eq wX2 wA rfl
    have o9 := wh_eq wY2 wB rfl
    clear h0
    go_wp2_with fail
    clear o8 o9 y3 wX2 wY2
  all_goals
    refine (scalW lar lai wA wB hA hB _).mono ?_
    rintro e w' ⟨sr, si, m9, rfl, wS, wT, lsr, lsi, rfl⟩
    have o10 := wh_eq wS wsre (by omega)
    have o11 := wh_eq wT wsim (by omega)
    go_wp2_with fail
    clear o10 o11 hca wS wT wsre wsim wP wQ wX wY wZ wP2 wQ2 wW wU wV wA wB wC wD bAC bBD bAD bBC bAA bBB i1 i2 i3 i4 i5 i6 hA hB hC hD
    have hA2 : ∀ w', Below w.heap.size w w' → Calls Tryz.prog 11 #[.slice a0 len0 cap0, .int .i64 0, .int .i64 9] w' (fun e w'' => ∃ v : Int, e = .returned (.int .i64 v) ∧ 0 ≤ v ∧ v < 9 ∧ w'' = w') := fun w' h => b10At_any _ a0 len0 cap0 0 9 w' (C0.out.below h (Nat.le_refl _)) (by omega) (by omega)
    refine (hA2 _ (below_then B2.out (below_drawn _ _))).mono ?_
    rintro e w3 ⟨v, rfl, hv0, hv1, hw3⟩
    have B3 : Hid (Below w.heap.size w w3) := Lib.hid (by rw [hw3]; exact below_then B2.out (below_drawn _ _))
    clear hw3 hA2 B2
    obtain ⟨n, rfl⟩ := Int.eq_ofNat_of_zero_le hv0
    go_wp2_with fail
    refine (b10Any_any _ a1 len1 cap1 n ((C1.out.below B3.out (Nat.le_refl _)).up B3.out.size) (by omega)).mono ?_
    rintro e w4 ⟨l, xa, xc, rfl, hl, hin, hr, hb⟩
    have B4 := Lib.hid (below_then B3.out hb)
    have R4 := Lib.hid hr
    have V4 := Lib.hid (V0.out.stays B4.out (Nat.le_refl _))
    have Hl := Lib.hid hl
    have Hin := Lib.hid hin
    clear hb hr B3 hl hin
    have hT := implCpx_any w4 V4.out.vars.tz _ _ _ _ R4.out Hin.out (by omega)
    have hok : cpxOk l = true := by unfold cpxOk; rw [Hl.out]; exact decide_eq_true (by omega)
    have hres : cpxRes l = ⟨(cpxTextOf l).toArray⟩ := by unfold cpxRes; rw [if_pos hok]
    have hback := readCList_back l (by rw [Hl.out]; omega) Hin.out
    have hsz : (cpxRes l).size ≤ 1048576 := by
      rw [hres]
      show (cpxTextOf l).toArray.size ≤ _
      have hj := cjoin_len l
      rw [Hl.out] at hj
      rw [List.size_toArray]
      unfold cpxTextOf
      split
      · simp
      · omega
    have hd : (cpxRes l).data.toList = cpxTextOf l := by rw [hres]
    have hI := fun w' (h : VarsN w') => implReadC (cpxRes l) hsz w' h
    have e1 : clistVal (cpxRes l).data.toList = l.map canonP := by unfold clistVal; rw [hd, hback]; rfl
    have e2 : clistGood (cpxRes l).data.toList = true := by unfold clistGood; rw [hd, hback]; rfl
    rw [e1, e2, List.length_map, Hl.out] at hI
    rw [hok] at hT
    clear hok hres hback hsz hd e1 e2
    generalize cpxRes l = s at hT hI
    go_wp2_with fail
    refine hT.mono ?_
    rintro e w5 ⟨rfl, hb⟩
    have B5 := Lib.hid (below_then B4.out hb)
    have R5 := Lib.hid (R4.out.stays hb (Nat.le_refl _))
    have V5 := Lib.hid (V4.out.stays hb (Nat.le_refl _))
    clear hb B4 R4 V4 hT
    go_wp2_with fail
    refine (hI _ V5.out).mono ?_
    rintro e w6 ⟨ra, rc, rfl, ho, hb⟩
    have B6 := Lib.hid (below_then B5.out hb)
    have R6 := Lib.hid (R5.out.stays hb (Nat.le_refl _))
    have Q6 := Lib.hid ho.reads
    rw [List.length_map, Hl.out] at Q6
    clear hb B5 R5 V5 ho hI
    go_wp2_with fail
    refine (b10Number_any _ a0 len0 cap0 ((C0.out.below B6.out (Nat.le_refl _)).up B6.out.size)).mono ?_
    rintro e w7 ⟨z, rfl, hz, hb⟩
    have B7 := Lib.hid (below_then B6.out hb)
    have R7 := Lib.hid (R6.out.stays hb (Nat.le_refl _))
    have Q7 := Lib.hid (Q6.out.stays hb (Nat.le_refl _))
    clear hb B6 R6 Q6
    go_wp2_with fail
    refine (bitsOf_any z hz _).mono ?_
    rintro e w' ⟨n3, rfl, rfl⟩
    go_wp2_with fail
    refine (fromBits_back z hz _).mono ?_
    rintro e w8 ⟨n4, rfl, hw8⟩
    have hb8 : Below w7.heap.size w7 w8 := by rw [hw8, World.drewN_drewN]; exact below_drawn _ _
    have B8 := Lib.hid (below_then B7.out hb8)
    have R8 := Lib.hid (R7.out.stays hb8 (Nat.le_refl _))
    have Q8 := Lib.hid (Q7.out.stays hb8 (Nat.le_refl _))
    clear hb8 hw8 B7 R7 Q7
    have hS1 := fun w' => same_any (canon z) z (bitsN_lt hz) hz w'
    rw [bitsV_canon] at hS1
    generalize canon z = cz at *
    go_wp2_with fail
    refine (b10Complex_any _ a0 len0 cap0 ((C0.out.below B8.out (Nat.le_refl _)).up B8.out.size)).mono ?_
    rintro e w9 ⟨re, im, rfl, lre, lim, hb⟩
    have B9 := Lib.hid (below_then B8.out hb)
    have R9 := Lib.hid (R8.out.stays hb (Nat.le_refl _))
    have Q9 := Lib.hid (Q8.out.stays hb (Nat.le_refl _))
    clear hb B8 R8 Q8
    have hcv1 := run_cv re
    have hcv2 := run_cv im
    have hn1 := narrow_widen re lre
    have hn2 := narrow_widen im lim
    have N1 := Lib.hid hn1
    have N2 := Lib.hid hn2
    clear hn1 hn2
    go_wp2_with fail
    refine (b10Same_any (w9.drewN (cvn re + cvn im)) _ _ _ _ _ l Q9.out R9.out Hin.out (by omega)).mono ?_
    rintro e w' ⟨n5, rfl, rfl⟩
    go_wp2_with fail
    refine (hS1 _).mono ?_
    rintro e w' ⟨n6, rfl, rfl⟩
    go_wp2_with fail
    refine (narrowCx _ _ (cvv_lt _ _) (cvv_lt _ _) (by rw [vl_cvv]; exact N1.out.2) (by rw [vl_cvv]; exact N2.out.2) _).mono ?_
    rintro e w' ⟨x, y, n7, rfl, hx, hy, lx, ly, rfl⟩
    rw [vl_cvv, N1.out.1] at hx
    rw [vl_cvv, N2.out.1] at hy
    have hS2 := fun w' => sameCxI_any x y re im lx ly lre lim hx hy w'
    clear hx hy
    go_wp2_with fail
    refine (hS2 _).mono ?_
    rintro e w' ⟨n8, rfl, rfl⟩
    go_wp2_with fail
    refine (conj_any re im _).mono ?_
    rintro e w' ⟨rfl, rfl⟩
    go_wp2_with fail
    refine (conj_any re (Op.negFloat .f32 im) _).mono ?_
    rintro e w' ⟨rfl, rfl⟩
    have hS3 := fun w' => sameCxI_any re (Op.negFloat .f32 (Op.negFloat .f32 im)) re im lre (by rw [negf_negf]; exact lim) lre lim rfl (by rw [negf_negf]) w'
    go_wp2_with fail
    refine (hS3 _).mono ?_
    rintro e w' ⟨n9, rfl, rfl⟩
    have hF1 := fun w' => finCx_any re im lre lim w'
    have hF2 := fun w' => finS_any re lre w'
    have hF3 := fun w' => finS_any im lim w'
    generalize fin .f32 (vl .f32 re) = fr at *
    generalize fin .f32 (vl .f32 im) = fi at *
    go_wp2_with fail
    refine (hF1 _).mono ?_
    rintro e w' ⟨n10, rfl, rfl⟩
    go_wp2_with fail
    refine (hF2 _).mono ?_
    rintro e w' ⟨n11, rfl, rfl⟩
    cases fr
    · go_wp2_with fail
      go_ret
      exact ⟨by simp, below_then B9.out (below_drawn _ _)⟩
    · go_wp2_with fail
      refine (hF3 _).mono ?_
      rintro e w' ⟨n12, rfl, rfl⟩
      go_wp2_with fail
      go_ret
      exact ⟨by simp, below_then B9.out (below_drawn _ _)⟩
end fnProducts
end Go.Proofs.YtcjkcoibeieeeaaGreatDoor
