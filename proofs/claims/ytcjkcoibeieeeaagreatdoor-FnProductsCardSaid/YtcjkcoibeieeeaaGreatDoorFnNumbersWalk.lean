/-
  The walk of the law on numbers.
-/
import Derived.Test.YtcjkcoibeieeeaaGreatDoorB10
import Derived.Test.YtcjkcoibeieeeaaGreatDoorBytes
import Derived.Test.YtcjkcoibeieeeaaGreatDoorBack
import Derived.Test.YtcjkcoibeieeeaaGreatDoorNarrB
import Derived.Test.YtcjkcoibeieeeaaGreatDoorReadJ
import Derived.Test.YtcjkcoibeieeeaaGreatDoorFlush
import Derived.Test.YtcjkcoibeieeeaaGreatDoorSine
import Derived.Test.YtcjkcoibeieeeaaGreatDoorFnExactAngleTurnsWalk
import Derived.Test.YtcjkcoibeieeeaaGreatDoorFnExactFromBitsWalk
set_option linter.unusedVariables false
set_option linter.unusedSimpArgs false
set_option maxRecDepth 8000
namespace Go.Proofs.YtcjkcoibeieeeaaGreatDoor
open Go Go.RowKit Go.Deep Go.Proofs.YtcjkcoibeieeeaaGreatDoor.Fl

theorem sine_quarter : sineF 1048576000 = some 1065353216 := by kernel_rfl

theorem bitsV_canon (b : Nat) : (bitsV (vl .f32 (canon b)) == bitsV (vl .f32 b)) = true := by rw [vl_canon]; simp
theorem fromBits_back (x : Nat) (hx : x < 2 ^ 32) (w : World) : Calls Tryz.prog 7 #[.int .i64 (bitsV (vl .f32 x))] w (VRet (.tuple #[.float .f32 (canon x), .bool true]) w) := by
  have h := fnExactFromBits.impl_any (bitsV (vl .f32 x)) w
  have hlt := bitsN_lt hx
  rw [bitsV_eq] at h ⊢
  have e1 : fnExactFromBits.fromBits (bitsN (vl .f32 x) : Int) = canon x := by unfold fnExactFromBits.fromBits canon; rw [if_pos (by omega)]; simp
  have e2 : fnExactFromBits.fromBitsOk (bitsN (vl .f32 x) : Int) = true := by unfold fnExactFromBits.fromBitsOk; exact decide_eq_true (by omega)
  rwa [e1, e2] at h

theorem szero_rung (n : Bool) : rung .f32 (szero n) = 0 := by cases n <;> decide
theorem nan_rung {z : Nat} (h : vl .f32 z = none) : ¬ rung .f32 z < 8388608 := by
  intro hc
  have := fin_vl (k := .f32) (b := z) (by rw [inf32]; omega)
  rw [h] at this
  cases this
theorem flush_facts {b z : Nat} (hb : b < 2 ^ 32) (h : vl .f32 z = flushV b) : subB z = false ∧ (subB b == (bitsV (vl .f32 b) == bitsV (vl .f32 z))) = false := by
  by_cases c : rung .f32 b < 8388608
  · have h0 := h
    unfold flushV at h0
    rw [if_pos c] at h0
    have hz := vl_some h0
    refine ⟨subB_zero (by rw [hz]; exact szero_rung _), ?_⟩
    by_cases r0 : rung .f32 b = 0
    · rw [flush_zero hb r0] at h
      have e := vl_some h
      subst e
      rw [subB_zero r0]; simp
    · rw [subB_pos r0, decide_eq_true c]
      have hv := fin_vl (k := .f32) (b := b) (by rw [inf32]; omega)
      have hne : (bitsV (vl .f32 b) == bitsV (vl .f32 z)) = false := by
        rw [beq_eq_false_iff_ne, hv, h0, bitsV_eq, bitsV_eq]
        show ((b : Nat) : Int) ≠ ((szero (neg .f32 b) : Nat) : Int)
        intro e
        have e2 : b = szero (neg .f32 b) := by omega
        apply r0
        rw [e2]
        exact szero_rung _
      rw [hne]; rfl
  · have h0 := h
    unfold flushV at h0
    rw [if_neg c] at h0
    have hs : ∀ y, ¬ rung .f32 y < 8388608 → subB y = false := fun y hy => by
      unfold subB
      exact decide_eq_false (fun hh => hy hh.2)
    refine ⟨?_, ?_⟩
    · rcases vl_cases .f32 z with hz | hz
      · exact hs z (nan_rung hz)
      · rw [hz] at h0
        have e := vl_some h0.symm
        subst e
        exact hs _ c
    · rw [hs b c, h0]; simp

theorem angleOf_any (x y : Nat) (hx : x < 2 ^ 32) (hy : y < 2 ^ 32) (w : World) : Calls Tryz.prog 18 #[.complex .f32 x y] w (FRet .f32 (fnExactAngleTurns.angF y x) w) := by
  go_enter Tryz.func18, Tryz.ntmps18
  go_wp2_with fail
  refine (fnExactAngleTurns.impl_any y x hy hx _).mono ?_
  rintro e w' ⟨r, n, rfl, hr, lr, rfl⟩
  have Hr := Lib.hid hr
  clear hr
  go_wp2_with fail
  go_ret
  exact ⟨_, _, rfl, Hr.out, lr, rfl⟩

namespace fnNumbers
set_option maxHeartbeats 4000000 in
theorem walk (a0 a1 : Option Addr) (len0 cap0 len1 cap1 : Nat) (w : World) (w0 : Rd8 w a0 len0 cap0) (w1 : Rd8 w a1 len1 cap1) (hv : VarsN w) :
    Calls Tryz.prog 3 #[.slice a0 len0 cap0, .slice a1 len1 cap1] w fun e w' => e = .returned (.bool true) ∧ Below w.heap.size w w' := by
  have hL := b10Long_any a0 a1 len0 cap0 len1 cap1
  by_cases hlong : 1048576 < len0 ∨ 1048576 < len1
  · rw [decide_eq_true hlong] at hL
    clear w0 w1 hlong
    go_enter Tryz.func3, Tryz.ntmps3
    go_wp2_with (go_at_call 5; refine (hL _).mono ?_; rintro e w' ⟨rfl, rfl⟩)
    go_ret
    exact ⟨rfl, Below.refl _ _⟩
  rw [decide_eq_false hlong] at hL
  have C0 := Lib.hid (w0.bytes (by omega))
  have C1 := Lib.hid (w1.bytes (by omega))
  have V0 := Lib.hid hv
  clear w0 w1 hlong hv
  go_enter Tryz.func3, Tryz.ntmps3
  go_wp2_with fail
  refine (hL _).mono ?_
  rintro e w' ⟨rfl, rfl⟩
  clear hL
  go_wp2_with fail
  refine (b10Number_any _ _ _ _ C0.out).mono ?_
  rintro e w1 ⟨x, rfl, hx, hb⟩
  have B1 := Lib.hid hb
  have D1 := Lib.hid ((C1.out.below hb (Nat.le_refl _)).up hb.size)
  clear hb
  go_wp2_with fail
  refine (b10Number_any _ _ _ _ D1.out).mono ?_
  rintro e w2 ⟨y, rfl, hy, hb⟩
  have B2 := Lib.hid (below_then B1.out hb)
  clear hb D1 B1
  go_wp2_with fail
  refine (bitsOf_any x hx _).mono ?_
  rintro e w3 ⟨n3, rfl, hw⟩
  have B3 := Lib.hid (below_then B2.out (show Below w2.heap.size w2 w3 by rw [hw]; exact below_drawn _ _))
  clear hw B2
  go_wp2_with fail
  refine (fromBits_back x hx _).mono ?_
  rintro e w4 ⟨n4, rfl, hw⟩
  have B4 := Lib.hid (below_then B3.out (show Below w3.heap.size w3 w4 by rw [hw]; exact below_drawn _ _))
  clear hw B3
  have hS1 := fun w' => same_any (canon x) x (bitsN_lt hx) hx w'
  rw [bitsV_canon] at hS1
  generalize hcx : canon x = cx at *
  clear hcx
  go_wp2_with fail
  refine (flush_any x hx _).mono ?_
  rintro e w5 ⟨z, n5, rfl, hz, lz, hw⟩
  have B5 := Lib.hid (below_then B4.out (show Below w4.heap.size w4 w5 by rw [hw]; exact below_drawn _ _))
  clear hw B4
  obtain ⟨hz1, hz2⟩ := flush_facts hx hz
  have hI1 := fun w' => implSub_any z lz w'
  rw [hz1] at hI1
  have hI2 := fun w' => implSub_any x hx w'
  have hS2 := fun w' => same_any x z hx lz w'
  clear hz hz1
  generalize hp : subB x = p at *
  generalize hq : (bitsV (vl .f32 x) == bitsV (vl .f32 z)) = q at *
  clear hp hq
  have hA : Calls Tryz.prog 11 #[.slice a0 len0 cap0, .int .i64 0, .int .i64 12] w5 _ := b10At_any _ a0 len0 cap0 0 12 w5 (C0.out.below B5.out (Nat.le_refl _)) (by omega) (by omega)
  go_wp2_with fail
  refine hA.mono ?_
  rintro e w' ⟨v, rfl, hv0, hv1, rfl⟩
  clear hA
  obtain ⟨n, rfl⟩ := Int.eq_ofNat_of_zero_le hv0
  go_wp2_with fail
  refine (b10Numbers_any _ a1 len1 cap1 n ((C1.out.below B5.out (Nat.le_refl _)).up B5.out.size) (by omega)).mono ?_
  rintro e w6 ⟨l, xa, c, rfl, hl, hr, hb⟩
  have B6 := Lib.hid (below_then B5.out hb)
  have R6 := Lib.hid hr
  have V6 := Lib.hid (V0.out.stays B6.out (Nat.le_refl _))
  clear hb hr B5 hv0
  have hn : n ≤ 64 := by omega
  have hadd := fun x y w => run_fov (P := Tryz.prog) .add rfl 24 .f32 x y w
  go_wp2_with fail
  go_loopw [11, 41] (fun S I wr => ∃ (k r m : Nat), k ≤ n ∧ S = .float .f32 r ∧ I = .int .i64 k ∧ r < 2 ^ 32 ∧ Hid (vl .f32 r = fsum (l.take k)) ∧ wr = w6.drewN m) (fun _ I _ => n - (intOf I).toNat)
  case atStart => exact ⟨0, 0, 0, Nat.zero_le _, rfl, rfl, by decide, by show vl .f32 0 = _; rw [vl_zero]; rfl, rfl⟩
  case round =>
    obtain ⟨k, r, m, hk, rfl, rfl, hr, Hv, rfl⟩ := hrel
    by_cases hlt : k < n
    · obtain ⟨b, o, rfl, c1, _⟩ := R6.out.2.2.1 k hlt
      have hcap := R6.out.2.1
      have Hs := Lib.hid (fsum_snoc (l := l) (k := k) (by omega))
      generalize l.getD k 0 = v at c1 Hs
      clear hl
      go_wp2_with fail
      go_roundw
      case rel => exact ⟨k + 1, _, _, by omega, rfl, by go_num, fov_lt _ _ _ _ _, by show vl .f32 _ = _; rw [vl_fov, Hv.out, Hs.out], rfl⟩
      case measure => simp [intOf]; omega
    · obtain rfl : k = n := by omega
      have Hv2 : Hid (vl .f32 r = fsum l) := by
        have := Hv.out; rw [List.take_of_length_le (Nat.le_of_eq hl)] at this; exact this
      clear Hv
      obtain ⟨w7, hw7⟩ : ∃ w7, w7 = w6.drewN m := ⟨_, rfl⟩
      have hb7 : Below w6.heap.size w6 w7 := by rw [hw7]; exact below_drawn _ _
      have B7 := Lib.hid (below_then B6.out hb7)
      have R7 := Lib.hid (R6.out.stays hb7 (Nat.le_refl _))
      have V7 := Lib.hid (V6.out.stays hb7 (Nat.le_refl _))
      clear hb7
      rw [← hw7]
      clear hw7 B6 V6 R6
      have Hl := Lib.hid hl
      clear hl
      go_wp2_with fail
      refine (sum_rd _ _ _ _ _ R7.out (by omega)).mono ?_
      rintro e w8 ⟨g, m8, rfl, hg, lg, hw⟩
      have hS3 := fun w' => same_any g r lg hr w'
      rw [show (bitsV (vl .f32 g) == bitsV (vl .f32 r)) = true by rw [hg, Hv2.out]; simp] at hS3
      have hb8 : Below w7.heap.size w7 w8 := by rw [hw]; exact below_drawn _ _
      have B8 := Lib.hid (below_then B7.out hb8)
      have R8 := Lib.hid (R7.out.stays hb8 (Nat.le_refl _))
      have V8 := Lib.hid (V7.out.stays hb8 (Nat.le_refl _))
      clear hb8 hw B7 R7 V7 hg Hv2
      have hT := implNums_any w8 V8.out.vars.tz _ _ _ _ R8.out (by omega)
      have hok : numOk l = true := by unfold numOk; rw [Hl.out]; exact decide_eq_true (by omega)
      have hres : numRes l = ⟨(numTextOf l).toArray⟩ := by unfold numRes; rw [if_pos hok]
      have hback := readNList_back l (by rw [Hl.out]; omega) R8.out.2.2.2
      have hsz : (numRes l).size ≤ 1048576 := by
        rw [hres]
        show (numTextOf l).toArray.size ≤ _
        have hj := njoin_len l
        rw [Hl.out] at hj
        rw [List.size_toArray]
        unfold numTextOf
        split
        · simp
        · omega
      have hd : (numRes l).data.toList = numTextOf l := by rw [hres]
      have hI := fun w' (h : VarsN w') => implReadN (numRes l) hsz w' h
      have e1 : nlistVal (numRes l).data.toList = l.map canon := by unfold nlistVal; rw [hd, hback]; rfl
      have e2 : nlistGood (numRes l).data.toList = true := by unfold nlistGood; rw [hd, hback]; rfl
      rw [e1, e2, List.length_map, Hl.out] at hI
      rw [hok] at hT
      clear hok hres hback hsz hd e1 e2
      generalize numRes l = s at hT hI
      go_wp2_with fail
      refine hT.mono ?_
      rintro e w9 ⟨rfl, hb⟩
      have B9 := Lib.hid (below_then B8.out hb)
      have R9 := Lib.hid (R8.out.stays hb (Nat.le_refl _))
      have V9 := Lib.hid (V8.out.stays hb (Nat.le_refl _))
      clear hb B8 R8 V8 hT
      go_wp2_with fail
      refine (hI _ V9.out).mono ?_
      rintro e w10 ⟨ra, rc, rfl, ho, hb⟩
      have B10 := Lib.hid (below_then B9.out hb)
      have R10 := Lib.hid (R9.out.stays hb (Nat.le_refl _))
      have Q10 := Lib.hid (ho.reads (fun q hq => by obtain ⟨u, hu, rfl⟩ := List.mem_map.1 hq; exact bitsN_lt (R9.out.2.2.2 u hu)))
      rw [List.length_map, Hl.out] at Q10
      clear hb B9 R9 V9 ho hI
      have hne : (((k : Nat) : Int) != ((k : Nat) : Int)) = false := by simp
      go_wp2_with fail
      refine (hS1 _).mono ?_
      rintro e w' ⟨m1, rfl, rfl⟩
      go_wp2_with fail
      refine (hI1 _).mono ?_
      rintro e w' ⟨m2, rfl, rfl⟩
      go_wp2_with fail
      refine (hI2 _).mono ?_
      rintro e w' ⟨m3, rfl, rfl⟩
      go_wp2_with fail
      refine (hS2 _).mono ?_
      rintro e w' ⟨m4, rfl, rfl⟩
      go_wp2_with fail
      refine (hS3 _).mono ?_
      rintro e w' ⟨m5, rfl, rfl⟩
      go_wp2_with fail
      go_loopw [113] (fun I wr => ∃ (j m : Nat), j ≤ k ∧ I = .int .i64 j ∧ wr = w10.drewN m) (fun I _ => k - (intOf I).toNat)
      case atStart => exact ⟨0, _, Nat.zero_le _, rfl, rfl⟩
      case round =>
        obtain ⟨j, m, hj, rfl, rfl⟩ := hrel
        by_cases hlt2 : j < k
        · obtain ⟨b1, o1, rfl, c1, hbs1⟩ := Q10.out.2.2.1 j hlt2
          obtain ⟨b2, o2, rfl, c2, hbs2⟩ := R10.out.2.2.1 j hlt2
          have hc1 := Q10.out.2.1
          have hc2 := R10.out.2.1
          have hbd := R10.out.bound hlt2
          have em : (l.map canon).getD j 0 = canon (l.getD j 0) := by
            have hlj : j < l.length := by rw [Hl.out]; exact hlt2
            simp [List.getD, hlj]
          rw [em] at c1
          have hS5 := fun w' => same_any (canon (l.getD j 0)) (l.getD j 0) (bitsN_lt hbd) hbd w'
          rw [bitsV_canon] at hS5
          generalize l.getD j 0 = v at c1 c2 hS5
          generalize canon v = u at c1 hS5
          clear em hbd
          go_wp2_with fail
          go_region_with (go_at_call 15; refine (hS5 _).mono ?_; rintro e w' ⟨m9, rfl, rfl⟩)
          all_goals go_wp2_with fail
          all_goals (go_roundw; (case rel => exact ⟨j + 1, _, by omega, by go_num, rfl⟩); (case measure => simp [intOf]; omega))
        · obtain rfl : j = k := by omega
          have hA1 := fun w' => fnExactAngleTurns.impl_any y x hy hx w'
          have hA2 := fun w' => angleOf_any x y hx hy w'
          have hcv := run_cv x
          have hnar := narrow_widen x hx
          go_wp2_with fail
          refine (hA1 _).mono ?_
          rintro e w' ⟨g1, q1, rfl, hg1, lg1, rfl⟩
          go_wp2_with fail
          refine (hA2 _).mono ?_
          rintro e w' ⟨g2, q2, rfl, hg2, lg2, rfl⟩
          have hS6 := fun w' => same_any g1 g2 lg1 lg2 w'
          rw [show (bitsV (vl .f32 g1) == bitsV (vl .f32 g2)) = true by rw [hg1, hg2]; simp] at hS6
          clear hg1 hg2
          go_wp2_with fail
          refine (hS6 _).mono ?_
          rintro e w' ⟨q3, rfl, rfl⟩
          go_wp2_with fail
          refine (narrow_any _ (cvv_lt _ _) (by rw [vl_cvv]; exact hnar.2) _).mono ?_
          rintro e w' ⟨g3, q4, rfl, hg3, lg3, rfl⟩
          rw [vl_cvv, hnar.1] at hg3
          have hS7 := fun w' => same_any g3 x lg3 hx w'
          rw [show (bitsV (vl .f32 g3) == bitsV (vl .f32 x)) = true by rw [hg3]; simp] at hS7
          clear hg3
          go_wp2_with fail
          refine (hS7 _).mono ?_
          rintro e w' ⟨q5, rfl, rfl⟩
          go_wp2_with fail
          refine (sineTurns_any 1048576000 (by decide) _).mono ?_
          rintro e w' ⟨g4, q6, rfl, hg4, lg4, rfl⟩
          rw [sine_quarter] at hg4
          obtain rfl := vl_some hg4
          have ho : (FloatKind.f32.format.order 1065353216 1065353216 == some .eq) = true := by decide
          clear hg4
          go_wp2_with fail
          go_ret
          exact ⟨rfl, below_then B10.out (below_drawn _ _)⟩
end fnNumbers
end Go.Proofs.YtcjkcoibeieeeaaGreatDoor
