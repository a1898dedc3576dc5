/-
  The least margin of two curves, in the reference. No theorem of a claim stands here.
-/
import Derived.Test.YthkjikennlaelaaCurG
set_option linter.unusedVariables false
set_option linter.unusedSimpArgs false
set_option maxRecDepth 8000
namespace Go.Proofs.Ythkjikennlaelaa
open Go Go.RowKit Go.Deep Go.Proofs.Ythkjikennlaelaa.Fl

theorem l00In100_any (n : Int) (w : World) : Calls Try.prog 52 #[.int .i64 n, .int .i64 1, .int .i64 100] w fun en w' => en = .returned (.bool (decide (1 ≤ n ∧ n ≤ 100))) ∧ w' = w := by
  go_enter Try.func52, Try.ntmps52
  go_wp2
  all_goals go_ret
  all_goals refine ⟨?_, rfl⟩
  all_goals simp
  all_goals omega
set_option maxHeartbeats 8000000 in
theorem l07Grade_any (K L : CK) (lo hi n : Nat) (w : World) (hK : K.rd w) (hL : L.rd w) (oK : okC K.C K.T = true) (oL : okC L.C L.T = true) (hn100 : n ≤ 100) (g h : Nat) (c0 : w.cell? ⟨g, 0, none⟩ = some (.slice K.a K.n K.c)) (c1 : w.cell? ⟨g, 1, none⟩ = some (.slice K.b K.m K.e)) (d0 : w.cell? ⟨h, 0, none⟩ = some (.slice L.a L.n L.c)) (d1 : w.cell? ⟨h, 1, none⟩ = some (.slice L.b L.m L.e)) :
    Calls Try.prog 53 #[.pointer (some ⟨g, 0, none⟩), .pointer (some ⟨h, 0, none⟩), .float .f32 lo, .float .f32 hi, .int .i64 n] w fun en w' => ∃ r, en = .returned (.tuple #[.float .f32 r, .bool (gradeL K L lo hi n (n + 1)).isSome]) ∧ r < 2 ^ 32 ∧ vl .f32 r = (gradeL K L lo hi n (n + 1)).getD (some 0) ∧ Below w.heap.size w w' := by
  have hadd := fun x y w => run_fov (P := Try.prog) .add rfl 28 .f32 x y w
  have hsub := fun x y w => run_fov (P := Try.prog) .sub rfl 28 .f32 x y w
  have hquo := fun x y w => run_fov (P := Try.prog) .quo rfl 28 .f32 x y w
  have hmul := fun x y w => run_fov (P := Try.prog) .mul rfl 28 .f32 x y w
  have HM := Lib.hid (fun (x : Nat) (w' : World) (hB : Below w.heap.size w w') => l07Margin_any K L x w' (hK.stays hB) (hL.stays hB) (okC_true oK) (okC_true oL) g h ((hB.cell (p := ⟨g, 0, none⟩) (World.block_lt_of_cell? w _ c0)).trans c0) ((hB.cell (p := ⟨g, 1, none⟩) (World.block_lt_of_cell? w _ c1)).trans c1) ((hB.cell (p := ⟨h, 0, none⟩) (World.block_lt_of_cell? w _ d0)).trans d0) ((hB.cell (p := ⟨h, 1, none⟩) (World.block_lt_of_cell? w _ d1)).trans d1))
  have Hmr := Lib.hid (fun x => show margF (timeF K.C K.T x) (timeF L.C L.T x) = marginR K L x by unfold marginR timeR; rw [oK, oL]; rfl)
  unfold MarginQ at HM
  clear hK hL oK oL c0 c1 d0 d1
  go_enter Try.func53, Try.ntmps53
  go_wp2_with fail
  go_loopw [12, 13, 14] (fun M F I wr => ∃ (k r : Nat), k ≤ n + 1 ∧ M = .float .f32 r ∧ F = .bool (gradeL K L lo hi n k).isSome ∧ I = .int .i64 k ∧ r < 2 ^ 32 ∧ Hid (vl .f32 r = (gradeL K L lo hi n k).getD (some 0)) ∧ Hid (Below w.heap.size w wr)) (fun _ _ I _ => n + 1 - (intOf I).toNat)
  case atStart => exact ⟨0, 0, Nat.zero_le _, rfl, rfl, rfl, by decide, Lib.hid (vl_zero _), Lib.hid (Below.refl _ _)⟩
  case round =>
    obtain ⟨k, r, hk, rfl, rfl, rfl, hr, Hv, Hw⟩ := hrel
    by_cases hlt : k < n + 1
    · have hlt' : (k : Int) ≤ (n : Int) := by omega
      have Hs := Lib.hid (show gradeL K L lo hi n (k + 1) = leastS (gradeL K L lo hi n k) (margV K L (curF lo hi k n)) from rfl)
      generalize gradeL K L lo hi n k = acc at *
      go_wp2_with fail
      refine (HM.out _ _ ?_).mono ?_
      · exact Hw.out.trans ((below_drawn wr _).mono Hw.out.size)
      rintro ee w9 ⟨p, rfl, hp, hpv, hb9⟩
      generalize hx : (fov BinOp.add FloatKind.f32 lo _ _) = x at *
      have hxv : vl .f32 x = curF lo hi k n := by rw [← hx]; simp only [vl_fov]; rfl
      have HW9 := Lib.hid (Hw.out.trans (((below_drawn wr _).trans hb9).mono Hw.out.size))
      have Hm := Lib.hid (show gradeL K L lo hi n (k + 1) = leastS acc (marginR K L x) by rw [Hs.out, ← hxv, margV_eq])
      have Hpv := Lib.hid (show ∀ v, marginR K L x = some v → vl .f32 p = v by rw [← Hmr.out x]; exact hpv)
      rw [Hmr.out x]
      clear hb9 hpv hx hxv Hs Hw HM hadd hsub hquo hmul
      generalize marginR K L x = mg at *
      cases mg with
      | none =>
        have q1 : (none : Option (Option Nat)).isSome = false := rfl
        have Hn := Lib.hid (show gradeL K L lo hi n (k + 1) = acc from Hm.out)
        go_wp2_with fail
        go_roundw
        case rel => exact ⟨k + 1, r, by omega, rfl, by first | (rw [Hn.out]; done) | (rw [Hn.out]; rfl), by go_num, hr, Lib.hid (by rw [Hn.out]; exact Hv.out), HW9⟩
        case measure => go_light; simp [intOf]; omega
      | some v =>
        have q1 : (some v : Option (Option Nat)).isSome = true := rfl
        have hpv := Hpv.out v rfl
        cases acc with
        | none =>
          have q2 : (none : Option (Option Nat)).isSome = false := rfl
          have Hn := Lib.hid (show gradeL K L lo hi n (k + 1) = some v from Hm.out)
          go_wp2_with fail
          go_roundw
          case rel => exact ⟨k + 1, p, by omega, rfl, by first | (rw [Hn.out]; done) | (rw [Hn.out]; rfl), by go_num, hp, Lib.hid (by rw [Hn.out]; exact hpv), HW9⟩
          case measure => go_light; simp [intOf]; omega
        | some u =>
          have q2 : (some u : Option (Option Nat)).isSome = true := rfl
          have Hord : Hid (FloatKind.f32.format.order p r = ford .f32 v u) := Lib.hid (by rw [order_vl, hpv, Hv.out]; rfl)
          cases hlt2 : (FloatKind.f32.format.order p r == some .lt)
          · have Hn := Lib.hid (show gradeL K L lo hi n (k + 1) = some u by rw [Hm.out]; unfold leastS; rw [Hord.out] at hlt2; simp only [hlt2]; rfl)
            go_wp2_with fail
            go_roundw
            case rel => exact ⟨k + 1, r, by omega, rfl, by first | (rw [Hn.out]; done) | (rw [Hn.out]; rfl), by go_num, hr, Lib.hid (by rw [Hn.out]; exact Hv.out), HW9⟩
            case measure => go_light; simp [intOf]; omega
          · have Hn := Lib.hid (show gradeL K L lo hi n (k + 1) = some v by rw [Hm.out]; unfold leastS; rw [Hord.out] at hlt2; simp only [hlt2]; rfl)
            go_wp2_with fail
            go_roundw
            case rel => exact ⟨k + 1, p, by omega, rfl, by first | (rw [Hn.out]; done) | (rw [Hn.out]; rfl), by go_num, hp, Lib.hid (by rw [Hn.out]; exact hpv), HW9⟩
            case measure => go_light; simp [intOf]; omega
    · obtain rfl : k = n + 1 := by omega
      have hle : ¬ ((n : Int) + 1 ≤ (n : Int)) := by omega
      go_wp2_with fail
      go_ret2
      exact ⟨r, rfl, hr, Hv.out, Hw.out⟩
set_option maxHeartbeats 8000000 in
theorem specGrade_any (K L : CK) (lo hi : Nat) (cnt : Int) (w : World) (hK : K.rd w) (hL : L.rd w) :
    Calls Try.prog 21 #[K.val, L.val, .float .f32 lo, .float .f32 hi, .int .i64 cnt] w (GradeP K L lo hi cnt w) := by
  have S0 := Lib.hid (C2.new w K L)
  have hA := fun (w' : World) (hB : Below w.heap.size w w') => l07Is_any K.a K.n K.c K.C K.b K.m K.e K.T w' (hK.stays hB).1 (hK.stays hB).2
  have hB := fun (w' : World) (hB : Below w.heap.size w w') => l07Is_any L.a L.n L.c L.C L.b L.m L.e L.T w' (hL.stays hB).1 (hL.stays hB).2
  have hG := fun (n : Nat) (hn : n ≤ 100) (w' : World) (hB : Below w.heap.size w w') (oK : okC K.C K.T = true) (oL : okC L.C L.T = true) => l07Grade_any K L lo hi n w' (hK.stays hB) (hL.stays hB) oK oL hn
  unfold RB7 at hA hB
  unfold CK.val GradeP
  have HA := Lib.hid hA
  have HB := Lib.hid hB
  have HG := Lib.hid hG
  clear hA hB hG hK hL
  have Hbad := Lib.hid (show (okC K.C K.T = false ∨ okC L.C L.T = false) → gradeR K L lo hi cnt = none from fun h => by
    have hm : ∀ v, margV K L v = none := fun v => by
      cases v with
      | none => rfl
      | some x =>
        show marginR K L x = none
        unfold marginR timeR
        rcases h with h | h
        · rw [h]; rfl
        · rw [h]; unfold margF; simp
    have hg : ∀ k, gradeL K L lo hi cnt k = none := fun k => by
      induction k with
      | zero => rfl
      | succ k ih =>
        show leastS (gradeL K L lo hi cnt k) (margV K L _) = none
        rw [ih, hm]; rfl
    unfold gradeR
    split
    · exact hg _
    · rfl)
  go_enter Try.func21, Try.ntmps21
  go_upto_region 1 with fail
  generalize ((w.alloc (.cells #[.slice K.a K.n K.c, .slice K.b K.m K.e] 26)).alloc (.cells #[.slice L.a L.n L.c, .slice L.b L.m L.e] 26)) = W at *
  obtain ⟨⟨c0, c1⟩, d0, d1⟩ := S0.out.cells
  go_wp2_with fail
  refine (HA.out _ S0.out.below _ c0 c1).mono ?_
  rintro en w1 ⟨rfl, hb1⟩
  have S1 := Lib.hid (S0.out.call hb1)
  clear hb1 S0 c0 c1 d0 d1 HA
  obtain ⟨⟨c0, c1⟩, d0, d1⟩ := S1.out.cells
  cases ok1 : okC K.C K.T
  · have He := Lib.hid (Hbad.out (.inl ok1))
    clear ok1
    go_wp2_with fail
    go_ret2
    exact ⟨0, by rw [He.out]; rfl, by decide, by rw [He.out]; exact vl_zero _, S1.out.below⟩
  · have O1 := Lib.hid ok1
    go_wp2_with fail
    refine (HB.out _ S1.out.below _ d0 d1).mono ?_
    rintro en w2 ⟨rfl, hb2⟩
    have S2 := Lib.hid (S1.out.call hb2)
    clear hb2 S1 c0 c1 d0 d1 HB ok1
    obtain ⟨⟨c0, c1⟩, d0, d1⟩ := S2.out.cells
    cases ok2 : okC L.C L.T
    · have He := Lib.hid (Hbad.out (.inr ok2))
      clear ok2
      go_wp2_with fail
      go_ret2
      exact ⟨0, by rw [He.out]; rfl, by decide, by rw [He.out]; exact vl_zero _, S2.out.below⟩
    · have O2 := Lib.hid ok2
      clear Hbad
      go_wp2_with (go_at_call 52; refine (l00In100_any _ _).mono ?_; rintro e w' ⟨rfl, hx⟩; obtain rfl := hx.symm; clear hx; by_cases hin : 1 ≤ cnt ∧ cnt ≤ 100)
      · have hd : decide (1 ≤ cnt ∧ cnt ≤ 100) = true := decide_eq_true hin
        have He := Lib.hid (show gradeR K L lo hi cnt = gradeL K L lo hi cnt (cnt.toNat + 1) by unfold gradeR; rw [if_pos hin])
        obtain ⟨n, rfl⟩ := Int.eq_ofNat_of_zero_le (show 0 ≤ cnt by omega)
        have hn : n ≤ 100 := by omega
        clear hd hin
        refine (HG.out n hn _ S2.out.below O1.out O2.out _ _ c0 c1 d0 d1).mono ?_
        rintro en w3 ⟨r, rfl, hr, hv, hb3⟩
        have S3 := Lib.hid (S2.out.call hb3)
        have Hv := Lib.hid hv
        have He := Lib.hid (show gradeR K L lo hi n = gradeL K L lo hi n (n + 1) from He.out)
        clear hb3 hv S2 c0 c1 d0 d1 HG
        generalize gradeL K L lo hi n (n + 1) = mm at *
        cases mm with
        | none =>
          have h1 : (none : Option (Option Nat)).isSome = false := rfl
          go_wp2_with fail
          go_ret2
          exact ⟨0, by rw [He.out]; rfl, by decide, by rw [He.out]; exact vl_zero _, S3.out.below⟩
        | some v =>
          have h1 : (some v : Option (Option Nat)).isSome = true := rfl
          go_wp2_with fail
          go_ret2
          exact ⟨r, by rw [He.out]; rfl, hr, by rw [He.out]; exact Hv.out, S3.out.below⟩
      · have hd : decide (1 ≤ cnt ∧ cnt ≤ 100) = false := decide_eq_false hin
        have He := Lib.hid (show gradeR K L lo hi cnt = none by unfold gradeR; rw [if_neg hin])
        clear hd hin
        go_ret2
        exact ⟨0, by rw [He.out]; rfl, by decide, by rw [He.out]; exact vl_zero _, S2.out.below⟩
end Go.Proofs.Ythkjikennlaelaa
