/-
  The walk of the law on grades.
-/
import Derived.Test.YthkjikennlaelaaCurN
import Derived.Test.YthkjikennlaelaaCurI
set_option linter.unusedVariables false
set_option linter.unusedSimpArgs false
set_option maxRecDepth 8000
namespace Go.Proofs.Ythkjikennlaelaa.fnExactGradeOf
open Go Go.RowKit Go.Deep Go.Proofs.Ythkjikennlaelaa.Fl Go.Proofs.Ythkjikennlaelaa

set_option maxHeartbeats 8000000 in
theorem walkK (K L : CK) (lo hi : Nat) (k : Int) (w : World) (hK : K.rd w) (hL : L.rd w) (n1 : K.n ≤ 9223372036854775807) (m1 : K.m ≤ 9223372036854775807) (n2 : L.n ≤ 9223372036854775807) (m2 : L.m ≤ 9223372036854775807) (l1 : lo < 2 ^ 32) (l2 : hi < 2 ^ 32) (l3 : (Lit.int .i64 k).wf = true) :
    Calls Try.prog 10 #[.agg #[.slice K.a K.n K.c, .slice K.b K.m K.e], .agg #[.slice L.a L.n L.c, .slice L.b L.m L.e], .float .f32 lo, .float .f32 hi, .int .i64 k] w fun en w' => en = .returned (.bool true) ∧ Below w.heap.size w w' := by
  have S0 := Lib.hid (D2.new w K L)
  have hZ := fun w : World => szC_any K.a K.n K.c K.b K.m K.e 1048576 w n1 m1 ⟨by omega, by omega⟩
  have HY := Lib.hid (fun (left : Int) (hl : 0 ≤ left ∧ left ≤ 1048576) (w : World) => szC_any L.a L.n L.c L.b L.m L.e left w n2 m2 hl)
  unfold RB7 CV at hZ HY
  have HTK := Lib.hid (copyK K hK)
  have HTL := Lib.hid (copyK L hL)
  have hcv := run_cv
  go_enter Try.func10, Try.ntmps10
  go_upto_region 2 with fail
  generalize ((w.alloc (.cells #[.slice K.a K.n K.c, .slice K.b K.m K.e] 45)).alloc (.cells #[.slice L.a L.n L.c, .slice L.b L.m L.e] 45)) = W at *
  obtain ⟨⟨q0, q1⟩, q2, q3⟩ := S0.out.cells
  go_wp2_with fail
  refine (hZ _).mono ?_
  rintro en w1 ⟨rfl, hb1⟩
  have S1 := Lib.hid (S0.out.call hb1)
  clear hb1 S0 q0 q1 q2 q3 hZ
  by_cases hz : szI K.n K.m 1048576 < 0
  · go_wp2_with fail
    go_ret
    exact ⟨rfl, S1.out.below⟩
  obtain ⟨hs, hs2⟩ := szI_pos hz
  rw [hs2] at hz ⊢
  obtain ⟨⟨q0, q1⟩, q2, q3⟩ := S1.out.cells
  go_wp2_with fail
  refine (HY.out _ ⟨by omega, by omega⟩ _).mono ?_
  rintro en w2 ⟨rfl, hb2⟩
  have S2 := Lib.hid (S1.out.call hb2)
  clear hb2 S1 q0 q1 q2 q3
  by_cases hz2 : szI L.n L.m (1048576 - K.n - K.m) < 0
  · go_wp2_with fail
    go_ret
    exact ⟨rfl, S2.out.below⟩
  obtain ⟨hs3, _⟩ := szI_pos hz2
  have Hn := Lib.hid (show (K.n ≤ 1048576 ∧ K.m ≤ 1048576) ∧ L.n ≤ 1048576 ∧ L.m ≤ 1048576 by omega)
  have HTK := Lib.hid (HTK.out Hn.out.1.1 Hn.out.1.2)
  have HTL := Lib.hid (HTL.out Hn.out.2.1 Hn.out.2.2)
  clear hs hs2 hz hs3 HY
  go_upto_region 8 with fail
  obtain ⟨⟨q0, q1⟩, q2, q3⟩ := S2.out.cells
  go_cut [12, 13] from 28 (fun s12 s13 wx => ∃ r, s12 = .float .f32 r ∧ s13 = .bool (gradeR K L lo hi k).isSome ∧ Hid (vl .f32 r = (gradeR K L lo hi k).getD (some 0)) ∧ Hid (D2 w wx K L))
  case first =>
    clear hz2
    go_region_with (first
      | (go_at_call_of 29 (Value.slice K.a K.n K.c)
         refine (HTK.out _ (S2.out.drew 1).below).mono ?_
         rintro en w6 ⟨g6, rfl, hg6, hr6, hb6⟩
         have S6 := Lib.hid ((S2.out.drew 1).call hb6)
         have R6 := Lib.hid hr6
         obtain ⟨_, p2, p3⟩ := S6.out.cells
         clear hb6 hr6 hg6)
      | (go_at_call_of 29 (Value.slice L.a L.n L.c)
         refine (HTL.out _ S6.out.below).mono ?_
         rintro en w7 ⟨g7, rfl, hg7, hr7, hb7⟩
         have S7 := Lib.hid (S6.out.call hb7)
         have R67 := Lib.hid (R6.out.stays hb7)
         have R7 := Lib.hid hr7
         clear hb7 hr7 hg7)
      | (go_at_call 21
         refine (show Calls Try.prog _ _ _ _ from specGradeCp K L g6 g7 lo hi k w7 R67.out R7.out).mono ?_
         rintro en w8 ⟨r, rfl, hr, hv, hb9⟩
         have S8 := Lib.hid (S7.out.call hb9)
         clear hb9))
    all_goals go_wp2_with fail
    all_goals go_meet
    all_goals exact ⟨r, rfl, rfl, Lib.hid hv, S8⟩
  case rest =>
  obtain ⟨r, rfl, rfl, Hv, T0⟩ := hcut
  clear S2 q0 q1 q2 q3
  generalize wc = w3 at *
  obtain ⟨⟨q0, q1⟩, q2, q3⟩ := T0.out.cells
  go_wp2_with fail
  refine (HTK.out _ T0.out.below).mono ?_
  rintro en w4 ⟨g8, rfl, hg8, hr8, hb8⟩
  have T1 := Lib.hid (T0.out.call hb8)
  have R8 := Lib.hid hr8
  clear hb8 hr8 hg8 T0 q0 q1 q2 q3
  go_upto_region 10 with fail
  have aw := (Below.refl w4.heap.size w4).alloc (Nat.le_refl _) (.cells #[.slice (some ⟨g8, 0, none⟩) K.n K.n, .slice (some ⟨g8 + 1, 0, none⟩) K.m K.m] 26)
  have T2 := Lib.hid (T1.out.call aw)
  have R82 := Lib.hid (R8.out.stays aw)
  have N2 := Lib.hid (show RL (w4.alloc (.cells #[.slice (some ⟨g8, 0, none⟩) K.n K.n, .slice (some ⟨g8 + 1, 0, none⟩) K.m K.m] 26)) w4.heap.size 26 [.slice (some ⟨g8, 0, none⟩) K.n K.n, .slice (some ⟨g8 + 1, 0, none⟩) K.m K.m] from RL.new w4 _ _)
  clear T1 R8 aw
  generalize hG : w4.heap.size = pp at *
  generalize (w4.alloc (.cells #[.slice (some ⟨g8, 0, none⟩) K.n K.n, .slice (some ⟨g8 + 1, 0, none⟩) K.m K.m] 26)) = w5 at *
  obtain ⟨⟨q0, q1⟩, q2, q3⟩ := T2.out.cells
  go_wp2_with fail
  refine (HTL.out _ T2.out.below).mono ?_
  rintro en w6 ⟨g9, rfl, hg9, hr9, hb9⟩
  have T3 := Lib.hid (T2.out.call hb9)
  have R83 := Lib.hid (R82.out.stays hb9)
  have N3 := Lib.hid (N2.out.below hb9 N2.out.lt)
  have R9 := Lib.hid hr9
  clear hb9 hr9 hg9 T2 R82 N2 q0 q1 q2 q3
  go_upto_region 11 with fail
  have aw := (Below.refl w6.heap.size w6).alloc (Nat.le_refl _) (.cells #[.slice (some ⟨g9, 0, none⟩) L.n L.n, .slice (some ⟨g9 + 1, 0, none⟩) L.m L.m] 26)
  have E0 := Lib.hid (show E2 w (w6.alloc (.cells #[.slice (some ⟨g9, 0, none⟩) L.n L.n, .slice (some ⟨g9 + 1, 0, none⟩) L.m L.m] 26)) K L pp w6.heap.size g8 g9 from ⟨T3.out.call aw, N3.out.below aw N3.out.lt, RL.new w6 _ _, R83.out.stays aw, R9.out.stays aw⟩)
  clear T3 R83 N3 R9 aw
  generalize hH : w6.heap.size = pq at *
  generalize (w6.alloc (.cells #[.slice (some ⟨g9, 0, none⟩) L.n L.n, .slice (some ⟨g9 + 1, 0, none⟩) L.m L.m] 26)) = w7 at *
  obtain ⟨⟨n0, n1⟩, n2, n3⟩ := E0.out.cells
  have hI := implGradeCp K L g8 g9 lo hi k w7 E0.out.rk E0.out.rl l1 l2
  unfold GradeP at hI
  unfold CK.val CK.cp at hI
  dsimp only at hI
  go_wp2_with fail
  refine (show Calls Try.prog _ _ _ _ from hI).mono ?_
  rintro en w8 ⟨r8, rfl, hr8, hv8, hb8⟩
  have E1 := Lib.hid (E0.out.call hb8)
  have HV8 := Lib.hid (show vl .f32 r8 = (gradeR K L lo hi k).getD (some 0) from hv8)
  clear hb8 hv8 hI E0 n0 n1 n2 n3
  have hrr : ((gradeR K L lo hi k).isSome != (gradeR K L lo hi k).isSome) = false := by simp
  go_wp2_with (go_at_call 33; refine (sameFloat_any _ _ (by rw [vl_cvv, vl_cvv, HV8.out, Hv.out]) _).mono ?_; rintro ee w' ⟨m8, rfl, rfl⟩)
  have E2' := Lib.hid (E1.out.drew (cvn r8 + cvn r + m8))
  clear E1 HV8 Hv hcv hrr
  generalize w8.drewN (cvn r8 + cvn r + m8) = w9 at *
  go_wp2_with fail
  obtain ⟨⟨n0, n1⟩, n2, n3⟩ := E2'.out.cells
  obtain ⟨⟨q0, q1⟩, q2, q3⟩ := E2'.out.d.cells
  go_cut [67] from 63 (fun s67 wx => s67 = .bool false ∧ Hid (E2 w wx K L pp pq g8 g9))
  case first =>
    go_region_with (first
      | (go_at_call 29
         refine (HTK.out _ (E2'.out.drew 1).d.below).mono ?_
         rintro en x7 ⟨gx, rfl, hgx, hrx, hbx⟩
         have F7 := Lib.hid ((E2'.out.drew 1).call hbx)
         have X7 := Lib.hid hrx
         obtain ⟨⟨o0, o1⟩, o2, o3⟩ := F7.out.cells
         clear hbx hrx hgx)
      | (go_at_call 30
         refine (show Calls Try.prog _ _ _ _ from eqK K g8 gx F7.out.rk X7.out Hn.out.1.1 Hn.out.1.2).mono ?_
         rintro en x8 ⟨rfl, hbx⟩
         have F8 := Lib.hid (F7.out.call hbx)
         clear hbx))
    all_goals go_wp2_with fail
    all_goals go_meet
    all_goals exact ⟨rfl, F8⟩
  case rest =>
  obtain ⟨rfl, E3⟩ := hcut
  clear E2' n0 n1 n2 n3 q0 q1 q2 q3
  generalize wc = w10 at *
  go_wp2_with fail
  go_wp2_with fail
  obtain ⟨⟨n0, n1⟩, n2, n3⟩ := E3.out.cells
  obtain ⟨⟨q0, q1⟩, q2, q3⟩ := E3.out.d.cells
  go_cut [72] from 68 (fun s72 wx => s72 = .bool false ∧ Hid (E2 w wx K L pp pq g8 g9))
  case first =>
    go_region_with (first
      | (go_at_call 29
         refine (HTL.out _ (E3.out.drew 1).d.below).mono ?_
         rintro en x7 ⟨gx, rfl, hgx, hrx, hbx⟩
         have F7 := Lib.hid ((E3.out.drew 1).call hbx)
         have X7 := Lib.hid hrx
         obtain ⟨⟨o0, o1⟩, o2, o3⟩ := F7.out.cells
         clear hbx hrx hgx)
      | (go_at_call 30
         refine (show Calls Try.prog _ _ _ _ from eqK L g9 gx F7.out.rl X7.out Hn.out.2.1 Hn.out.2.2).mono ?_
         rintro en x8 ⟨rfl, hbx⟩
         have F8 := Lib.hid (F7.out.call hbx)
         clear hbx))
    all_goals go_wp2_with fail
    all_goals go_meet
    all_goals exact ⟨rfl, F8⟩
  case rest =>
  obtain ⟨rfl, E4⟩ := hcut
  go_wp2_with fail
  go_ret
  exact ⟨rfl, E4.out.d.below⟩
theorem walk (a : Option Addr) (n c : Nat) (C : List Nat) (b : Option Addr) (m e : Nat) (T : List Nat) (a' : Option Addr) (n' c' : Nat) (C' : List Nat) (b' : Option Addr) (m' e' : Nat) (T' : List Nat) (lo hi : Nat) (k : Int) (w : World) (ha : FRd w a n c C) (hb : FRd w b m e T) (hn : n ≤ 9223372036854775807) (hm : m ≤ 9223372036854775807) (ha' : FRd w a' n' c' C') (hb' : FRd w b' m' e' T') (hn' : n' ≤ 9223372036854775807) (hm' : m' ≤ 9223372036854775807) (l1 : lo < 2 ^ 32) (l2 : hi < 2 ^ 32) (l3 : (Lit.int .i64 k).wf = true) :
    Calls Try.prog 10 #[.agg #[.slice a n c, .slice b m e], .agg #[.slice a' n' c', .slice b' m' e'], .float .f32 lo, .float .f32 hi, .int .i64 k] w fun en w' => en = .returned (.bool true) ∧ Below w.heap.size w w' :=
  walkK ⟨a, n, c, C, b, m, e, T⟩ ⟨a', n', c', C', b', m', e', T'⟩ lo hi k w ⟨ha, hb⟩ ⟨ha', hb'⟩ hn hm hn' hm' l1 l2 l3
end Go.Proofs.Ythkjikennlaelaa.fnExactGradeOf
