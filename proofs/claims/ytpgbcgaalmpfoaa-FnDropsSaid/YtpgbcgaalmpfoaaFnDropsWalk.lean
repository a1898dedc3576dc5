/-
  The walk of the law on drops.
-/
import Derived.Test.YtpgbcgaalmpfoaaTakeD
import Derived.Test.YtpgbcgaalmpfoaaFree
import Derived.Test.YtpgbcgaalmpfoaaR8
import Derived.Test.YtpgbcgaalmpfoaaBytes
set_option linter.unusedVariables false
set_option linter.unusedSimpArgs false
set_option maxRecDepth 8000
namespace Go.Proofs.Ytpgbcgaalmpfoaa
open Go Go.RowKit Go.Deep Go.Proofs.Ytpgbcgaalmpfoaa.Fl

/-- The cells of phases. -/
def PC (s : Nat → Nat) : List Value := [.complex .f32 (s 0) (s 1), .complex .f32 (s 2) (s 3), .complex .f32 (s 4) (s 5)]
/-- Where the law stands: what was there ahead of it, the bus, two currents. -/
def DSt (W w : World) (b i j : Nat) (B : List Value) (x y : Nat → Nat) : Prop :=
  Below W.heap.size W w ∧ RL w b 70 B ∧ RL w i 37 (PC x) ∧ RL w j 37 (PC y)
theorem DSt.step {W w w' : World} {b i j : Nat} {B : List Value} {x y : Nat → Nat} (h : DSt W w b i j B x y) (hb : Below w.heap.size w w') : DSt W w' b i j B x y :=
  ⟨h.1.trans (hb.mono h.1.size), h.2.1.below hb h.2.1.lt, h.2.2.1.below hb h.2.2.1.lt, h.2.2.2.below hb h.2.2.2.lt⟩

theorem equal_c (a b c d : Nat) (w : World) : (Op.equalIn 9999 25 (.complex .f32 a b) (.complex .f32 c d)).run Try.prog w = .ok (Op.floatEq .f32 a c && Op.floatEq .f32 b d) w := by
  have h : ∀ n, (Op.equalIn (n + 1) 25 (.complex .f32 a b) (.complex .f32 c d)).run Try.prog w = .ok (Op.floatEq .f32 a c && Op.floatEq .f32 b d) w := fun n => by
    simp [Op.equalIn, run_underlying Try.underlying25]
  exact h 9998
set_option maxRecDepth 100000 in
set_option maxHeartbeats 8000000 in
theorem walk (a0 : Option Addr) (len0 cap0 : Nat) (a1 : Option Addr) (len1 cap1 : Nat) (W : World) (h0 : Rd8 W a0 len0 cap0) (h1 : Rd8 W a1 len1 cap1) : Calls Try.prog 7 #[.slice a0 len0 cap0, .slice a1 len1 cap1] W fun e w' => e = .returned (.bool true) ∧ Below W.heap.size W w' := by
  have hL := r8Long_any a0 a1 len0 cap0 len1 cap1 W
  have hst := fun (a : Addr) (x y : Nat) (m : Mode) (w : World) => run_store Try.prog w a (.complex .f32 x y) m rfl
  by_cases hlong : 48 < len0 ∨ 48 < len1
  · rw [decide_eq_true hlong] at hL
    go_enter Try.func7, Try.ntmps7
    go_wp2_with fail
    refine hL.mono ?_
    rintro e w1 ⟨rfl, rfl⟩
    go_wp2_with fail
    go_ret
    exact ⟨rfl, Below.refl _ _⟩
  · rw [decide_eq_false hlong] at hL
    have B0 := Lib.hid (h0.bytes (by omega))
    have B1 := Lib.hid (h1.bytes (by omega))
    clear h0 h1
    go_enter Try.func7, Try.ntmps7
    go_wp2_with fail
    refine hL.mono ?_
    rintro e w1 ⟨rfl, hw1⟩
    have hw2 := hw1.symm
    subst hw2
    go_wp2_with fail
    refine (r8number_any W.heap.size a0 len0 cap0 0 W B0.out (by omega)).mono ?_
    rintro e w2 ⟨c0, hc0, rfl, hw2⟩
    have hw3 := hw2.symm
    subst hw3
    go_wp2_with fail
    refine (r8number_any W.heap.size a0 len0 cap0 1 W B0.out (by omega)).mono ?_
    rintro e w3 ⟨c1, hc1, rfl, hw2⟩
    have hw3 := hw2.symm
    subst hw3
    go_wp2_with fail
    refine (r8At_any W.heap.size a0 len0 cap0 2 3 W B0.out (by omega) (by omega)).mono ?_
    rintro e w4 ⟨kind, rfl, hk0, hk3, hw2⟩
    have hw3 := hw2.symm
    subst hw3
    go_wp2_with fail
    refine (r8phases_any W.heap.size a0 len0 cap0 3 W B0.out (Nat.le_refl _) (by omega)).mono ?_
    rintro e w5 ⟨l0, l1, l2, hl0, hl1, hl2, rfl, hb⟩
    have Hb := Lib.hid hb
    clear hb
    unfold PV
    go_wp2_with fail
    have T5 := RL.new w5 (BL 0 (r8re c0) (r8im c0) (r8re c1) (r8im c1) kind (r8P l0 l1 l2) 0) 70
    have A5 := bel_then Hb.out (bel_alloc w5 (.cells (BL 0 (r8re c0) (r8im c0) (r8re c1) (r8im c1) kind (r8P l0 l1 l2) 0).toArray 70))
    generalize hB : BL 0 (r8re c0) (r8im c0) (r8re c1) (r8im c1) kind (r8P l0 l1 l2) 0 = B at *
    have hBl := hB
    unfold BL at hBl
    rw [show (#[.int .i64 0, .complex .f32 (r8re c0) (r8im c0), .complex .f32 (r8re c1) (r8im c1), .int .i64 kind, .complex .f32 (r8P l0 l1 l2 0) (r8P l0 l1 l2 1), .complex .f32 (r8P l0 l1 l2 2) (r8P l0 l1 l2 3), .complex .f32 (r8P l0 l1 l2 4) (r8P l0 l1 l2 5), .int .i64 0] : Array Value) = B.toArray by rw [← hBl]]
    have HT := Lib.hid (And.intro A5 T5)
    clear A5 T5 Hb
    generalize (w5.alloc (.cells B.toArray 70)) = w6 at *
    generalize w5.heap.size = tb at *
    refine (r8phases_any W.heap.size a1 len1 cap1 0 w6 (B1.out.stay2 HT.out.1 (Nat.le_refl _)) HT.out.1.size (by omega)).mono ?_
    rintro e w7 ⟨x0, x1, x2, hx0, hx1, hx2, rfl, hb⟩
    have HT2 := Lib.hid (And.intro (HT.out.1.trans (hb.mono HT.out.1.size)) (HT.out.2.below hb HT.out.2.lt))
    clear hb HT
    unfold PV
    go_wp2_with fail
    have T6 := RL.new w7 [.complex .f32 (r8P x0 x1 x2 0) (r8P x0 x1 x2 1), .complex .f32 (r8P x0 x1 x2 2) (r8P x0 x1 x2 3), .complex .f32 (r8P x0 x1 x2 4) (r8P x0 x1 x2 5)] 37
    have b6 := bel_alloc w7 (.cells #[.complex .f32 (r8P x0 x1 x2 0) (r8P x0 x1 x2 1), .complex .f32 (r8P x0 x1 x2 2) (r8P x0 x1 x2 3), .complex .f32 (r8P x0 x1 x2 4) (r8P x0 x1 x2 5)] 37)
    have HT3 := Lib.hid (And.intro (HT2.out.1.trans (b6.mono HT2.out.1.size)) (And.intro (HT2.out.2.below b6 HT2.out.2.lt) T6))
    clear T6 b6 HT2
    generalize (w7.alloc (.cells #[.complex .f32 (r8P x0 x1 x2 0) (r8P x0 x1 x2 1), .complex .f32 (r8P x0 x1 x2 2) (r8P x0 x1 x2 3), .complex .f32 (r8P x0 x1 x2 4) (r8P x0 x1 x2 5)] 37)) = w8 at *
    generalize w7.heap.size = ti at *
    refine (r8phases_any W.heap.size a1 len1 cap1 3 w8 (B1.out.stay2 HT3.out.1 (Nat.le_refl _)) HT3.out.1.size (by omega)).mono ?_
    rintro e w9 ⟨y0, y1, y2, hy0, hy1, hy2, rfl, hb⟩
    have HT4 := Lib.hid (And.intro (HT3.out.1.trans (hb.mono HT3.out.1.size)) (And.intro (HT3.out.2.1.below hb HT3.out.2.1.lt) (HT3.out.2.2.below hb HT3.out.2.2.lt)))
    clear hb HT3
    unfold PV
    go_wp2_with fail
    have T7 := RL.new w9 [.complex .f32 (r8P y0 y1 y2 0) (r8P y0 y1 y2 1), .complex .f32 (r8P y0 y1 y2 2) (r8P y0 y1 y2 3), .complex .f32 (r8P y0 y1 y2 4) (r8P y0 y1 y2 5)] 37
    have b7 := bel_alloc w9 (.cells #[.complex .f32 (r8P y0 y1 y2 0) (r8P y0 y1 y2 1), .complex .f32 (r8P y0 y1 y2 2) (r8P y0 y1 y2 3), .complex .f32 (r8P y0 y1 y2 4) (r8P y0 y1 y2 5)] 37)
    have HD := Lib.hid (show DSt W _ tb ti _ B (r8P x0 x1 x2) (r8P y0 y1 y2) from ⟨HT4.out.1.trans (b7.mono HT4.out.1.size), HT4.out.2.1.below b7 HT4.out.2.1.lt, HT4.out.2.2.below b7 HT4.out.2.2.lt, T7⟩)
    clear T7 b7 HT4
    generalize (w9.alloc (.cells #[.complex .f32 (r8P y0 y1 y2 0) (r8P y0 y1 y2 1), .complex .f32 (r8P y0 y1 y2 2) (r8P y0 y1 y2 3), .complex .f32 (r8P y0 y1 y2 4) (r8P y0 y1 y2 5)] 37)) = w10 at *
    generalize w9.heap.size = tj at *
    obtain ⟨sij, both, di, dj, sum, less, i2, ii, D1, D2, D3, D4, D5, D6, D7, D8, E1, E2, E3⟩ := drops_data hc0 hc1 hx0 hx1 hx2 hy0 hy1 hy2
    have hx : Hid (r8P x0 x1 x2 = r8P x0 x1 x2) := Lib.hid rfl
    generalize hX : r8P x0 x1 x2 = X at *
    generalize hY : r8P y0 y1 y2 = Y at *
    have DD := Lib.hid (And.intro D1 (And.intro D2 (And.intro D3 (And.intro D4 (And.intro D5 (And.intro D6 (And.intro D7 (And.intro D8 (And.intro E1 (And.intro E2 E3))))))))))
    clear D1 D2 D3 D4 D5 D6 D7 D8 E1 E2 E3 hX hY hx B0 B1 hL hlong
    clear hBl
    subst hB
    have cA1 := fun w' => addP_any X Y sij DD.out.1 w'
    have cD1 := fun w' => dropV_any 0 (r8re c0) (r8im c0) (r8re c1) (r8im c1) kind (r8P l0 l1 l2) 0 sij both DD.out.2.1.1 DD.out.2.1.2.1 DD.out.2.1.2.2 w'
    have cD2 := fun w' => dropV_any 0 (r8re c0) (r8im c0) (r8re c1) (r8im c1) kind (r8P l0 l1 l2) 0 X di DD.out.2.2.1.1 DD.out.2.2.1.2.1 DD.out.2.2.1.2.2 w'
    have cD3 := fun w' => dropV_any 0 (r8re c0) (r8im c0) (r8re c1) (r8im c1) kind (r8P l0 l1 l2) 0 Y dj DD.out.2.2.2.1.1 DD.out.2.2.2.1.2.1 DD.out.2.2.2.1.2.2 w'
    have cA2 := fun w' => addP_any di dj sum DD.out.2.2.2.2.1 w'
    have cL1 := fun w' => lessP_any both dj less DD.out.2.2.2.2.2.1 w'
    have cS1 := fun w' => scaleP_any X i2 1073741824 DD.out.2.2.2.2.2.2.1 w'
    have cA3 := fun w' => addP_any X X ii DD.out.2.2.2.2.2.2.2.1 w'
    simp only [PV, BusL, BL] at cA1 cD1 cD2 cD3 cA2 cL1 cS1 cA3
    go_wp2_with fail
    refine wp_region_free2 6 111 [31, 32, 33, 34, 35, 8] [5] [.agg #[.int .i64 0, .complex .f32 (r8re c0) (r8im c0), .complex .f32 (r8re c1) (r8im c1), .int .i64 kind, .complex .f32 (r8P l0 l1 l2 0) (r8P l0 l1 l2 1), .complex .f32 (r8P l0 l1 l2 2) (r8P l0 l1 l2 3), .complex .f32 (r8P l0 l1 l2 4) (r8P l0 l1 l2 5), .int .i64 0], .agg #[.complex .f32 (X 0) (X 1), .complex .f32 (X 2) (X 3), .complex .f32 (X 4) (X 5)], .agg #[.complex .f32 (Y 0) (Y 1), .complex .f32 (Y 2) (Y 3), .complex .f32 (Y 4) (Y 5)], .agg #[.complex .f32 (sij 0) (sij 1), .complex .f32 (sij 2) (sij 3), .complex .f32 (sij 4) (sij 5)], .agg #[.complex .f32 (both 0) (both 1), .complex .f32 (both 2) (both 3), .complex .f32 (both 4) (both 5)], undef] [(31, .agg #[.int .i64 0, .complex .f32 (r8re c0) (r8im c0), .complex .f32 (r8re c1) (r8im c1), .int .i64 kind, .complex .f32 (r8P l0 l1 l2 0) (r8P l0 l1 l2 1), .complex .f32 (r8P l0 l1 l2 2) (r8P l0 l1 l2 3), .complex .f32 (r8P l0 l1 l2 4) (r8P l0 l1 l2 5), .int .i64 0]), (32, .agg #[.complex .f32 (X 0) (X 1), .complex .f32 (X 2) (X 3), .complex .f32 (X 4) (X 5)]), (33, .agg #[.complex .f32 (Y 0) (Y 1), .complex .f32 (Y 2) (Y 3), .complex .f32 (Y 4) (Y 5)]), (34, .agg #[.complex .f32 (sij 0) (sij 1), .complex .f32 (sij 2) (sij 3), .complex .f32 (sij 4) (sij 5)]), (35, .agg #[.complex .f32 (both 0) (both 1), .complex .f32 (both 2) (both 3), .complex .f32 (both 4) (both 5)])] (fun G => [(31, .agg #[.int .i64 0, .complex .f32 (r8re c0) (r8im c0), .complex .f32 (r8re c1) (r8im c1), .int .i64 kind, .complex .f32 (r8P l0 l1 l2 0) (r8P l0 l1 l2 1), .complex .f32 (r8P l0 l1 l2 2) (r8P l0 l1 l2 3), .complex .f32 (r8P l0 l1 l2 4) (r8P l0 l1 l2 5), .int .i64 0]), (32, .agg #[.complex .f32 (X 0) (X 1), .complex .f32 (X 2) (X 3), .complex .f32 (X 4) (X 5)]), (33, .agg #[.complex .f32 (Y 0) (Y 1), .complex .f32 (Y 2) (Y 3), .complex .f32 (Y 4) (Y 5)]), (34, .agg #[.complex .f32 (sij 0) (sij 1), .complex .f32 (sij 2) (sij 3), .complex .f32 (sij 4) (sij 5)]), (35, .agg #[.complex .f32 (both 0) (both 1), .complex .f32 (both 2) (both 3), .complex .f32 (both 4) (both 5)]), (8, .pointer (some ⟨G 5, 0, none⟩))]) (fun _ => .cells #[.complex .f32 0 0, .complex .f32 0 0, .complex .f32 0 0] 37) (by kernel_rfl) (by kernel_rfl) (by rfl) (by kernel_rfl) (by rfl) (by rfl) (by rfl) (fun G => by rfl) ?hal ?hq ?ht
    case hal =>
      intro k o hk ho ha e V
      obtain rfl | rfl | rfl | rfl | rfl | rfl : k = 0 ∨ k = 1 ∨ k = 2 ∨ k = 3 ∨ k = 4 ∨ k = 5 := by omega
      all_goals first | (cases ha; done) | (cases ho; go_simp; done) | (cases ho; simp [go_sem]; done)
    case hq =>
      intro V hV i o hi ho ha
      have b0 := (HD.out.2.1.below hV HD.out.2.1.lt).cell 0 (by simp [BL, PC])
      have b1 := (HD.out.2.1.below hV HD.out.2.1.lt).cell 1 (by simp [BL, PC])
      have b2 := (HD.out.2.1.below hV HD.out.2.1.lt).cell 2 (by simp [BL, PC])
      have b3 := (HD.out.2.1.below hV HD.out.2.1.lt).cell 3 (by simp [BL, PC])
      have b4 := (HD.out.2.1.below hV HD.out.2.1.lt).cell 4 (by simp [BL, PC])
      have b5 := (HD.out.2.1.below hV HD.out.2.1.lt).cell 5 (by simp [BL, PC])
      have b6 := (HD.out.2.1.below hV HD.out.2.1.lt).cell 6 (by simp [BL, PC])
      have b7 := (HD.out.2.1.below hV HD.out.2.1.lt).cell 7 (by simp [BL, PC])
      have x0 := (HD.out.2.2.1.below hV HD.out.2.2.1.lt).cell 0 (by simp [BL, PC])
      have x1 := (HD.out.2.2.1.below hV HD.out.2.2.1.lt).cell 1 (by simp [BL, PC])
      have x2 := (HD.out.2.2.1.below hV HD.out.2.2.1.lt).cell 2 (by simp [BL, PC])
      have y0 := (HD.out.2.2.2.below hV HD.out.2.2.2.lt).cell 0 (by simp [BL, PC])
      have y1 := (HD.out.2.2.2.below hV HD.out.2.2.2.lt).cell 1 (by simp [BL, PC])
      have y2 := (HD.out.2.2.2.below hV HD.out.2.2.2.lt).cell 2 (by simp [BL, PC])
      simp only [BL, PC, List.getD_cons_zero, List.getD_cons_succ] at b0 b1 b2 b3 b4 b5 b6 b7 x0 x1 x2 y0 y1 y2
      obtain rfl | rfl | rfl | rfl | rfl | rfl : i = 0 ∨ i = 1 ∨ i = 2 ∨ i = 3 ∨ i = 4 ∨ i = 5 := by omega
      all_goals (cases ho)
      all_goals (first | (cases ha; done) | skip)
      all_goals simp only [Gives, puts, Act.put, List.setIfInBounds_toArray, List.set_cons_zero, List.set_cons_succ]
      all_goals go_wp2_with (first | (go_at_call_of 50 (Value.agg #[.complex .f32 (X 0) (X 1), .complex .f32 (X 2) (X 3), .complex .f32 (X 4) (X 5)]); refine (cA1 _).mono ?_; rintro e V2 ⟨rfl, hbV⟩) | (go_at_call_of 49 (Value.agg #[.complex .f32 (sij 0) (sij 1), .complex .f32 (sij 2) (sij 3), .complex .f32 (sij 4) (sij 5)]); refine (cD1 _).mono ?_; rintro e V2 ⟨rfl, hbV⟩))
      all_goals first | exact Below.refl _ _ | exact hbV | exact ⟨rfl, rfl, Below.refl _ _⟩ | exact ⟨rfl, rfl, hbV⟩
    case ht =>
      intro G V hV hG
      obtain ⟨hge, RG⟩ := hG.rl (k := 5) (M := [.complex .f32 0 0, .complex .f32 0 0, .complex .f32 0 0]) (t := 37) (by omega) rfl rfl rfl
      have k0 := RG.cell 0 (by simp)
      have k1 := RG.cell 1 (by simp)
      have k2 := RG.cell 2 (by simp)
      have z0 := RG.frozen 0
      have z1 := RG.frozen 1
      have z2 := RG.frozen 2
      simp only [List.getD_cons_zero, List.getD_cons_succ] at k0 k1 k2
      have RN := ((RG.set 0 (.complex .f32 (both 0) (both 1))).set 1 (.complex .f32 (both 2) (both 3))).set 2 (.complex .f32 (both 4) (both 5))
      simp only [List.set_cons_zero, List.set_cons_succ] at RN
      have BN := ((hV.setCell (p := ⟨G 5, 0, none⟩) hge (.complex .f32 (both 0) (both 1))).setCell (p := ⟨G 5, 1, none⟩) hge (.complex .f32 (both 2) (both 3))).setCell (p := ⟨G 5, 2, none⟩) hge (.complex .f32 (both 4) (both 5))
      have HN := Lib.hid (And.intro (HD.out.step BN) (And.intro RN (show True from trivial)))
      clear BN RN RG hge hG hV HD 
      simp only [puts, Act.put, List.setIfInBounds_toArray, List.set_cons_zero, List.set_cons_succ]
      generalize G 5 = g8 at *
      go_wp2_with fail
      generalize (((V.setCell ⟨g8, 0, none⟩ (.complex .f32 (both 0) (both 1))).setCell ⟨g8, 1, none⟩ (.complex .f32 (both 2) (both 3))).setCell ⟨g8, 2, none⟩ (.complex .f32 (both 4) (both 5))) = w11 at *
      have HD6 := Lib.hid HN.out.1
      have R8 := Lib.hid HN.out.2.1
      clear HN k0 k1 k2 z0 z1 z2
      go_wp2_with fail
      refine wp_region_free2 8 111 [36, 37, 38, 39, 40, 41, 42, 9] [7] [.agg #[.int .i64 0, .complex .f32 (r8re c0) (r8im c0), .complex .f32 (r8re c1) (r8im c1), .int .i64 kind, .complex .f32 (r8P l0 l1 l2 0) (r8P l0 l1 l2 1), .complex .f32 (r8P l0 l1 l2 2) (r8P l0 l1 l2 3), .complex .f32 (r8P l0 l1 l2 4) (r8P l0 l1 l2 5), .int .i64 0], .agg #[.complex .f32 (X 0) (X 1), .complex .f32 (X 2) (X 3), .complex .f32 (X 4) (X 5)], .agg #[.complex .f32 (di 0) (di 1), .complex .f32 (di 2) (di 3), .complex .f32 (di 4) (di 5)], .agg #[.int .i64 0, .complex .f32 (r8re c0) (r8im c0), .complex .f32 (r8re c1) (r8im c1), .int .i64 kind, .complex .f32 (r8P l0 l1 l2 0) (r8P l0 l1 l2 1), .complex .f32 (r8P l0 l1 l2 2) (r8P l0 l1 l2 3), .complex .f32 (r8P l0 l1 l2 4) (r8P l0 l1 l2 5), .int .i64 0], .agg #[.complex .f32 (Y 0) (Y 1), .complex .f32 (Y 2) (Y 3), .complex .f32 (Y 4) (Y 5)], .agg #[.complex .f32 (dj 0) (dj 1), .complex .f32 (dj 2) (dj 3), .complex .f32 (dj 4) (dj 5)], .agg #[.complex .f32 (sum 0) (sum 1), .complex .f32 (sum 2) (sum 3), .complex .f32 (sum 4) (sum 5)], undef] [(36, .agg #[.int .i64 0, .complex .f32 (r8re c0) (r8im c0), .complex .f32 (r8re c1) (r8im c1), .int .i64 kind, .complex .f32 (r8P l0 l1 l2 0) (r8P l0 l1 l2 1), .complex .f32 (r8P l0 l1 l2 2) (r8P l0 l1 l2 3), .complex .f32 (r8P l0 l1 l2 4) (r8P l0 l1 l2 5), .int .i64 0]), (37, .agg #[.complex .f32 (X 0) (X 1), .complex .f32 (X 2) (X 3), .complex .f32 (X 4) (X 5)]), (38, .agg #[.complex .f32 (di 0) (di 1), .complex .f32 (di 2) (di 3), .complex .f32 (di 4) (di 5)]), (39, .agg #[.int .i64 0, .complex .f32 (r8re c0) (r8im c0), .complex .f32 (r8re c1) (r8im c1), .int .i64 kind, .complex .f32 (r8P l0 l1 l2 0) (r8P l0 l1 l2 1), .complex .f32 (r8P l0 l1 l2 2) (r8P l0 l1 l2 3), .complex .f32 (r8P l0 l1 l2 4) (r8P l0 l1 l2 5), .int .i64 0]), (40, .agg #[.complex .f32 (Y 0) (Y 1), .complex .f32 (Y 2) (Y 3), .complex .f32 (Y 4) (Y 5)]), (41, .agg #[.complex .f32 (dj 0) (dj 1), .complex .f32 (dj 2) (dj 3), .complex .f32 (dj 4) (dj 5)]), (42, .agg #[.complex .f32 (sum 0) (sum 1), .complex .f32 (sum 2) (sum 3), .complex .f32 (sum 4) (sum 5)])] (fun G => [(36, .agg #[.int .i64 0, .complex .f32 (r8re c0) (r8im c0), .complex .f32 (r8re c1) (r8im c1), .int .i64 kind, .complex .f32 (r8P l0 l1 l2 0) (r8P l0 l1 l2 1), .complex .f32 (r8P l0 l1 l2 2) (r8P l0 l1 l2 3), .complex .f32 (r8P l0 l1 l2 4) (r8P l0 l1 l2 5), .int .i64 0]), (37, .agg #[.complex .f32 (X 0) (X 1), .complex .f32 (X 2) (X 3), .complex .f32 (X 4) (X 5)]), (38, .agg #[.complex .f32 (di 0) (di 1), .complex .f32 (di 2) (di 3), .complex .f32 (di 4) (di 5)]), (39, .agg #[.int .i64 0, .complex .f32 (r8re c0) (r8im c0), .complex .f32 (r8re c1) (r8im c1), .int .i64 kind, .complex .f32 (r8P l0 l1 l2 0) (r8P l0 l1 l2 1), .complex .f32 (r8P l0 l1 l2 2) (r8P l0 l1 l2 3), .complex .f32 (r8P l0 l1 l2 4) (r8P l0 l1 l2 5), .int .i64 0]), (40, .agg #[.complex .f32 (Y 0) (Y 1), .complex .f32 (Y 2) (Y 3), .complex .f32 (Y 4) (Y 5)]), (41, .agg #[.complex .f32 (dj 0) (dj 1), .complex .f32 (dj 2) (dj 3), .complex .f32 (dj 4) (dj 5)]), (42, .agg #[.complex .f32 (sum 0) (sum 1), .complex .f32 (sum 2) (sum 3), .complex .f32 (sum 4) (sum 5)]), (9, .pointer (some ⟨G 7, 0, none⟩))]) (fun _ => .cells #[.complex .f32 0 0, .complex .f32 0 0, .complex .f32 0 0] 37) (by kernel_rfl) (by kernel_rfl) (by rfl) (by kernel_rfl) (by rfl) (by rfl) (by rfl) (fun G => by rfl) ?hal ?hq ?ht
      case hal =>
        intro k o hk ho ha e V
        obtain rfl | rfl | rfl | rfl | rfl | rfl | rfl | rfl : k = 0 ∨ k = 1 ∨ k = 2 ∨ k = 3 ∨ k = 4 ∨ k = 5 ∨ k = 6 ∨ k = 7 := by omega
        all_goals first | (cases ha; done) | (cases ho; go_simp; done) | (cases ho; simp [go_sem]; done)
      case hq =>
        intro V hV i o hi ho ha
        have b0 := (HD6.out.2.1.below hV HD6.out.2.1.lt).cell 0 (by simp [BL, PC])
        have b1 := (HD6.out.2.1.below hV HD6.out.2.1.lt).cell 1 (by simp [BL, PC])
        have b2 := (HD6.out.2.1.below hV HD6.out.2.1.lt).cell 2 (by simp [BL, PC])
        have b3 := (HD6.out.2.1.below hV HD6.out.2.1.lt).cell 3 (by simp [BL, PC])
        have b4 := (HD6.out.2.1.below hV HD6.out.2.1.lt).cell 4 (by simp [BL, PC])
        have b5 := (HD6.out.2.1.below hV HD6.out.2.1.lt).cell 5 (by simp [BL, PC])
        have b6 := (HD6.out.2.1.below hV HD6.out.2.1.lt).cell 6 (by simp [BL, PC])
        have b7 := (HD6.out.2.1.below hV HD6.out.2.1.lt).cell 7 (by simp [BL, PC])
        have x0 := (HD6.out.2.2.1.below hV HD6.out.2.2.1.lt).cell 0 (by simp [BL, PC])
        have x1 := (HD6.out.2.2.1.below hV HD6.out.2.2.1.lt).cell 1 (by simp [BL, PC])
        have x2 := (HD6.out.2.2.1.below hV HD6.out.2.2.1.lt).cell 2 (by simp [BL, PC])
        have y0 := (HD6.out.2.2.2.below hV HD6.out.2.2.2.lt).cell 0 (by simp [BL, PC])
        have y1 := (HD6.out.2.2.2.below hV HD6.out.2.2.2.lt).cell 1 (by simp [BL, PC])
        have y2 := (HD6.out.2.2.2.below hV HD6.out.2.2.2.lt).cell 2 (by simp [BL, PC])
        simp only [BL, PC, List.getD_cons_zero, List.getD_cons_succ] at b0 b1 b2 b3 b4 b5 b6 b7 x0 x1 x2 y0 y1 y2
        obtain rfl | rfl | rfl | rfl | rfl | rfl | rfl | rfl : i = 0 ∨ i = 1 ∨ i = 2 ∨ i = 3 ∨ i = 4 ∨ i = 5 ∨ i = 6 ∨ i = 7 := by omega
        all_goals (cases ho)
        all_goals (first | (cases ha; done) | skip)
        all_goals simp only [Gives, puts, Act.put, List.setIfInBounds_toArray, List.set_cons_zero, List.set_cons_succ]
        all_goals go_wp2_with (first | (go_at_call_of 50 (Value.agg #[.complex .f32 (di 0) (di 1), .complex .f32 (di 2) (di 3), .complex .f32 (di 4) (di 5)]); refine (cA2 _).mono ?_; rintro e V2 ⟨rfl, hbV⟩) | (go_at_call_of 49 (Value.agg #[.complex .f32 (X 0) (X 1), .complex .f32 (X 2) (X 3), .complex .f32 (X 4) (X 5)]); refine (cD2 _).mono ?_; rintro e V2 ⟨rfl, hbV⟩) | (go_at_call_of 49 (Value.agg #[.complex .f32 (Y 0) (Y 1), .complex .f32 (Y 2) (Y 3), .complex .f32 (Y 4) (Y 5)]); refine (cD3 _).mono ?_; rintro e V2 ⟨rfl, hbV⟩))
        all_goals first | exact Below.refl _ _ | exact hbV | exact ⟨rfl, rfl, Below.refl _ _⟩ | exact ⟨rfl, rfl, hbV⟩
      case ht =>
        intro G V hV hG
        obtain ⟨hge, RG⟩ := hG.rl (k := 7) (M := [.complex .f32 0 0, .complex .f32 0 0, .complex .f32 0 0]) (t := 37) (by omega) rfl rfl rfl
        have k0 := RG.cell 0 (by simp)
        have k1 := RG.cell 1 (by simp)
        have k2 := RG.cell 2 (by simp)
        have z0 := RG.frozen 0
        have z1 := RG.frozen 1
        have z2 := RG.frozen 2
        simp only [List.getD_cons_zero, List.getD_cons_succ] at k0 k1 k2
        have RN := ((RG.set 0 (.complex .f32 (sum 0) (sum 1))).set 1 (.complex .f32 (sum 2) (sum 3))).set 2 (.complex .f32 (sum 4) (sum 5))
        simp only [List.set_cons_zero, List.set_cons_succ] at RN
        have BN := ((hV.setCell (p := ⟨G 7, 0, none⟩) hge (.complex .f32 (sum 0) (sum 1))).setCell (p := ⟨G 7, 1, none⟩) hge (.complex .f32 (sum 2) (sum 3))).setCell (p := ⟨G 7, 2, none⟩) hge (.complex .f32 (sum 4) (sum 5))
        have HN := Lib.hid (And.intro (HD6.out.step BN) (And.intro RN (show _ ∧ True from (And.intro (R8.out.below BN R8.out.lt) trivial))))
        clear BN RN RG hge hG hV HD6 R8
        simp only [puts, Act.put, List.setIfInBounds_toArray, List.set_cons_zero, List.set_cons_succ]
        generalize G 7 = g9 at *
        go_wp2_with fail
        generalize (((V.setCell ⟨g9, 0, none⟩ (.complex .f32 (sum 0) (sum 1))).setCell ⟨g9, 1, none⟩ (.complex .f32 (sum 2) (sum 3))).setCell ⟨g9, 2, none⟩ (.complex .f32 (sum 4) (sum 5))) = w12 at *
        have HD7 := Lib.hid HN.out.1
        have R9 := Lib.hid HN.out.2.1
        have R8 := Lib.hid HN.out.2.2.1
        clear HN k0 k1 k2 z0 z1 z2
        go_wp2_with fail
        refine wp_region_free2 6 111 [43, 44, 45, 46, 47, 10] [5] [.agg #[.complex .f32 (both 0) (both 1), .complex .f32 (both 2) (both 3), .complex .f32 (both 4) (both 5)], .agg #[.int .i64 0, .complex .f32 (r8re c0) (r8im c0), .complex .f32 (r8re c1) (r8im c1), .int .i64 kind, .complex .f32 (r8P l0 l1 l2 0) (r8P l0 l1 l2 1), .complex .f32 (r8P l0 l1 l2 2) (r8P l0 l1 l2 3), .complex .f32 (r8P l0 l1 l2 4) (r8P l0 l1 l2 5), .int .i64 0], .agg #[.complex .f32 (Y 0) (Y 1), .complex .f32 (Y 2) (Y 3), .complex .f32 (Y 4) (Y 5)], .agg #[.complex .f32 (dj 0) (dj 1), .complex .f32 (dj 2) (dj 3), .complex .f32 (dj 4) (dj 5)], .agg #[.complex .f32 (less 0) (less 1), .complex .f32 (less 2) (less 3), .complex .f32 (less 4) (less 5)], undef] [(43, .agg #[.complex .f32 (both 0) (both 1), .complex .f32 (both 2) (both 3), .complex .f32 (both 4) (both 5)]), (44, .agg #[.int .i64 0, .complex .f32 (r8re c0) (r8im c0), .complex .f32 (r8re c1) (r8im c1), .int .i64 kind, .complex .f32 (r8P l0 l1 l2 0) (r8P l0 l1 l2 1), .complex .f32 (r8P l0 l1 l2 2) (r8P l0 l1 l2 3), .complex .f32 (r8P l0 l1 l2 4) (r8P l0 l1 l2 5), .int .i64 0]), (45, .agg #[.complex .f32 (Y 0) (Y 1), .complex .f32 (Y 2) (Y 3), .complex .f32 (Y 4) (Y 5)]), (46, .agg #[.complex .f32 (dj 0) (dj 1), .complex .f32 (dj 2) (dj 3), .complex .f32 (dj 4) (dj 5)]), (47, .agg #[.complex .f32 (less 0) (less 1), .complex .f32 (less 2) (less 3), .complex .f32 (less 4) (less 5)])] (fun G => [(43, .agg #[.complex .f32 (both 0) (both 1), .complex .f32 (both 2) (both 3), .complex .f32 (both 4) (both 5)]), (44, .agg #[.int .i64 0, .complex .f32 (r8re c0) (r8im c0), .complex .f32 (r8re c1) (r8im c1), .int .i64 kind, .complex .f32 (r8P l0 l1 l2 0) (r8P l0 l1 l2 1), .complex .f32 (r8P l0 l1 l2 2) (r8P l0 l1 l2 3), .complex .f32 (r8P l0 l1 l2 4) (r8P l0 l1 l2 5), .int .i64 0]), (45, .agg #[.complex .f32 (Y 0) (Y 1), .complex .f32 (Y 2) (Y 3), .complex .f32 (Y 4) (Y 5)]), (46, .agg #[.complex .f32 (dj 0) (dj 1), .complex .f32 (dj 2) (dj 3), .complex .f32 (dj 4) (dj 5)]), (47, .agg #[.complex .f32 (less 0) (less 1), .complex .f32 (less 2) (less 3), .complex .f32 (less 4) (less 5)]), (10, .pointer (some ⟨G 5, 0, none⟩))]) (fun _ => .cells #[.complex .f32 0 0, .complex .f32 0 0, .complex .f32 0 0] 37) (by kernel_rfl) (by kernel_rfl) (by rfl) (by kernel_rfl) (by rfl) (by rfl) (by rfl) (fun G => by rfl) ?hal ?hq ?ht
        case hal =>
          intro k o hk ho ha e V
          obtain rfl | rfl | rfl | rfl | rfl | rfl : k = 0 ∨ k = 1 ∨ k = 2 ∨ k = 3 ∨ k = 4 ∨ k = 5 := by omega
          all_goals first | (cases ha; done) | (cases ho; go_simp; done) | (cases ho; simp [go_sem]; done)
        case hq =>
          intro V hV i o hi ho ha
          have b0 := (HD7.out.2.1.below hV HD7.out.2.1.lt).cell 0 (by simp [BL, PC])
          have b1 := (HD7.out.2.1.below hV HD7.out.2.1.lt).cell 1 (by simp [BL, PC])
          have b2 := (HD7.out.2.1.below hV HD7.out.2.1.lt).cell 2 (by simp [BL, PC])
          have b3 := (HD7.out.2.1.below hV HD7.out.2.1.lt).cell 3 (by simp [BL, PC])
          have b4 := (HD7.out.2.1.below hV HD7.out.2.1.lt).cell 4 (by simp [BL, PC])
          have b5 := (HD7.out.2.1.below hV HD7.out.2.1.lt).cell 5 (by simp [BL, PC])
          have b6 := (HD7.out.2.1.below hV HD7.out.2.1.lt).cell 6 (by simp [BL, PC])
          have b7 := (HD7.out.2.1.below hV HD7.out.2.1.lt).cell 7 (by simp [BL, PC])
          have x0 := (HD7.out.2.2.1.below hV HD7.out.2.2.1.lt).cell 0 (by simp [BL, PC])
          have x1 := (HD7.out.2.2.1.below hV HD7.out.2.2.1.lt).cell 1 (by simp [BL, PC])
          have x2 := (HD7.out.2.2.1.below hV HD7.out.2.2.1.lt).cell 2 (by simp [BL, PC])
          have y0 := (HD7.out.2.2.2.below hV HD7.out.2.2.2.lt).cell 0 (by simp [BL, PC])
          have y1 := (HD7.out.2.2.2.below hV HD7.out.2.2.2.lt).cell 1 (by simp [BL, PC])
          have y2 := (HD7.out.2.2.2.below hV HD7.out.2.2.2.lt).cell 2 (by simp [BL, PC])
          have p0 := (R8.out.below hV R8.out.lt).cell 0 (by simp [BL, PC])
          have p1 := (R8.out.below hV R8.out.lt).cell 1 (by simp [BL, PC])
          have p2 := (R8.out.below hV R8.out.lt).cell 2 (by simp [BL, PC])
          simp only [BL, PC, List.getD_cons_zero, List.getD_cons_succ] at b0 b1 b2 b3 b4 b5 b6 b7 x0 x1 x2 y0 y1 y2 p0 p1 p2
          obtain rfl | rfl | rfl | rfl | rfl | rfl : i = 0 ∨ i = 1 ∨ i = 2 ∨ i = 3 ∨ i = 4 ∨ i = 5 := by omega
          all_goals (cases ho)
          all_goals (first | (cases ha; done) | skip)
          all_goals simp only [Gives, puts, Act.put, List.setIfInBounds_toArray, List.set_cons_zero, List.set_cons_succ]
          all_goals go_wp2_with (first | (go_at_call_of 49 (Value.agg #[.complex .f32 (Y 0) (Y 1), .complex .f32 (Y 2) (Y 3), .complex .f32 (Y 4) (Y 5)]); refine (cD3 _).mono ?_; rintro e V2 ⟨rfl, hbV⟩) | (go_at_call_of 51 (Value.agg #[.complex .f32 (both 0) (both 1), .complex .f32 (both 2) (both 3), .complex .f32 (both 4) (both 5)]); refine (cL1 _).mono ?_; rintro e V2 ⟨rfl, hbV⟩))
          all_goals first | exact Below.refl _ _ | exact hbV | exact ⟨rfl, rfl, Below.refl _ _⟩ | exact ⟨rfl, rfl, hbV⟩
        case ht =>
          intro G V hV hG
          obtain ⟨hge, RG⟩ := hG.rl (k := 5) (M := [.complex .f32 0 0, .complex .f32 0 0, .complex .f32 0 0]) (t := 37) (by omega) rfl rfl rfl
          have k0 := RG.cell 0 (by simp)
          have k1 := RG.cell 1 (by simp)
          have k2 := RG.cell 2 (by simp)
          have z0 := RG.frozen 0
          have z1 := RG.frozen 1
          have z2 := RG.frozen 2
          simp only [List.getD_cons_zero, List.getD_cons_succ] at k0 k1 k2
          have RN := ((RG.set 0 (.complex .f32 (less 0) (less 1))).set 1 (.complex .f32 (less 2) (less 3))).set 2 (.complex .f32 (less 4) (less 5))
          simp only [List.set_cons_zero, List.set_cons_succ] at RN
          have BN := ((hV.setCell (p := ⟨G 5, 0, none⟩) hge (.complex .f32 (less 0) (less 1))).setCell (p := ⟨G 5, 1, none⟩) hge (.complex .f32 (less 2) (less 3))).setCell (p := ⟨G 5, 2, none⟩) hge (.complex .f32 (less 4) (less 5))
          have HN := Lib.hid (And.intro (HD7.out.step BN) (And.intro RN (show _ ∧ _ ∧ True from (And.intro (R9.out.below BN R9.out.lt) (And.intro (R8.out.below BN R8.out.lt) trivial)))))
          clear BN RN RG hge hG hV HD7 R9 R8
          simp only [puts, Act.put, List.setIfInBounds_toArray, List.set_cons_zero, List.set_cons_succ]
          generalize G 5 = g10 at *
          go_wp2_with fail
          generalize (((V.setCell ⟨g10, 0, none⟩ (.complex .f32 (less 0) (less 1))).setCell ⟨g10, 1, none⟩ (.complex .f32 (less 2) (less 3))).setCell ⟨g10, 2, none⟩ (.complex .f32 (less 4) (less 5))) = w13 at *
          have HD8 := Lib.hid HN.out.1
          have R10 := Lib.hid HN.out.2.1
          have R9 := Lib.hid HN.out.2.2.1
          have R8 := Lib.hid HN.out.2.2.2.1
          clear HN k0 k1 k2 z0 z1 z2
          have EE := DD.out.2.2.2.2.2.2.2.2
          have n1 : ∀ w : World, (binOp .neq 37 (.agg #[.complex .f32 (both 0) (both 1), .complex .f32 (both 2) (both 3), .complex .f32 (both 4) (both 5)]) (.agg #[.complex .f32 (sum 0) (sum 1), .complex .f32 (sum 2) (sum 3), .complex .f32 (sum 4) (sum 5)])).run Try.prog w = .ok (.bool false) w := by
            intro w
            have e0 := EE.1 0 (by omega)
            have e1 := EE.1 1 (by omega)
            have e2 := EE.1 2 (by omega)
            have e3 := EE.1 3 (by omega)
            have e4 := EE.1 4 (by omega)
            have e5 := EE.1 5 (by omega)
            simp [go_sem, equal_c, Op.floatEq, e0, e1, e2, e3, e4, e5]
          have n2 : ∀ w : World, (binOp .neq 37 (.agg #[.complex .f32 (less 0) (less 1), .complex .f32 (less 2) (less 3), .complex .f32 (less 4) (less 5)]) (.agg #[.complex .f32 (di 0) (di 1), .complex .f32 (di 2) (di 3), .complex .f32 (di 4) (di 5)])).run Try.prog w = .ok (.bool false) w := by
            intro w
            have e0 := EE.2.1 0 (by omega)
            have e1 := EE.2.1 1 (by omega)
            have e2 := EE.2.1 2 (by omega)
            have e3 := EE.2.1 3 (by omega)
            have e4 := EE.2.1 4 (by omega)
            have e5 := EE.2.1 5 (by omega)
            simp [go_sem, equal_c, Op.floatEq, e0, e1, e2, e3, e4, e5]
          have n3 : ∀ w : World, (binOp .neq 37 (.agg #[.complex .f32 (i2 0) (i2 1), .complex .f32 (i2 2) (i2 3), .complex .f32 (i2 4) (i2 5)]) (.agg #[.complex .f32 (ii 0) (ii 1), .complex .f32 (ii 2) (ii 3), .complex .f32 (ii 4) (ii 5)])).run Try.prog w = .ok (.bool false) w := by
            intro w
            have e0 := EE.2.2 0 (by omega)
            have e1 := EE.2.2 1 (by omega)
            have e2 := EE.2.2 2 (by omega)
            have e3 := EE.2.2 3 (by omega)
            have e4 := EE.2.2 4 (by omega)
            have e5 := EE.2.2 5 (by omega)
            simp [go_sem, equal_c, Op.floatEq, e0, e1, e2, e3, e4, e5]
          clear EE
          have b0 := fun y : Grown w13 => y.cell ((HD8.out.2.1).cell 0 (by simp [BL, PC]))
          have b1 := fun y : Grown w13 => y.cell ((HD8.out.2.1).cell 1 (by simp [BL, PC]))
          have b2 := fun y : Grown w13 => y.cell ((HD8.out.2.1).cell 2 (by simp [BL, PC]))
          have b3 := fun y : Grown w13 => y.cell ((HD8.out.2.1).cell 3 (by simp [BL, PC]))
          have b4 := fun y : Grown w13 => y.cell ((HD8.out.2.1).cell 4 (by simp [BL, PC]))
          have b5 := fun y : Grown w13 => y.cell ((HD8.out.2.1).cell 5 (by simp [BL, PC]))
          have b6 := fun y : Grown w13 => y.cell ((HD8.out.2.1).cell 6 (by simp [BL, PC]))
          have b7 := fun y : Grown w13 => y.cell ((HD8.out.2.1).cell 7 (by simp [BL, PC]))
          have x0 := fun y : Grown w13 => y.cell ((HD8.out.2.2.1).cell 0 (by simp [BL, PC]))
          have x1 := fun y : Grown w13 => y.cell ((HD8.out.2.2.1).cell 1 (by simp [BL, PC]))
          have x2 := fun y : Grown w13 => y.cell ((HD8.out.2.2.1).cell 2 (by simp [BL, PC]))
          have p0 := fun y : Grown w13 => y.cell ((R8.out).cell 0 (by simp [BL, PC]))
          have p1 := fun y : Grown w13 => y.cell ((R8.out).cell 1 (by simp [BL, PC]))
          have p2 := fun y : Grown w13 => y.cell ((R8.out).cell 2 (by simp [BL, PC]))
          have q0 := fun y : Grown w13 => y.cell ((R9.out).cell 0 (by simp [BL, PC]))
          have q1 := fun y : Grown w13 => y.cell ((R9.out).cell 1 (by simp [BL, PC]))
          have q2 := fun y : Grown w13 => y.cell ((R9.out).cell 2 (by simp [BL, PC]))
          have r0 := fun y : Grown w13 => y.cell ((R10.out).cell 0 (by simp [BL, PC]))
          have r1 := fun y : Grown w13 => y.cell ((R10.out).cell 1 (by simp [BL, PC]))
          have r2 := fun y : Grown w13 => y.cell ((R10.out).cell 2 (by simp [BL, PC]))
          simp only [BL, PC, List.getD_cons_zero, List.getD_cons_succ] at b0 b1 b2 b3 b4 b5 b6 b7 x0 x1 x2 p0 p1 p2 q0 q1 q2 r0 r1 r2
          go_wp2_with fail
          refine wp_grown (by kernel_rfl) (by kernel_rfl) ?_
          repeat (go_big_quiet_step (first | (go_at_call_of 49 (Value.agg #[.complex .f32 (X 0) (X 1), .complex .f32 (X 2) (X 3), .complex .f32 (X 4) (X 5)]); exact Grown.calls _ (cD2 _)) | (go_at_call_of 52 (Value.agg #[.complex .f32 (X 0) (X 1), .complex .f32 (X 2) (X 3), .complex .f32 (X 4) (X 5)]); exact Grown.calls _ (cS1 _)) | (go_at_call_of 50 (Value.agg #[.complex .f32 (X 0) (X 1), .complex .f32 (X 2) (X 3), .complex .f32 (X 4) (X 5)]); exact Grown.calls _ (cA3 _))))
          refine wpQuiet_nil ?_
          rintro _ ⟨y, rfl⟩
          have HD9 := Lib.hid (HD8.out.step y.2)
          clear b0 b1 b2 b3 b4 b5 b6 b7 x0 x1 x2 p0 p1 p2 q0 q1 q2 r0 r1 r2 n1 n2 n3 R8 R9 R10 HD8 cD2 cS1 cA3 cD1 cD3 cA1 cA2 cL1 DD
          generalize y.1 = w14 at *
          have HK := Lib.hid (And.intro hk0 hk3)
          obtain ⟨T, tp, tq, P, R, m0, m1, s0, s1, u0, u1, hcur, hmul, hdot, heq, hsum, hlast⟩ := takes_data kind hk0 hk3 hl0 hl1 hl2
          have cT := fun w' => loadV_any 0 (r8re c0) (r8im c0) (r8re c1) (r8im c1) kind (r8P l0 l1 l2) 0 v8P T hcur.1 hcur.2.1 hcur.2.2 w'
          have cN := fun w' => loadV_any 0 0 0 0 0 kind (fun _ => 0) 0 (fun j => if j % 2 = 0 then 1090519040 else 0) (fun _ => 0) (.inl ⟨by decide, rfl, rfl⟩) (.inl ⟨by decide, rfl, rfl⟩) (.inl ⟨by decide, rfl, rfl⟩) w'
          have cP := fun w' => power_any v8P T tp tq hmul.1 hmul.2.1 hmul.2.2 hdot.1 hdot.2 w'
          have a1 := run_csum .add (.inl rfl) 25 hsum.1.1 hsum.1.2
          have a2 := run_csum .add (.inl rfl) 25 hsum.2.1 hsum.2.2
          have HE := Lib.hid (And.intro heq hlast)
          clear hcur hmul hdot hsum heq hlast hk0 hk3
          simp only [PV, BusL, BL, show v8P 0 = 1090519040 from rfl, show v8P 1 = 0 from rfl, show v8P 2 = 0 from rfl, show v8P 3 = 1090519040 from rfl, show v8P 4 = 3238002688 from rfl, show v8P 5 = 0 from rfl] at cT cP
          simp [PV, BusL, BL] at cN
          have b0 := HD9.out.2.1.cell 0 (by simp [BL])
          have b1 := HD9.out.2.1.cell 1 (by simp [BL])
          have b2 := HD9.out.2.1.cell 2 (by simp [BL])
          have b3 := HD9.out.2.1.cell 3 (by simp [BL])
          have b4 := HD9.out.2.1.cell 4 (by simp [BL])
          have b5 := HD9.out.2.1.cell 5 (by simp [BL])
          have b6 := HD9.out.2.1.cell 6 (by simp [BL])
          have b7 := HD9.out.2.1.cell 7 (by simp [BL])
          simp only [BL, List.getD_cons_zero, List.getD_cons_succ] at b0 b1 b2 b3 b4 b5 b6 b7
          go_wp2_with fail
          refine (cT _).mono ?_
          rintro e w15 ⟨rfl, hb⟩
          have HD10 := Lib.hid ((HD9.out.step hb).step (bel_alloc w15 (.cells #[.complex .f32 (T 0) (T 1), .complex .f32 (T 2) (T 3), .complex .f32 (T 4) (T 5)] 37)))
          have T11 := Lib.hid (RL.new w15 (PC T) 37)
          simp only [PC] at T11
          clear b0 b1 b2 b3 b4 b5 b6 b7 hb HD9 cT
          have b0 := HD10.out.2.1.cell 0 (by simp [BL])
          have b1 := HD10.out.2.1.cell 1 (by simp [BL])
          have b2 := HD10.out.2.1.cell 2 (by simp [BL])
          have b3 := HD10.out.2.1.cell 3 (by simp [BL])
          have b4 := HD10.out.2.1.cell 4 (by simp [BL])
          have b5 := HD10.out.2.1.cell 5 (by simp [BL])
          have b6 := HD10.out.2.1.cell 6 (by simp [BL])
          have b7 := HD10.out.2.1.cell 7 (by simp [BL])
          simp only [BL, List.getD_cons_zero, List.getD_cons_succ] at b0 b1 b2 b3 b4 b5 b6 b7
          go_wp2_with fail
          generalize (w15.alloc (.cells #[.complex .f32 (T 0) (T 1), .complex .f32 (T 2) (T 3), .complex .f32 (T 4) (T 5)] 37)) = w16 at *
          generalize w15.heap.size = g11 at *
          refine (cN _).mono ?_
          rintro e w17 ⟨rfl, hb⟩
          have hb2 := hb.trans ((bel_alloc w17 (.cells #[.complex .f32 0 0, .complex .f32 0 0, .complex .f32 0 0] 37)).mono hb.size)
          have HD11 := Lib.hid (HD10.out.step hb2)
          have R11 := Lib.hid (T11.out.below hb2 T11.out.lt)
          have R12 := Lib.hid (RL.new w17 [.complex .f32 0 0, .complex .f32 0 0, .complex .f32 0 0] 37)
          clear b0 b1 b2 b3 b4 b5 b6 b7 hb hb2 HD10 T11 cN
          have b0 := HD11.out.2.1.cell 0 (by simp [BL])
          have b1 := HD11.out.2.1.cell 1 (by simp [BL])
          have b2 := HD11.out.2.1.cell 2 (by simp [BL])
          have b3 := HD11.out.2.1.cell 3 (by simp [BL])
          have b4 := HD11.out.2.1.cell 4 (by simp [BL])
          have b5 := HD11.out.2.1.cell 5 (by simp [BL])
          have b6 := HD11.out.2.1.cell 6 (by simp [BL])
          have b7 := HD11.out.2.1.cell 7 (by simp [BL])
          simp only [BL, List.getD_cons_zero, List.getD_cons_succ] at b0 b1 b2 b3 b4 b5 b6 b7
          have t0 := R11.out.cell 0 (by simp)
          have t1 := R11.out.cell 1 (by simp)
          have t2 := R11.out.cell 2 (by simp)
          have n0 := R12.out.cell 0 (by simp)
          have n1 := R12.out.cell 1 (by simp)
          have n2 := R12.out.cell 2 (by simp)
          simp only [List.getD_cons_zero, List.getD_cons_succ] at t0 t1 t2 n0 n1 n2
          obtain ⟨hk0, hk3⟩ := HK.out
          have hz : ∀ w : World, (binOp .neq 37 (.agg #[.complex .f32 0 0, .complex .f32 0 0, .complex .f32 0 0]) (.agg #[.complex .f32 0 0, .complex .f32 0 0, .complex .f32 0 0])).run Try.prog w = .ok (.bool false) w := by
            intro w
            have e0 : (FloatKind.f32.format.order 0 0 == some .eq) = true := by decide
            simp [go_sem, equal_c, Op.floatEq, e0]
          obtain rfl | rfl | rfl : kind = 0 ∨ kind = 1 ∨ kind = 2 := by omega
          · clear hk0 hk3 HK
            have cL := fun w' => apartZ_any (HE.out.2 rfl).1.1 (HE.out.2 rfl).1.2 (HE.out.2 rfl).2 w'
            have hlt : (FloatKind.f64.format.order 0 4562254508917369340 == some .lt) = true := by decide
            clear HE
            go_wp2_with fail
            refine (cP _).mono ?_
            rintro e w18 ⟨rfl, hb⟩
            have HD12 := Lib.hid (HD11.out.step hb)
            clear b0 b1 b2 b3 b4 b5 b6 b7 t0 t1 t2 n0 n1 n2 hb HD11 R11 R12 hz cP
            have b0 := HD12.out.2.1.cell 0 (by simp [BL])
            have b1 := HD12.out.2.1.cell 1 (by simp [BL])
            have b2 := HD12.out.2.1.cell 2 (by simp [BL])
            have b3 := HD12.out.2.1.cell 3 (by simp [BL])
            have b4 := HD12.out.2.1.cell 4 (by simp [BL])
            have b5 := HD12.out.2.1.cell 5 (by simp [BL])
            have b6 := HD12.out.2.1.cell 6 (by simp [BL])
            have b7 := HD12.out.2.1.cell 7 (by simp [BL])
            simp only [BL, List.getD_cons_zero, List.getD_cons_succ] at b0 b1 b2 b3 b4 b5 b6 b7
            go_wp2_with fail
            refine (cL _).mono ?_
            rintro e w19 ⟨rfl, hb⟩
            have HD13 := Lib.hid (HD12.out.step hb)
            clear b0 b1 b2 b3 b4 b5 b6 b7 hb HD12 cL
            go_wp2_with fail
            go_ret
            exact ⟨rfl, HD13.out.1⟩
          · clear hk0 hk3 HK
            have EE := HE.out.1 rfl
            have hT : ∀ w : World, (binOp .neq 37 (.agg #[.complex .f32 (T 0) (T 1), .complex .f32 (T 2) (T 3), .complex .f32 (T 4) (T 5)]) (.agg #[.complex .f32 (r8P l0 l1 l2 0) (r8P l0 l1 l2 1), .complex .f32 (r8P l0 l1 l2 2) (r8P l0 l1 l2 3), .complex .f32 (r8P l0 l1 l2 4) (r8P l0 l1 l2 5)])).run Try.prog w = .ok (.bool false) w := by
              intro w
              have e0 := EE 0 (by omega)
              have e1 := EE 1 (by omega)
              have e2 := EE 2 (by omega)
              have e3 := EE 3 (by omega)
              have e4 := EE 4 (by omega)
              have e5 := EE 5 (by omega)
              simp [go_sem, equal_c, Op.floatEq, e0, e1, e2, e3, e4, e5]
            clear EE
            clear HE
            go_wp2_with fail
            refine (cP _).mono ?_
            rintro e w18 ⟨rfl, hb⟩
            have HD12 := Lib.hid (HD11.out.step hb)
            clear b0 b1 b2 b3 b4 b5 b6 b7 t0 t1 t2 n0 n1 n2 hb HD11 R11 R12 hz cP hT
            have b0 := HD12.out.2.1.cell 0 (by simp [BL])
            have b1 := HD12.out.2.1.cell 1 (by simp [BL])
            have b2 := HD12.out.2.1.cell 2 (by simp [BL])
            have b3 := HD12.out.2.1.cell 3 (by simp [BL])
            have b4 := HD12.out.2.1.cell 4 (by simp [BL])
            have b5 := HD12.out.2.1.cell 5 (by simp [BL])
            have b6 := HD12.out.2.1.cell 6 (by simp [BL])
            have b7 := HD12.out.2.1.cell 7 (by simp [BL])
            simp only [BL, List.getD_cons_zero, List.getD_cons_succ] at b0 b1 b2 b3 b4 b5 b6 b7
            go_wp2_with fail
            go_ret
            exact ⟨rfl, HD12.out.1⟩
          · clear hk0 hk3 HK
            clear HE
            go_wp2_with fail
            refine (cP _).mono ?_
            rintro e w18 ⟨rfl, hb⟩
            have HD12 := Lib.hid (HD11.out.step hb)
            clear b0 b1 b2 b3 b4 b5 b6 b7 t0 t1 t2 n0 n1 n2 hb HD11 R11 R12 hz cP
            have b0 := HD12.out.2.1.cell 0 (by simp [BL])
            have b1 := HD12.out.2.1.cell 1 (by simp [BL])
            have b2 := HD12.out.2.1.cell 2 (by simp [BL])
            have b3 := HD12.out.2.1.cell 3 (by simp [BL])
            have b4 := HD12.out.2.1.cell 4 (by simp [BL])
            have b5 := HD12.out.2.1.cell 5 (by simp [BL])
            have b6 := HD12.out.2.1.cell 6 (by simp [BL])
            have b7 := HD12.out.2.1.cell 7 (by simp [BL])
            simp only [BL, List.getD_cons_zero, List.getD_cons_succ] at b0 b1 b2 b3 b4 b5 b6 b7
            go_wp2_with fail
            go_ret
            exact ⟨rfl, HD12.out.1⟩
end Go.Proofs.Ytpgbcgaalmpfoaa
