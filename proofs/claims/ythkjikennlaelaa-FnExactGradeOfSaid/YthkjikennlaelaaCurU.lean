/-
  The time of a curve, in the program: the stretch of a current. No theorem of a claim stands here.
-/
import Derived.Test.YthkjikennlaelaaCurT
set_option linter.unusedVariables false
set_option linter.unusedSimpArgs false
set_option maxRecDepth 8000
namespace Go.Proofs.Ythkjikennlaelaa
open Go Go.RowKit Go.Deep Go.Proofs.Ythkjikennlaelaa.Fl

/-- The stretches as values. -/
def LevV (x t : Nat) : Value := .iface 77 (.agg #[.float .f32 x, .float .f32 t])
def FallV (u s v t : Nat) : Value := .iface 74 (.agg #[.float .f32 u, .float .f32 s, .float .f32 v, .float .f32 t])
/-- The stretch of a current. -/
def stretchV (C T : List Nat) (x : Nat) : Value := match lastGe C x (C.length - 1) with
  | none => Value.nilIface
  | some i => if i + 1 = C.length then LevV (C.getD i 0) (T.getD i 0) else FallV (C.getD i 0) (T.getD i 0) (C.getD (i + 1) 0) (T.getD (i + 1) 0)
theorem stretch_lev {C T : List Nat} {x : Nat} (h2 : 0 < C.length) (h : geF .f32 x (C.getD (C.length - 1) 0) = true) : stretchV C T x = LevV (C.getD (C.length - 1) 0) (T.getD (C.length - 1) 0) := by
  unfold stretchV
  rw [lastGe_at h (C.length - 1) (Nat.le_refl _) (fun j h1 h2 => by omega)]
  simp only
  rw [if_pos (by omega)]
theorem stretch_fall {C T : List Nat} {x i : Nat} (hi : i + 1 < C.length) (h : geF .f32 x (C.getD i 0) = true) (hj : ∀ j, i < j → j < C.length → geF .f32 x (C.getD j 0) = false) : stretchV C T x = FallV (C.getD i 0) (T.getD i 0) (C.getD (i + 1) 0) (T.getD (i + 1) 0) := by
  unfold stretchV
  rw [lastGe_at h (C.length - 1) (by omega) (fun j h1 h2 => hj j h1 (by omega))]
  simp only
  rw [if_neg (by omega)]
theorem stretch_nil {C T : List Nat} {x : Nat} (h2 : 0 < C.length) (hj : ∀ j, j < C.length → geF .f32 x (C.getD j 0) = false) : stretchV C T x = Value.nilIface := by
  unfold stretchV
  rw [lastGe_none _ (fun j h => hj j (by omega))]
set_option maxHeartbeats 4000000 in
theorem stretch_any (a : Option Addr) (n c : Nat) (C : List Nat) (b : Option Addr) (m e : Nat) (T : List Nat) (x : Nat) (w : World) (ha : FRd w a n c C) (hb : FRd w b m e T) (h2 : 2 ≤ n) (h16 : n ≤ 16) (hm : m = n) :
    Calls Try.prog 47 #[CV a n c b m e, .float .f32 x] w (RB7 (stretchV C T x) w) := by
  subst hm
  obtain ⟨k, rfl⟩ : ∃ k, m = k + 1 := ⟨m - 1, by omega⟩
  have hC : C.length = k + 1 := ha.1
  have S0 := Lib.hid (cst_new w a (k + 1) c b (k + 1) e)
  have Ha := Lib.hid ha
  have Hb := Lib.hid hb
  clear ha hb
  obtain ⟨X, hX⟩ : ∃ X : Nat → Nat, ∀ i, C.getD i 0 = X i := ⟨_, fun _ => rfl⟩
  obtain ⟨Y, hY⟩ : ∃ Y : Nat → Nat, ∀ i, T.getD i 0 = Y i := ⟨_, fun _ => rfl⟩
  have HX := Lib.hid (And.intro hX hY)
  have HP := Lib.hid (fun (i : Nat) (hi : i < k + 1) (w' : World) (hB : Below w.heap.size w w') => pointAt_any a (k + 1) c C b (k + 1) e T i w' (Ha.out.stays hB (Nat.le_refl _)) (Hb.out.stays hB (Nat.le_refl _)) hi hi)
  unfold CV RB7 at HP
  simp only [hX, hY] at HP
  clear hX hY
  unfold CV RB7
  go_enter Try.func47, Try.ntmps47
  go_wp2
  generalize (w.alloc (.cells #[.slice a (k + 1) c, .slice b (k + 1) e] 26)) = W at *
  have c0 := S0.out.box.cell 0 (by simp)
  have c1 := S0.out.box.cell 1 (by simp)
  simp only [List.getD_cons_zero, List.getD_cons_succ] at c0 c1
  refine wp_scope_jumps 0 (fun a' w' => ∃ (i : Nat) (u7 u8 u9 u10 u11 u12 u13 u14 u15 u16 u17 u18 u19 u20 u21 u22 u23 u24 u25 u26 u27 u28 u29 u30 u31 u32 u33 : Value), a' = { tmps := #[.agg #[.slice a (k + 1) c, .slice b (k + 1) e], .float .f32 x, .pointer (some ⟨w.heap.size, 0, none⟩), undef, Value.nilIface, .int .i64 i, .iface 74 (.agg #[.float .f32 (X i), .float .f32 (Y i), .float .f32 (X (i + 1)), .float .f32 (Y (i + 1))]), u7, u8, u9, u10, u11, u12, u13, u14, u15, u16, u17, u18, u19, u20, u21, u22, u23, u24, u25, u26, u27, u28, u29, u30, u31, u32, u33], defers := [] } ∧ i + 1 < k + 1 ∧ Hid (CSt w w' a (k + 1) c b (k + 1) e) ∧ Hid (∀ j, i < j → j < k + 1 → geF .f32 x (X j) = false)) (fun a' _ => (intOf (a'.tmps.getD 5 undef)).toNat) rfl ?_ ?_
  · go_wp2_with fail
    refine (HP.out k (by omega) _ S0.out.below).mono ?_
    rintro en w1 ⟨rfl, hb1⟩
    have S1 := Lib.hid (S0.out.call hb1)
    clear hb1 c0 c1
    go_wp2_with fail
    go_step3
    have hmL := fun (x y : Nat) (w : World) => (show (method 224 77 (.agg #[.float .f32 x, .float .f32 y]) "loop.example/g01212/impl.start").run Try.prog w = .ok (99, .agg #[.float .f32 x, .float .f32 y]) w by kernel_rfl)
    go_wp2_with fail
    refine (levStart_any _ _ _).mono ?_
    rintro en w4 ⟨rfl, hb4⟩
    have S4 := Lib.hid (S1.out.call hb4)
    clear hb4 S1 hmL
    have c0 := S4.out.box.cell 0 (by simp)
    have c1 := S4.out.box.cell 1 (by simp)
    simp only [List.getD_cons_zero, List.getD_cons_succ] at c0 c1
    cases hge : geF .f32 x (X k)
    · have hge' : (FloatKind.f32.format.order x (X k) == some .gt || FloatKind.f32.format.order x (X k) == some .eq) = false := hge
      have Hn := Lib.hid (show ∀ j, k - 1 < j → j < k + 1 → geF .f32 x (X j) = false from fun j h3 h4 => by
        obtain rfl : j = k := by omega
        exact hge)
      clear hge
      obtain ⟨j, rfl⟩ : ∃ j, k = j + 1 := ⟨k - 1, by omega⟩
      have hpos : (0 : Int) < (j : Int) + 1 := by omega
      go_wp2_with fail
      have hw1 : IntKind.i64.wrap (j : Int) = (j : Int) := by rw [IntWalk.i64_in _ (by omega)]
      have hw2 : IntKind.i64.wrap ((j : Int) + 1 - 1) = (j : Int) := by rw [Int.add_sub_cancel]; exact hw1
      have hPA := fun (w' : World) (hB : Below w.heap.size w w') => HP.out j (by omega) w' hB
      have hPB := fun (w' : World) (hB : Below w.heap.size w w') => HP.out (j + 1) (by omega) w' hB
      have GA := fun y : Grown w4 => hPA y.1 (S4.out.below.trans (y.2.mono S4.out.below.size))
      have GB := fun y : Grown w4 => hPB y.1 (S4.out.below.trans (y.2.mono S4.out.below.size))
      have q0 := fun y : Grown w4 => y.cell c0
      have q1 := fun y : Grown w4 => y.cell c1
      have G4 := Lib.hid (fun y : Grown w4 => S4.out.call y.2)
      simp only [Int.natCast_add, Int.cast_ofNat_Int] at GB
      clear c0 c1 hPA hPB S4
      refine wp_grown (by kernel_rfl) (by kernel_rfl) ?_
      repeat (go_big_quiet_step (first | (go_at_call_of 68 (Value.int .i64 (j : Int)); exact Grown.calls _ (GA _)) | (go_at_call 68; exact Grown.calls _ (GB _))))
      refine wpQuiet_nil ?_
      rintro _ ⟨v, rfl⟩
      have S5 := Lib.hid (G4.out v)
      clear G4 GA GB q0 q1
      generalize v.1 = w5 at *
      go_wp2_with fail
      go_step3
      exact ⟨rfl, j, _, _, _, _, _, _, _, _, _, _, _, _, _, _, _, _, _, _, _, _, _, _, _, _, _, _, _, rfl, by omega, S5, Lib.hid (fun i h3 h4 => Hn.out i (by omega) h4)⟩
    · have hge' : (FloatKind.f32.format.order x (X k) == some .gt || FloatKind.f32.format.order x (X k) == some .eq) = true := hge
      have He := Lib.hid (show stretchV C T x = LevV (X k) (Y k) by
        have h := stretch_lev (C := C) (T := T) (x := x) (by omega) (by rw [hC, Nat.add_sub_cancel, HX.out.1]; exact hge)
        rw [hC, Nat.add_sub_cancel, HX.out.1, HX.out.2] at h
        exact h)
      clear hge
      go_wp2_with fail
      simp only [Exit.jump]
      go_ret
      exact ⟨by rw [He.out]; rfl, S4.out.below⟩
  · rintro a' w' ⟨i, u7, u8, u9, u10, u11, u12, u13, u14, u15, u16, u17, u18, u19, u20, u21, u22, u23, u24, u25, u26, u27, u28, u29, u30, u31, u32, u33, rfl, hi, HS, HN⟩
    have hmF := fun (x y z t : Nat) (w : World) => (show (method 224 74 (.agg #[.float .f32 x, .float .f32 y, .float .f32 z, .float .f32 t]) "loop.example/g01212/impl.start").run Try.prog w = .ok (98, .agg #[.float .f32 x, .float .f32 y, .float .f32 z, .float .f32 t]) w by kernel_rfl)
    clear S0 c0 c1
    go_wp2_with fail
    refine (fallStart_any _ _ _ _ _).mono ?_
    rintro en w4 ⟨rfl, hb4⟩
    have S4 := Lib.hid (HS.out.call hb4)
    clear hb4 HS hmF
    have c0 := S4.out.box.cell 0 (by simp)
    have c1 := S4.out.box.cell 1 (by simp)
    simp only [List.getD_cons_zero, List.getD_cons_succ] at c0 c1
    cases hge : geF .f32 x (X i)
    · have hge' : (FloatKind.f32.format.order x (X i) == some .gt || FloatKind.f32.format.order x (X i) == some .eq) = false := hge
      have Hn := Lib.hid (show ∀ j, i ≤ j → j < k + 1 → geF .f32 x (X j) = false from fun j h3 h4 => by
        by_cases e : j = i
        · subst e; exact hge
        · exact HN.out j (by omega) h4)
      clear hge HN
      obtain rfl | ⟨j, rfl⟩ : i = 0 ∨ ∃ j, i = j + 1 := by
        cases i with
        | zero => exact .inl rfl
        | succ j => exact .inr ⟨j, rfl⟩
      · have He := Lib.hid (show stretchV C T x = Value.nilIface from stretch_nil (by omega) (fun j hj => by rw [HX.out.1]; exact Hn.out j (Nat.zero_le _) (by omega)))
        have hpos : ¬ (0 : Int) < 0 := by omega
        go_wp2_with fail
        simp only [Exit.jump]
        go_ret
        exact ⟨by rw [He.out]; rfl, S4.out.below⟩
      · have hpos : (0 : Int) < (j : Int) + 1 := by omega
        go_wp2_with fail
        have hw1 : IntKind.i64.wrap (j : Int) = (j : Int) := by rw [IntWalk.i64_in _ (by omega)]
        have hw2 : IntKind.i64.wrap ((j : Int) + 1 - 1) = (j : Int) := by rw [Int.add_sub_cancel]; exact hw1
        have hPA := fun (w' : World) (hB : Below w.heap.size w w') => HP.out j (by omega) w' hB
        have hPB := fun (w' : World) (hB : Below w.heap.size w w') => HP.out (j + 1) (by omega) w' hB
        have GA := fun y : Grown w4 => hPA y.1 (S4.out.below.trans (y.2.mono S4.out.below.size))
        have GB := fun y : Grown w4 => hPB y.1 (S4.out.below.trans (y.2.mono S4.out.below.size))
        have q0 := fun y : Grown w4 => y.cell c0
        have q1 := fun y : Grown w4 => y.cell c1
        have G4 := Lib.hid (fun y : Grown w4 => S4.out.call y.2)
        simp only [Int.natCast_add, Int.cast_ofNat_Int] at GB
        clear c0 c1 hPA hPB S4
        refine wp_grown (by kernel_rfl) (by kernel_rfl) ?_
        repeat (go_big_quiet_step (first | (go_at_call_of 68 (Value.int .i64 (j : Int)); exact Grown.calls _ (GA _)) | (go_at_call 68; exact Grown.calls _ (GB _))))
        refine wpQuiet_nil ?_
        rintro _ ⟨v, rfl⟩
        have S5 := Lib.hid (G4.out v)
        clear G4 GA GB q0 q1
        generalize v.1 = w5 at *
        go_wp2_with fail
        go_step3
        exact ⟨rfl, ⟨j, _, _, _, _, _, _, _, _, _, _, _, _, _, _, _, _, _, _, _, _, _, _, _, _, _, _, _, rfl, by omega, S5, Lib.hid (fun i h3 h4 => Hn.out i (by omega) h4)⟩, by simp [intOf]⟩
    · have hge' : (FloatKind.f32.format.order x (X i) == some .gt || FloatKind.f32.format.order x (X i) == some .eq) = true := hge
      have He := Lib.hid (show stretchV C T x = FallV (X i) (Y i) (X (i + 1)) (Y (i + 1)) by
        have h := stretch_fall (C := C) (T := T) (x := x) (i := i) (by omega) (by rw [HX.out.1]; exact hge) (fun j h3 h4 => by rw [HX.out.1]; exact HN.out j h3 (by omega))
        rw [HX.out.1, HX.out.1, HX.out.2, HX.out.2] at h
        exact h)
      clear hge HN
      go_wp2_with fail
      simp only [Exit.jump]
      go_ret
      exact ⟨by rw [He.out]; rfl, S4.out.below⟩
end Go.Proofs.Ythkjikennlaelaa
