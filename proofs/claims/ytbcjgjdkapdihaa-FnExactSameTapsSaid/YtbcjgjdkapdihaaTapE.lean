/-
  Taps that are the same. No theorem of a claim stands here.
-/
import Derived.Test.YtbcjgjdkapdihaaTapS
import Derived.Test.YtbcjgjdkapdihaaBits
import Derived.Laws.StructEq
import Derived.Laws.Cover2
set_option linter.unusedVariables false
set_option linter.unusedSimpArgs false
set_option maxRecDepth 8000
namespace Go.Proofs.Ytbcjgjdkapdihaa
open Go Go.RowKit Go.Deep Go.Proofs.Ytbcjgjdkapdihaa.Fl

/-- The value of the taps. -/
def TapN.val (t : TapN) : Value := .agg #[.int .i64 t.b, .int .i64 t.x, .int .i64 t.y, .int .i64 t.z, .float .f32 t.e]
def sameE (a b : Nat) : Bool := bitsV (vl .f32 a) == bitsV (vl .f32 b)
def sameT (t u : TapN) : Bool := t.b == u.b && (t.x == u.x && t.y == u.y && t.z == u.z) && sameE t.e u.e

theorem implSame_any (a b : Nat) (ha : a < 2 ^ 32) (hb : b < 2 ^ 32) (w : World) : Calls Try.prog 144 #[.float .f32 a, .float .f32 b] w (VRet (.bool (sameE a b)) w) := by
  unfold sameE
  go_enter Try.func144, Try.ntmps144
  go_wp2_with (first | (go_at_call 194; refine (bitsOf_any _ (by assumption) _).mono ?_; rintro e w' ⟨m, rfl, rfl⟩))
  go_ret
  exact ⟨_, rfl, rfl⟩
theorem l01Same_any (a b : Nat) (ha : a < 2 ^ 32) (hb : b < 2 ^ 32) (w : World) : Calls Try.prog 92 #[.float .f32 a, .float .f32 b] w (VRet (.bool (sameE a b)) w) := by
  unfold sameE
  go_enter Try.func92, Try.ntmps92
  go_wp2_with (first | (go_at_call 158; refine (l01Bits_any _ (by assumption) _).mono ?_; rintro e w' ⟨m, rfl, rfl⟩))
  go_ret
  exact ⟨_, rfl, rfl⟩
set_option maxHeartbeats 4000000 in
theorem eqTap_any (t : TapN) (w : World) : Calls Try.prog 145 #[t.val, t.val] w fun en w' => en = .returned (.bool true) ∧ Below w.heap.size w w' := by
  obtain ⟨b, x, y, z, e⟩ := t
  unfold TapN.val
  have hcv := run_cv
  go_enter Try.func145, Try.ntmps145
  go_wp2_with (go_at_call 150; refine (sameFloat_any _ _ (same_cvv _ _ _) _).mono ?_; rintro en w' ⟨m, rfl, rfl⟩)
  try simp only [Exit.inBlock, Exit.then]
  go_ret
  refine ⟨rfl, ?_⟩
  exact (((Below.refl _ w).alloc (Nat.le_refl _) _).alloc (by simp) _).trans (show Below w.heap.size _ (World.drewN _ _) from ⟨rfl, rfl, rfl, Nat.le_refl _, fun _ _ => rfl⟩)
set_option maxHeartbeats 4000000 in
theorem eqTapS_any (w : World) (g g2 len m m2 c c2 : Nat) (S : Nat → TapN) (h1 : TR w g m len S) (h2 : TR w g2 m2 len S) (hm : len * 5 ≤ m) (hm2 : len * 5 ≤ m2) (hl : len ≤ 1048576) (hc : len ≤ c) (hc2 : len ≤ c2) :
    Calls Try.prog 71 #[.slice (some ⟨g, 0, none⟩) len c, .slice (some ⟨g2, 0, none⟩) len c2] w fun en w' => en = .returned (.bool true) ∧ Below w.heap.size w w' := by
  have hne : ((len : Int) != (len : Int)) = false := by simp
  have H1 := Lib.hid h1
  have H2 := Lib.hid h2
  clear h1 h2
  go_enter Try.func71, Try.ntmps71
  go_wp2
  go_loopw [5] (fun i wr => ∃ k : Nat, k ≤ len ∧ i = .int .i64 k ∧ Hid (Below w.heap.size w wr)) (fun i _ => len - (intOf i).toNat)
  case atStart => exact ⟨0, Nat.zero_le _, rfl, Lib.hid (Below.refl _ _)⟩
  case round =>
    obtain ⟨k, hk, rfl, Hw⟩ := hrel
    by_cases hlt : k < len
    · have r1 := H1.out.below Hw.out H1.out.lt
      have r2 := H2.out.below Hw.out H2.out.lt
      have c0 := fun y : Grown wr => y.cell (r1.cell (i := k) (q := 0) hlt (by omega) (by omega))
      have c1 := fun y : Grown wr => y.cell (r1.cell (i := k) (q := 1) hlt (by omega) (by omega))
      have c2 := fun y : Grown wr => y.cell (r1.cell (i := k) (q := 2) hlt (by omega) (by omega))
      have c3 := fun y : Grown wr => y.cell (r1.cell (i := k) (q := 3) hlt (by omega) (by omega))
      have c4 := fun y : Grown wr => y.cell (r1.cell (i := k) (q := 4) hlt (by omega) (by omega))
      have d0 := fun y : Grown wr => y.cell (r2.cell (i := k) (q := 0) hlt (by omega) (by omega))
      have d1 := fun y : Grown wr => y.cell (r2.cell (i := k) (q := 1) hlt (by omega) (by omega))
      have d2 := fun y : Grown wr => y.cell (r2.cell (i := k) (q := 2) hlt (by omega) (by omega))
      have d3 := fun y : Grown wr => y.cell (r2.cell (i := k) (q := 3) hlt (by omega) (by omega))
      have d4 := fun y : Grown wr => y.cell (r2.cell (i := k) (q := 4) hlt (by omega) (by omega))
      have hE := fun w => eqTap_any (S k) w
      unfold TapN.val at hE
      simp only [tv, Nat.add_zero] at c0 c1 c2 c3 c4 d0 d1 d2 d3 d4
      generalize (S k).b = vb at *
      generalize (S k).x = vx at *
      generalize (S k).y = vy at *
      generalize (S k).z = vz at *
      generalize (S k).e = ve at *
      clear r1 r2
      go_wp2_with fail
      refine wp_grown (by kernel_rfl) (by kernel_rfl) ?_
      repeat (go_big_quiet_step (exact Grown.calls _ (hE _)))
      refine wpQuiet_nil ?_
      rintro _ ⟨y, rfl⟩
      have Hy := Lib.hid (Hw.out.trans (y.2.mono Hw.out.size))
      generalize y.1 = w5 at *
      clear c0 c1 c2 c3 c4 d0 d1 d2 d3 d4 hE
      go_wp2
      go_roundw
      case rel => exact ⟨k + 1, by omega, by go_num, Hy⟩
      case measure => simp [intOf]; omega
    · obtain rfl : k = len := by omega
      go_wp2
      go_ret
      exact ⟨rfl, Hw.out⟩
theorem eqSteps (x y z x' y' z' : Int) (w : World) : (Op.equalIn 10000 159 (.agg #[.int .i64 x, .int .i64 y, .int .i64 z]) (.agg #[.int .i64 x', .int .i64 y', .int .i64 z'])).run Try.prog w = .ok (x == x' && y == y' && z == z') w := by
  have u3 := Try.underlying2
  have a3 := Try.isAgg2
  have z3 := Try.sizeOf2
  rw [show (10000 : Nat) = 9999 + 1 from rfl, Op.equalIn]
  simp only [Sem.run_bind, run_underlying Try.underlying159, Result.andThen_ok]
  simp only [Std.Legacy.Range.forIn_eq_forIn_range', Std.Legacy.Range.size, Nat.sub_zero, Nat.add_sub_cancel, Nat.div_one, List.range'_succ, List.range'_zero, List.forIn_cons, List.forIn_nil]
  go_simp
  by_cases h1 : x = x' <;> by_cases h2 : y = y' <;> by_cases h3 : z = z' <;> simp [h1, h2, h3]
set_option maxHeartbeats 4000000 in
theorem sameTap_any (t u : TapN) (ht : t.e < 2 ^ 32) (hu : u.e < 2 ^ 32) (w : World) : Calls Try.prog 136 #[t.val, u.val] w fun en w' => en = .returned (.bool (sameT t u)) ∧ Below w.heap.size w w' := by
  obtain ⟨b, x, y, z, e⟩ := t
  obtain ⟨b', x', y', z', e'⟩ := u
  have hS := fun w : World => stepsOf_any b x y z e w
  have hS2 := fun w : World => stepsOf_any b' x' y' z' e' w
  have hN := fun w' : World => (implSame_any e e' ht hu w').mono fun en w'' ⟨m, h1, h2⟩ => (show _ ∧ Below w'.heap.size w' w'' from ⟨h1, by subst h2; exact below_drawn _ _⟩)
  have hcmp : ∀ w : World, (binOp .eql 159 (.agg #[.int .i64 x, .int .i64 y, .int .i64 z]) (.agg #[.int .i64 x', .int .i64 y', .int .i64 z'])).run Try.prog w = .ok (.bool (x == x' && y == y' && z == z')) w := fun w => by
    rw [run_eql_struct, eqSteps]; rfl
  unfold TapN.val sameT
  unfold TV at hS hS2
  simp only at *
  have q0 : ∀ W, W = ((w.alloc (.cells #[.int .i64 b, .int .i64 x, .int .i64 y, .int .i64 z, .float .f32 e] 103)).alloc (.cells #[.int .i64 b', .int .i64 x', .int .i64 y', .int .i64 z', .float .f32 e'] 103)) →
    W.cell? ⟨w.heap.size, 0, none⟩ = some (.int .i64 b) ∧ W.cell? ⟨w.heap.size, 1, none⟩ = some (.int .i64 x) ∧ W.cell? ⟨w.heap.size, 2, none⟩ = some (.int .i64 y) ∧ W.cell? ⟨w.heap.size, 3, none⟩ = some (.int .i64 z) ∧ W.cell? ⟨w.heap.size, 4, none⟩ = some (.float .f32 e) ∧
    W.cell? ⟨w.heap.size + 1, 0, none⟩ = some (.int .i64 b') ∧ W.cell? ⟨w.heap.size + 1, 1, none⟩ = some (.int .i64 x') ∧ W.cell? ⟨w.heap.size + 1, 2, none⟩ = some (.int .i64 y') ∧ W.cell? ⟨w.heap.size + 1, 3, none⟩ = some (.int .i64 z') ∧ W.cell? ⟨w.heap.size + 1, 4, none⟩ = some (.float .f32 e') ∧ Below w.heap.size w W := by
    rintro W rfl
    refine ⟨?_, ?_, ?_, ?_, ?_, ?_, ?_, ?_, ?_, ?_, ((Below.refl _ w).alloc (Nat.le_refl _) _).alloc (by simp) _⟩
    all_goals simp [go_sem]
  go_enter Try.func136, Try.ntmps136
  go_wp2_with fail
  obtain ⟨a0, a1, a2, a3, a4, e0, e1, e2, e3, e4, hb⟩ := q0 _ rfl
  generalize ((w.alloc (.cells #[.int .i64 b, .int .i64 x, .int .i64 y, .int .i64 z, .float .f32 e] 103)).alloc (.cells #[.int .i64 b', .int .i64 x', .int .i64 y', .int .i64 z', .float .f32 e'] 103)) = W at *
  have Hb := Lib.hid hb
  have c0 := fun y : Grown W => y.cell a0
  have c1 := fun y : Grown W => y.cell a1
  have c2 := fun y : Grown W => y.cell a2
  have c3 := fun y : Grown W => y.cell a3
  have c4 := fun y : Grown W => y.cell a4
  have d0 := fun y : Grown W => y.cell e0
  have d1 := fun y : Grown W => y.cell e1
  have d2 := fun y : Grown W => y.cell e2
  have d3 := fun y : Grown W => y.cell e3
  have d4 := fun y : Grown W => y.cell e4
  clear q0 a0 a1 a2 a3 a4 e0 e1 e2 e3 e4 hb

  cases h1 : (b == b')
  · refine wp_grown (by kernel_rfl) (by kernel_rfl) ?_
    repeat (go_big_quiet_step (fail))
    refine wpQuiet_nil ?_
    rintro _ ⟨v, rfl⟩
    go_wp2
    go_ret
    exact ⟨by rw [h1]; first | rfl | (rw [h2]; rfl), Hb.out.trans (v.2.mono Hb.out.size)⟩
  · cases h2 : (x == x' && y == y' && z == z')
    · simp only [h2] at hcmp
      refine wp_grown (by kernel_rfl) (by kernel_rfl) ?_
      repeat (go_big_quiet_step (first | (go_at_call_of 148 (Value.int .i64 x); exact Grown.calls _ (hS _)) | (go_at_call_of 148 (Value.int .i64 x'); exact Grown.calls _ (hS2 _))))
      refine wpQuiet_nil ?_
      rintro _ ⟨v, rfl⟩
      go_wp2
      go_ret
      exact ⟨by rw [h1]; first | rfl | (rw [h2]; rfl), Hb.out.trans (v.2.mono Hb.out.size)⟩
    · simp only [h2] at hcmp
      refine wp_grown (by kernel_rfl) (by kernel_rfl) ?_
      repeat (go_big_quiet_step (first | (go_at_call_of 148 (Value.int .i64 x); exact Grown.calls _ (hS _)) | (go_at_call_of 148 (Value.int .i64 x'); exact Grown.calls _ (hS2 _)) | exact Grown.calls _ (hN _)))
      refine wpQuiet_nil ?_
      rintro _ ⟨v, rfl⟩
      go_wp2
      go_ret
      exact ⟨by rw [h1]; first | rfl | (rw [h2]; rfl), Hb.out.trans (v.2.mono Hb.out.size)⟩
/-- Whether the first n taps are the same. -/
def sameAll (S U : Nat → TapN) (n : Nat) : Bool := (List.range n).all fun k => sameT (S k) (U k)
theorem sameAll_no {S U : Nat → TapN} {n k : Nat} (hk : k < n) (h : sameT (S k) (U k) = false) : sameAll S U n = false := by
  unfold sameAll
  rw [List.all_eq_false]
  exact ⟨k, List.mem_range.2 hk, by rw [h]; simp⟩
theorem sameAll_yes {S U : Nat → TapN} {n : Nat} (h : ∀ k, k < n → sameT (S k) (U k) = true) : sameAll S U n = true := by
  unfold sameAll
  rw [List.all_eq_true]
  exact fun k hk => h k (List.mem_range.1 hk)
set_option maxHeartbeats 4000000 in
theorem equalFunc_any (w : World) (g g2 n n2 m m2 c c2 : Nat) (S U : Nat → TapN) (h1 : TR w g m n S) (h2 : TR w g2 m2 n2 U) (e1 : ∀ k, k < n → (S k).e < 2 ^ 32) (e2 : ∀ k, k < n2 → (U k).e < 2 ^ 32) (hm : n * 5 ≤ m) (hm2 : n2 * 5 ≤ m2) (hl : n ≤ 1048576) (hl2 : n2 ≤ 1048576) (hc : n ≤ c) (hc2 : n2 ≤ c2) :
    Calls Try.prog 135 #[.slice (some ⟨g, 0, none⟩) n c, .slice (some ⟨g2, 0, none⟩) n2 c2, .func (.func 136) #[] #[]] w fun en w' => en = .returned (.bool (n == n2 && sameAll S U n)) ∧ Below w.heap.size w w' := by
  have hst := fun (a : Addr) (v : Nat) (m : Mode) (w : World) => run_store Try.prog w a (.float .f32 v) m rfl
  by_cases hn : n = n2
  · subst hn
    have hne : ((n : Int) != (n : Int)) = false := by simp
    have hR : (n == n && sameAll S U n) = sameAll S U n := by simp
    have HR := Lib.hid hR
    have H1 := Lib.hid h1
    have H2 := Lib.hid h2
    have E := Lib.hid (And.intro e1 e2)
    clear h1 h2 e1 e2 hR
    go_enter Try.func135, Try.ntmps135
    go_wp2
    go_loopw [17] (fun i wr => ∃ k : Nat, k ≤ n ∧ i = .int .i64 k ∧ Hid (Below w.heap.size w wr) ∧ Hid (∀ j, j < k → sameT (S j) (U j) = true)) (fun i _ => n - (intOf i).toNat)
    case atStart => exact ⟨0, Nat.zero_le _, rfl, Lib.hid (Below.refl _ _), Lib.hid (fun j hj => by omega)⟩
    case round =>
      obtain ⟨k, hk, rfl, Hw, Hj⟩ := hrel
      by_cases hlt : k < n
      · have r1 := H1.out.below Hw.out H1.out.lt
        have r2 := H2.out.below Hw.out H2.out.lt
        have hE := fun w => sameTap_any (S k) (U k) (E.out.1 k hlt) (E.out.2 k hlt) w
        have a0 := r1.cell (i := k) (q := 0) hlt (by omega) (by omega)
        have a1 := r1.cell (i := k) (q := 1) hlt (by omega) (by omega)
        have a2 := r1.cell (i := k) (q := 2) hlt (by omega) (by omega)
        have a3 := r1.cell (i := k) (q := 3) hlt (by omega) (by omega)
        have a4 := r1.cell (i := k) (q := 4) hlt (by omega) (by omega)
        have b0 : ∀ o, (wr.alloc o).cell? ⟨g2, k * 5, none⟩ = some (tv (U k) 0) := fun o => (World.cell?_alloc_lt _ _ _ r2.lt).trans (r2.cell (i := k) (q := 0) hlt (by omega) (by omega))
        have b1 : ∀ o, (wr.alloc o).cell? ⟨g2, k * 5 + 1, none⟩ = some (tv (U k) 1) := fun o => (World.cell?_alloc_lt _ _ _ r2.lt).trans (r2.cell (i := k) (q := 1) hlt (by omega) (by omega))
        have b2 : ∀ o, (wr.alloc o).cell? ⟨g2, k * 5 + 2, none⟩ = some (tv (U k) 2) := fun o => (World.cell?_alloc_lt _ _ _ r2.lt).trans (r2.cell (i := k) (q := 2) hlt (by omega) (by omega))
        have b3 : ∀ o, (wr.alloc o).cell? ⟨g2, k * 5 + 3, none⟩ = some (tv (U k) 3) := fun o => (World.cell?_alloc_lt _ _ _ r2.lt).trans (r2.cell (i := k) (q := 3) hlt (by omega) (by omega))
        have b4 : ∀ o, (wr.alloc o).cell? ⟨g2, k * 5 + 4, none⟩ = some (tv (U k) 4) := fun o => (World.cell?_alloc_lt _ _ _ r2.lt).trans (r2.cell (i := k) (q := 4) hlt (by omega) (by omega))
        have hno := fun h => @sameAll_no S U n k hlt h
        unfold TapN.val at hE
        simp only [tv, Nat.add_zero] at a0 a1 a2 a3 a4 b0 b1 b2 b3 b4
        generalize hsm : sameT (S k) (U k) = sm at *
        have Hsm := Lib.hid hsm
        have Hno := Lib.hid hno
        have Hsz := Lib.hid Hw.out.size
        clear hsm hno
        generalize (S k).b = vb at *
        generalize (S k).x = vx at *
        generalize (S k).y = vy at *
        generalize (S k).z = vz at *
        generalize (S k).e = ve at *
        generalize (U k).b = ub at *
        generalize (U k).x = ux at *
        generalize (U k).y = uy at *
        generalize (U k).z = uz at *
        generalize (U k).e = ue at *
        clear r1 r2
        cases sm
        · go_wp2_with (go_at_call 136; refine (hE _).mono ?_; clear hE; rintro en w5 ⟨rfl, hb5⟩; have Hb5 := Lib.hid (((Hw.out.alloc Hsz.out _).alloc (by have := Hsz.out; simp; omega) _).trans (hb5.mono (by have := Hsz.out; simp; omega))); clear hb5)
          go_ret
          exact ⟨by first | (rw [HR.out, Hno.out trivial]; rfl) | (rw [Hno.out trivial]; rfl), Hb5.out⟩
        · go_wp2_with (go_at_call 136; refine (hE _).mono ?_; clear hE; rintro en w5 ⟨rfl, hb5⟩; have Hb5 := Lib.hid (((Hw.out.alloc Hsz.out _).alloc (by have := Hsz.out; simp; omega) _).trans (hb5.mono (by have := Hsz.out; simp; omega))); clear hb5)
          go_roundw
          case rel => exact ⟨k + 1, by omega, by go_num, Hb5, Lib.hid (fun j hj => by
            by_cases e : j = k
            · subst e; exact Hsm.out
            · exact Hj.out j (by omega))⟩
          case measure => simp [intOf]; omega
      · obtain rfl : k = n := by omega
        have hy := sameAll_yes Hj.out
        go_wp2
        go_ret
        exact ⟨by first | (rw [HR.out, hy]; rfl) | (rw [hy]; rfl), Hw.out⟩
  · have hne : ((n : Int) != (n2 : Int)) = true := by simp; omega
    have hR : (n == n2 && sameAll S U n) = false := by simp [hn]
    clear h1 h2 e1 e2
    go_enter Try.func135, Try.ntmps135
    go_wp2
    go_ret
    exact ⟨by rw [hR]; rfl, Below.refl _ _⟩
theorem implSameTaps_any (w : World) (g g2 n n2 m m2 c c2 : Nat) (S U : Nat → TapN) (h1 : TR w g m n S) (h2 : TR w g2 m2 n2 U) (e1 : ∀ k, k < n → (S k).e < 2 ^ 32) (e2 : ∀ k, k < n2 → (U k).e < 2 ^ 32) (hm : n * 5 ≤ m) (hm2 : n2 * 5 ≤ m2) (hl : n ≤ 1048576) (hl2 : n2 ≤ 1048576) (hc : n ≤ c) (hc2 : n2 ≤ c2) :
    Calls Try.prog 51 #[.slice (some ⟨g, 0, none⟩) n c, .slice (some ⟨g2, 0, none⟩) n2 c2] w fun en w' => en = .returned (.bool (n == n2 && sameAll S U n)) ∧ Below w.heap.size w w' := by
  have hE := equalFunc_any w g g2 n n2 m m2 c c2 S U h1 h2 e1 e2 hm hm2 hl hl2 hc hc2
  clear h1 h2 e1 e2
  generalize (n == n2 && sameAll S U n) = r at *
  go_enter Try.func51, Try.ntmps51
  go_wp2_with fail
  refine hE.mono ?_
  rintro en w1 ⟨rfl, hb⟩
  have Hb := Lib.hid hb
  clear hE hb
  go_wp2
  go_ret
  exact ⟨rfl, Hb.out⟩
set_option maxHeartbeats 4000000 in
theorem specSameTaps_any (w : World) (g g2 n n2 m m2 c c2 : Nat) (S U : Nat → TapN) (h1 : TR w g m n S) (h2 : TR w g2 m2 n2 U) (e1 : ∀ k, k < n → (S k).e < 2 ^ 32) (e2 : ∀ k, k < n2 → (U k).e < 2 ^ 32) (hm : n * 5 ≤ m) (hm2 : n2 * 5 ≤ m2) (hl : n ≤ 1048576) (hl2 : n2 ≤ 1048576) (hc : n ≤ c) (hc2 : n2 ≤ c2) :
    Calls Try.prog 69 #[.slice (some ⟨g, 0, none⟩) n c, .slice (some ⟨g2, 0, none⟩) n2 c2] w fun en w' => en = .returned (.bool (n == n2 && sameAll S U n)) ∧ Below w.heap.size w w' := by
  by_cases hn : n = n2
  · subst hn
    have hne : ((n : Int) != (n : Int)) = false := by simp
    have hR : (n == n && sameAll S U n) = sameAll S U n := by simp
    have HR := Lib.hid hR
    have H1 := Lib.hid h1
    have H2 := Lib.hid h2
    have E := Lib.hid (And.intro e1 e2)
    clear h1 h2 e1 e2 hR
    go_enter Try.func69, Try.ntmps69
    go_wp2
    go_loopw [13] (fun i wr => ∃ k : Nat, k ≤ n ∧ i = .int .i64 k ∧ Hid (Below w.heap.size w wr) ∧ Hid (∀ j, j < k → sameT (S j) (U j) = true)) (fun i _ => n - (intOf i).toNat)
    case atStart => exact ⟨0, Nat.zero_le _, rfl, Lib.hid (Below.refl _ _), Lib.hid (fun j hj => by omega)⟩
    case round =>
      obtain ⟨k, hk, rfl, Hw, Hj⟩ := hrel
      by_cases hlt : k < n
      · have r1 := H1.out.below Hw.out H1.out.lt
        have r2 := H2.out.below Hw.out H2.out.lt
        have hN := fun w' : World => (l01Same_any (S k).e (U k).e (E.out.1 k hlt) (E.out.2 k hlt) w').mono fun en w'' ⟨m, h1, h2⟩ => (show _ ∧ Below w'.heap.size w' w'' from ⟨h1, by subst h2; exact below_drawn _ _⟩)
        have a0 := fun y : Grown wr => y.cell (r1.cell (i := k) (q := 0) hlt (by omega) (by omega))
        have a1 := fun y : Grown wr => y.cell (r1.cell (i := k) (q := 1) hlt (by omega) (by omega))
        have a2 := fun y : Grown wr => y.cell (r1.cell (i := k) (q := 2) hlt (by omega) (by omega))
        have a3 := fun y : Grown wr => y.cell (r1.cell (i := k) (q := 3) hlt (by omega) (by omega))
        have a4 := fun y : Grown wr => y.cell (r1.cell (i := k) (q := 4) hlt (by omega) (by omega))
        have b0 := fun y : Grown wr => y.cell (r2.cell (i := k) (q := 0) hlt (by omega) (by omega))
        have b1 := fun y : Grown wr => y.cell (r2.cell (i := k) (q := 1) hlt (by omega) (by omega))
        have b2 := fun y : Grown wr => y.cell (r2.cell (i := k) (q := 2) hlt (by omega) (by omega))
        have b3 := fun y : Grown wr => y.cell (r2.cell (i := k) (q := 3) hlt (by omega) (by omega))
        have b4 := fun y : Grown wr => y.cell (r2.cell (i := k) (q := 4) hlt (by omega) (by omega))
        have Hno := Lib.hid (fun h => @sameAll_no S U n k hlt h)
        have hsm : sameT (S k) (U k) = ((S k).b == (U k).b && ((S k).x == (U k).x && (S k).y == (U k).y && (S k).z == (U k).z) && sameE (S k).e (U k).e) := rfl
        simp only [tv, Nat.add_zero] at a0 a1 a2 a3 a4 b0 b1 b2 b3 b4
        generalize hs0 : sameT (S k) (U k) = sm at *
        have Hsz := Lib.hid Hw.out.size
        have HY := Lib.hid (show sm = true → ∀ j, j < k + 1 → sameT (S j) (U j) = true from fun h j hj => by
          by_cases e : j = k
          · subst e; rw [hs0]; exact h
          · exact Hj.out j (by omega))
        generalize (S k).b = vb at *
        generalize (S k).x = vx at *
        generalize (S k).y = vy at *
        generalize (S k).z = vz at *
        generalize sameE (S k).e (U k).e = se at *
        generalize (S k).e = ve at *
        generalize (U k).b = ub at *
        generalize (U k).x = ux at *
        generalize (U k).y = uy at *
        generalize (U k).z = uz at *
        generalize (U k).e = ue at *
        clear r1 r2
        go_wp2_with fail
        cases hb : (vb == ub)
        · have nhb : (vb != ub) = true := by simp only [bne, hb]; rfl
          have hs : sm = false := by rw [hsm]; simp [hb]
          have Hs := Lib.hid hs
          clear hs hsm hs0
          refine wp_grown (by kernel_rfl) (by kernel_rfl) ?_
          repeat (go_big_quiet_step (exact Grown.calls _ (hN _)))
          refine wpQuiet_nil ?_
          rintro _ ⟨v, rfl⟩
          have Hv := Lib.hid (Hw.out.trans (v.2.mono Hw.out.size))
          generalize v.1 = w5 at *
          clear a0 a1 a2 a3 a4 b0 b1 b2 b3 b4 hN
          go_wp2
          go_ret
          exact ⟨by first | (rw [HR.out, Hno.out Hs.out]; rfl) | (rw [Hno.out Hs.out]; rfl), Hv.out⟩
        · have nhb : (vb != ub) = false := by simp only [bne, hb]; rfl
          cases hx : (vx == ux)
          · have nhx : (vx != ux) = true := by simp only [bne, hx]; rfl
            have hs : sm = false := by rw [hsm]; simp [hb, hx]
            have Hs := Lib.hid hs
            clear hs hsm hs0
            refine wp_grown (by kernel_rfl) (by kernel_rfl) ?_
            repeat (go_big_quiet_step (exact Grown.calls _ (hN _)))
            refine wpQuiet_nil ?_
            rintro _ ⟨v, rfl⟩
            have Hv := Lib.hid (Hw.out.trans (v.2.mono Hw.out.size))
            generalize v.1 = w5 at *
            clear a0 a1 a2 a3 a4 b0 b1 b2 b3 b4 hN
            go_wp2
            go_ret
            exact ⟨by first | (rw [HR.out, Hno.out Hs.out]; rfl) | (rw [Hno.out Hs.out]; rfl), Hv.out⟩
          · have nhx : (vx != ux) = false := by simp only [bne, hx]; rfl
            cases hy : (vy == uy)
            · have nhy : (vy != uy) = true := by simp only [bne, hy]; rfl
              have hs : sm = false := by rw [hsm]; simp [hb, hx, hy]
              have Hs := Lib.hid hs
              clear hs hsm hs0
              refine wp_grown (by kernel_rfl) (by kernel_rfl) ?_
              repeat (go_big_quiet_step (exact Grown.calls _ (hN _)))
              refine wpQuiet_nil ?_
              rintro _ ⟨v, rfl⟩
              have Hv := Lib.hid (Hw.out.trans (v.2.mono Hw.out.size))
              generalize v.1 = w5 at *
              clear a0 a1 a2 a3 a4 b0 b1 b2 b3 b4 hN
              go_wp2
              go_ret
              exact ⟨by first | (rw [HR.out, Hno.out Hs.out]; rfl) | (rw [Hno.out Hs.out]; rfl), Hv.out⟩
            · have nhy : (vy != uy) = false := by simp only [bne, hy]; rfl
              cases hz : (vz == uz)
              · have nhz : (vz != uz) = true := by simp only [bne, hz]; rfl
                have hs : sm = false := by rw [hsm]; simp [hb, hx, hy, hz]
                have Hs := Lib.hid hs
                clear hs hsm hs0
                refine wp_grown (by kernel_rfl) (by kernel_rfl) ?_
                repeat (go_big_quiet_step (exact Grown.calls _ (hN _)))
                refine wpQuiet_nil ?_
                rintro _ ⟨v, rfl⟩
                have Hv := Lib.hid (Hw.out.trans (v.2.mono Hw.out.size))
                generalize v.1 = w5 at *
                clear a0 a1 a2 a3 a4 b0 b1 b2 b3 b4 hN
                go_wp2
                go_ret
                exact ⟨by first | (rw [HR.out, Hno.out Hs.out]; rfl) | (rw [Hno.out Hs.out]; rfl), Hv.out⟩
              · have nhz : (vz != uz) = false := by simp only [bne, hz]; rfl
                cases se
                · skip
                  have hs : sm = false := by rw [hsm]; simp
                  have Hs := Lib.hid hs
                  clear hs hsm hs0
                  refine wp_grown (by kernel_rfl) (by kernel_rfl) ?_
                  repeat (go_big_quiet_step (exact Grown.calls _ (hN _)))
                  refine wpQuiet_nil ?_
                  rintro _ ⟨v, rfl⟩
                  have Hv := Lib.hid (Hw.out.trans (v.2.mono Hw.out.size))
                  generalize v.1 = w5 at *
                  clear a0 a1 a2 a3 a4 b0 b1 b2 b3 b4 hN
                  go_wp2
                  go_ret
                  exact ⟨by first | (rw [HR.out, Hno.out Hs.out]; rfl) | (rw [Hno.out Hs.out]; rfl), Hv.out⟩
                · skip
                  have hs : sm = true := by rw [hsm, hb, hx, hy, hz]; rfl
                  have Hs := Lib.hid hs
                  clear hs hsm hs0
                  refine wp_grown (by kernel_rfl) (by kernel_rfl) ?_
                  repeat (go_big_quiet_step (exact Grown.calls _ (hN _)))
                  refine wpQuiet_nil ?_
                  rintro _ ⟨v, rfl⟩
                  have Hv := Lib.hid (Hw.out.trans (v.2.mono Hw.out.size))
                  generalize v.1 = w5 at *
                  clear a0 a1 a2 a3 a4 b0 b1 b2 b3 b4 hN
                  go_wp2
                  go_roundw
                  case rel => exact ⟨k + 1, by omega, by go_num, Hv, Lib.hid (HY.out Hs.out)⟩
                  case measure => simp [intOf]; omega
      · obtain rfl : k = n := by omega
        have hy := sameAll_yes Hj.out
        go_wp2
        go_ret
        exact ⟨by first | (rw [HR.out, hy]; rfl) | (rw [hy]; rfl), Hw.out⟩
  · have hne : ((n : Int) != (n2 : Int)) = true := by simp; omega
    have hR : (n == n2 && sameAll S U n) = false := by simp [hn]
    clear h1 h2 e1 e2
    go_enter Try.func69, Try.ntmps69
    go_wp2
    go_ret
    exact ⟨by rw [hR]; rfl, Below.refl _ _⟩
end Go.Proofs.Ytbcjgjdkapdihaa
