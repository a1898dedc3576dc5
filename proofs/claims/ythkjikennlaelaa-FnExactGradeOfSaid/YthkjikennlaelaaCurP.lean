/-
  Curves in the program: which are valid. No theorem of a claim stands here.
-/
import Derived.Test.YthkjikennlaelaaCur
import Derived.Test.YthkjikennlaelaaFuseP
import Derived.Test.YthkjikennlaelaaRowC
import Derived.Deep.Light
set_option linter.unusedVariables false
set_option linter.unusedSimpArgs false
set_option maxRecDepth 8000
namespace Go.Proofs.Ythkjikennlaelaa
open Go Go.RowKit Go.Deep Go.Proofs.Ythkjikennlaelaa.Fl

theorem bx3 (w : World) (L M N : List Value) (t u v : TypeId) : RL (((w.alloc (.cells L.toArray t)).alloc (.cells M.toArray u)).alloc (.cells N.toArray v)) w.heap.size t L ∧ RL (((w.alloc (.cells L.toArray t)).alloc (.cells M.toArray u)).alloc (.cells N.toArray v)) (w.heap.size + 1) u M ∧
    RL (((w.alloc (.cells L.toArray t)).alloc (.cells M.toArray u)).alloc (.cells N.toArray v)) (w.heap.size + 1 + 1) v N ∧ Below w.heap.size w (((w.alloc (.cells L.toArray t)).alloc (.cells M.toArray u)).alloc (.cells N.toArray v)) := by
  obtain ⟨h1, h2, h3⟩ := bx2 w L M t u
  have h4 := RL.new ((w.alloc (.cells L.toArray t)).alloc (.cells M.toArray u)) N v
  simp only [World.size_alloc] at h4
  exact ⟨h1.allocd _, h2.allocd _, h4, h3.alloc (by simp only [World.size_alloc]; omega) _⟩
/-- The value of a curve. -/
def CV (a : Option Addr) (n c : Nat) (b : Option Addr) (m e : Nat) : Value := .agg #[.slice a n c, .slice b m e]
/-- The box of a curve, and all else as it was. -/
structure CSt (w wr : World) (a : Option Addr) (n c : Nat) (b : Option Addr) (m e : Nat) : Prop where
  box : RL wr w.heap.size 26 [.slice a n c, .slice b m e]
  below : Below w.heap.size w wr
theorem CSt.call {w wr w' : World} {a : Option Addr} {n c : Nat} {b : Option Addr} {m e : Nat} (s : CSt w wr a n c b m e) (hb : Below wr.heap.size wr w') : CSt w w' a n c b m e :=
  ⟨s.box.below hb s.box.lt, s.below.trans (hb.mono s.below.size)⟩
theorem CSt.drew {w wr : World} {a : Option Addr} {n c : Nat} {b : Option Addr} {m e : Nat} (s : CSt w wr a n c b m e) (k : Nat) : CSt w (wr.drewN k) a n c b m e := s.call (below_drawn wr k)
theorem cst_new (w : World) (a : Option Addr) (n c : Nat) (b : Option Addr) (m e : Nat) : CSt w (w.alloc (.cells #[.slice a n c, .slice b m e] 26)) a n c b m e :=
  ⟨RL.new w [.slice a n c, .slice b m e] _, (Below.refl _ w).alloc (Nat.le_refl _) _⟩
theorem okN_false {n m : Nat} (h : okN n m = false) : n < 2 ∨ (¬ n < 2 ∧ 16 < n) ∨ (¬ n < 2 ∧ ¬ 16 < n ∧ m ≠ n) := by
  unfold okN at h
  simp at h
  omega
set_option maxHeartbeats 4000000 in
theorem implValidC_any (a : Option Addr) (n c : Nat) (C : List Nat) (b : Option Addr) (m e : Nat) (T : List Nat) (w : World) (ha : FRd w a n c C) (hb : FRd w b m e T) :
    Calls Try.prog 22 #[CV a n c b m e] w (RB7 (.bool (okC C T)) w) := by
  have hC : C.length = n := ha.1
  have hT : T.length = m := hb.1
  have Ha := Lib.hid ha
  have Hb := Lib.hid hb
  have S0 := Lib.hid (cst_new w a n c b m e)
  clear ha hb
  unfold CV RB7
  go_enter Try.func22, Try.ntmps22
  go_upto_region 1 with fail
  generalize (w.alloc (.cells #[.slice a n c, .slice b m e] 26)) = W at *
  have c0 := S0.out.box.cell 0 (by simp)
  have c1 := S0.out.box.cell 1 (by simp)
  simp only [List.getD_cons_zero, List.getD_cons_succ] at c0 c1
  cases hk : okN n m
  · have He := Lib.hid (show okC C T = false from okC_bad (by rw [hC, hT]; exact hk))
    rcases okN_false hk with h1 | ⟨h1, h2⟩ | ⟨h1, h2, h3⟩
    · have d1 : (n : Int) < 2 := by omega
      clear hk
      go_wp2
      go_ret
      exact ⟨by rw [He.out]; rfl, S0.out.below⟩
    · have d1 : ¬ (n : Int) < 2 := by omega
      have d2 : (16 : Int) < n := by omega
      clear hk
      go_wp2
      go_ret
      exact ⟨by rw [He.out]; rfl, S0.out.below⟩
    · have d1 : ¬ (n : Int) < 2 := by omega
      have d2 : ¬ (16 : Int) < n := by omega
      have d3 : ((m : Int) != (n : Int)) = true := by simp; omega
      clear hk
      go_wp2
      go_ret
      exact ⟨by rw [He.out]; rfl, S0.out.below⟩
  · obtain ⟨h1, h2, h3⟩ := okN_true hk
    have d1 : ¬ (n : Int) < 2 := by omega
    have d2 : ¬ (16 : Int) < n := by omega
    have d3 : ((m : Int) != (n : Int)) = false := by simp; omega
    go_upto_region 4 with fail
    clear hk d1 d2 d3
    go_loopw [27] (fun I wr => ∃ k : Nat, k ≤ n ∧ I = .int .i64 k ∧ Hid (CSt w wr a n c b m e) ∧ Hid (∀ j, j < k → okAt C T j = true)) (fun I _ => n - (intOf I).toNat)
    case atStart => exact ⟨0, Nat.zero_le _, rfl, S0, Lib.hid (fun j hj => by omega)⟩
    case round =>
      clear S0 c0 c1
      obtain ⟨k, hk, rfl, Hr, Hj⟩ := hrel
      by_cases hlt : k < n
      · obtain ⟨bb, oo, rfl, hcx, hbs⟩ := (Ha.out.stays Hr.out.below (Nat.le_refl _)).2.2.1 k hlt
        obtain ⟨b2, o2, rfl, htx, hbt⟩ := (Hb.out.stays Hr.out.below (Nat.le_refl _)).2.2.1 k (by omega)
        have hcap := Ha.out.2.1
        have hcap2 := Hb.out.2.1
        have lx := Ha.out.bound hlt
        have lt := Hb.out.bound (show k < m by omega)
        have c0 := Hr.out.box.cell 0 (by simp)
        have c1 := Hr.out.box.cell 1 (by simp)
        simp only [List.getD_cons_zero, List.getD_cons_succ] at c0 c1
        have hok : okAt C T k = (posB (C.getD k 0) && posB (T.getD k 0) && (k == 0 || !(leF .f32 (C.getD k 0) (C.getD (k - 1) 0) || gtF .f32 (T.getD k 0) (T.getD (k - 1) 0)))) := rfl
        have Hno := Lib.hid (fun (h : okAt C T k = false) => okC_no (C := C) (T := T) (i := k) (by rw [hC]; exact hlt) h)
        have Hyes := Lib.hid (fun (h : okAt C T k = true) => show ∀ j, j < k + 1 → okAt C T j = true from fun j hj => by
          by_cases e : j = k
          · subst e; exact h
          · exact Hj.out j (by omega))
        clear Hj
        obtain ⟨x, hx⟩ : ∃ x, x = C.getD k 0 := ⟨_, rfl⟩
        obtain ⟨t, ht⟩ : ∃ t, t = T.getD k 0 := ⟨_, rfl⟩
        rw [← hx] at hok hcx lx
        rw [← ht] at hok htx lt
        have Hxt := Lib.hid (And.intro hx ht)
        clear hx ht
        cases p1 : posB x
        · have P1 := Lib.hid p1
          have He := Lib.hid (Hno.out (by rw [hok, p1]; rfl))
          clear p1 hok
          go_wp2_with (go_at_call 54; refine (isPositive_any _ lx _).mono ?_; rintro ee w' ⟨m1, rfl, rfl⟩; rw [P1.out])
          go_ret
          exact ⟨by rw [He.out]; rfl, (Hr.out.drew _).below⟩
        cases p2 : posB t
        · have P1 := Lib.hid p1
          have P2 := Lib.hid p2
          have He := Lib.hid (Hno.out (by rw [hok, p2, Bool.and_false]; rfl))
          clear p1 p2 hok
          go_wp2_with (first | (go_at_call_of 54 (Value.float .f32 x); refine (isPositive_any _ lx _).mono ?_; rintro ee w' ⟨m1, rfl, rfl⟩; rw [P1.out]) | (go_at_call_of 54 (Value.float .f32 t); refine (isPositive_any _ lt _).mono ?_; rintro ee w' ⟨m2, rfl, rfl⟩; rw [P2.out]))
          go_ret
          exact ⟨by rw [He.out]; rfl, (Hr.out.drew _).below⟩
        · have P1 := Lib.hid p1
          have P2 := Lib.hid p2
          rw [p1, p2, Bool.true_and, Bool.true_and] at hok
          clear p1 p2
          obtain rfl | ⟨j, rfl⟩ : k = 0 ∨ ∃ j, k = j + 1 := by
            cases k with
            | zero => exact .inl rfl
            | succ j => exact .inr ⟨j, rfl⟩
          · rw [Nat.add_zero] at hcx htx
            have Hy := Lib.hid (Hyes.out (by rw [hok]; rfl))
            clear hok Hno Hyes
            go_wp2_with (first | (go_at_call_of 54 (Value.float .f32 x); refine (isPositive_any _ lx _).mono ?_; rintro ee w' ⟨m1, rfl, rfl⟩; rw [P1.out]) | (go_at_call_of 54 (Value.float .f32 t); refine (isPositive_any _ lt _).mono ?_; rintro ee w' ⟨m2, rfl, rfl⟩; rw [P2.out]))
            have G0 := fun y : Grown (wr.drewN (m1 + m2)) => (Hr.out.drew (m1 + m2)).call y.2
            refine wp_grown (by kernel_rfl) (by kernel_rfl) ?_
            repeat (go_big_quiet_step (fail))
            refine wpQuiet_nil ?_
            rintro _ ⟨v, rfl⟩
            have Hv := Lib.hid (G0 v)
            clear G0 hcx htx c0 c1
            generalize v.1 = w5 at *
            go_wp2_with fail
            go_roundw
            case rel => exact ⟨1, by omega, by go_num, Hv, Hy⟩
            case measure => go_light; simp [intOf]; omega
          · rw [Nat.add_sub_cancel] at hok
            obtain ⟨bb', oo', e1, hcp, _⟩ := (Ha.out.stays Hr.out.below (Nat.le_refl _)).2.2.1 j (by omega)
            obtain ⟨b2', o2', e2, htp, _⟩ := (Hb.out.stays Hr.out.below (Nat.le_refl _)).2.2.1 j (by omega)
            cases e1
            cases e2
            obtain ⟨xp, hxp⟩ : ∃ x, x = C.getD j 0 := ⟨_, rfl⟩
            obtain ⟨tp, htp'⟩ : ∃ t, t = T.getD j 0 := ⟨_, rfl⟩
            rw [← hxp] at hok hcp
            rw [← htp'] at hok htp
            have Hxtp := Lib.hid (And.intro hxp htp')
            clear hxp htp'
            go_wp2_with (first | (go_at_call_of 54 (Value.float .f32 x); refine (isPositive_any _ lx _).mono ?_; rintro ee w' ⟨m1, rfl, rfl⟩; rw [P1.out]) | (go_at_call_of 54 (Value.float .f32 t); refine (isPositive_any _ lt _).mono ?_; rintro ee w' ⟨m2, rfl, rfl⟩; rw [P2.out]))
            have hw1 : IntKind.i64.wrap (j : Int) = (j : Int) := by rw [IntWalk.i64_in _ (by omega)]
            have hw2 : IntKind.i64.wrap ((j : Int) + 1 - 1) = (j : Int) := by rw [Int.add_sub_cancel]; exact hw1
            have hpos : (0 : Int) < (j : Int) + 1 := by omega
            have G0 := fun y : Grown (wr.drewN (m1 + m2)) => (Hr.out.drew (m1 + m2)).call y.2
            have q0 := fun y : Grown (wr.drewN (m1 + m2)) => y.cell (show (wr.drewN (m1 + m2)).cell? _ = _ from c0)
            have q1 := fun y : Grown (wr.drewN (m1 + m2)) => y.cell (show (wr.drewN (m1 + m2)).cell? _ = _ from c1)
            have q2 := fun y : Grown (wr.drewN (m1 + m2)) => y.cell (show (wr.drewN (m1 + m2)).cell? _ = _ from hcx)
            have q3 := fun y : Grown (wr.drewN (m1 + m2)) => y.cell (show (wr.drewN (m1 + m2)).cell? _ = _ from htx)
            have q4 := fun y : Grown (wr.drewN (m1 + m2)) => y.cell (show (wr.drewN (m1 + m2)).cell? _ = _ from hcp)
            have q5 := fun y : Grown (wr.drewN (m1 + m2)) => y.cell (show (wr.drewN (m1 + m2)).cell? _ = _ from htp)
            have g0 := Lib.hid G0
            clear G0 c0 c1 hcx htx hcp htp
            cases hle : leF .f32 x xp
            · have hle' : (FloatKind.f32.format.order x xp == some .lt || FloatKind.f32.format.order x xp == some .eq) = false := hle
              cases hgt : gtF .f32 t tp
              · have hgt' : (FloatKind.f32.format.order t tp == some .gt) = false := hgt
                have Hy := Lib.hid (Hyes.out (by rw [hok, hle, hgt]; rfl))
                clear hok Hno Hyes hle hgt
                refine wp_grown (by kernel_rfl) (by kernel_rfl) ?_
                repeat (go_big_quiet_step (fail))
                refine wpQuiet_nil ?_
                rintro _ ⟨v, rfl⟩
                have Hv := Lib.hid (g0.out v)
                clear g0 q0 q1 q2 q3 q4 q5
                generalize v.1 = w5 at *
                go_wp2_with fail
                go_roundw
                case rel => exact ⟨j + 1 + 1, by omega, by go_num, Hv, Hy⟩
                case measure => go_light; simp [intOf]; omega
              · have hgt' : (FloatKind.f32.format.order t tp == some .gt) = true := hgt
                have He := Lib.hid (Hno.out (by rw [hok, hle, hgt]; simp))
                clear hok Hno Hyes hle hgt
                refine wp_grown (by kernel_rfl) (by kernel_rfl) ?_
                repeat (go_big_quiet_step (fail))
                refine wpQuiet_nil ?_
                rintro _ ⟨v, rfl⟩
                have Hv := Lib.hid (g0.out v)
                clear g0 q0 q1 q2 q3 q4 q5
                generalize v.1 = w5 at *
                go_wp2_with fail
                go_ret
                exact ⟨by rw [He.out]; rfl, Hv.out.below⟩
            · have hle' : (FloatKind.f32.format.order x xp == some .lt || FloatKind.f32.format.order x xp == some .eq) = true := hle
              have He := Lib.hid (Hno.out (by rw [hok, hle]; simp))
              clear hok Hno Hyes hle
              refine wp_grown (by kernel_rfl) (by kernel_rfl) ?_
              repeat (go_big_quiet_step (fail))
              refine wpQuiet_nil ?_
              rintro _ ⟨v, rfl⟩
              have Hv := Lib.hid (g0.out v)
              clear g0 q0 q1 q2 q3 q4 q5
              generalize v.1 = w5 at *
              go_wp2_with fail
              go_ret
              exact ⟨by rw [He.out]; rfl, Hv.out.below⟩
      · obtain rfl : k = n := by omega
        have He := Lib.hid (show okC C T = true from okC_yes (by rw [hC, hT]; exact okN_of h1 h2 h3) (by rw [hC]; exact Hj.out))
        go_wp2
        go_ret
        exact ⟨by rw [He.out]; rfl, Hr.out.below⟩
end Go.Proofs.Ythkjikennlaelaa
