/-
  Curves that are the same, in the program and in the reference. No theorem of a claim stands here.
-/
import Derived.Test.YthkjikennlaelaaCurN
import Derived.Test.YthkjikennlaelaaBits
set_option linter.unusedVariables false
set_option linter.unusedSimpArgs false
set_option maxRecDepth 8000
namespace Go.Proofs.Ythkjikennlaelaa
open Go Go.RowKit Go.Deep Go.Proofs.Ythkjikennlaelaa.Fl

def sameN (a b : Nat) : Bool := bitsV (vl .f32 a) == bitsV (vl .f32 b)
theorem l01SameN_any (a b : Nat) (ha : a < 2 ^ 32) (hb : b < 2 ^ 32) (w : World) : Calls Try.prog 72 #[.float .f32 a, .float .f32 b] w (VRet (.bool (sameN a b)) w) := by
  have hA := fun w' => l01Bits_any a ha w'
  have hB := fun w' => l01Bits_any b hb w'
  unfold sameN
  generalize bitsV (vl .f32 a) = x at *
  generalize bitsV (vl .f32 b) = y at *
  have S0 : Hid True := Lib.hid trivial
  go_enter Try.func72, Try.ntmps72
  go_wp2_with (first | (have h_ := S0; clear h_; go_at_call 78; refine (hA _).mono ?_; rintro e w' ⟨n1, rfl, rfl⟩; clear S0; have S1 : Hid True := Lib.hid trivial) | (have h_ := S1; clear h_; go_at_call 78; refine (hB _).mono ?_; rintro e w' ⟨n2, rfl, rfl⟩; clear S1))
  go_ret
  exact ⟨_, rfl, rfl⟩
theorem implSameN_any (a b : Nat) (ha : a < 2 ^ 32) (hb : b < 2 ^ 32) (w : World) : Calls Try.prog 56 #[.float .f32 a, .float .f32 b] w (VRet (.bool (sameN a b)) w) := by
  have hA := fun w' => bitsOf_any a ha w'
  have hB := fun w' => bitsOf_any b hb w'
  unfold sameN
  generalize bitsV (vl .f32 a) = x at *
  generalize bitsV (vl .f32 b) = y at *
  have S0 : Hid True := Lib.hid trivial
  go_enter Try.func56, Try.ntmps56
  go_wp2_with (first | (have h_ := S0; clear h_; go_at_call 71; refine (hA _).mono ?_; rintro e w' ⟨n1, rfl, rfl⟩; clear S0; have S1 : Hid True := Lib.hid trivial) | (have h_ := S1; clear h_; go_at_call 71; refine (hB _).mono ?_; rintro e w' ⟨n2, rfl, rfl⟩; clear S1))
  go_ret
  exact ⟨_, rfl, rfl⟩
def sameL (l l' : List Nat) : Bool := l.length == l'.length && (List.range l.length).all fun i => sameN (l.getD i 0) (l'.getD i 0)
theorem sameL_len {l l' : List Nat} (h : l.length ≠ l'.length) : sameL l l' = false := by unfold sameL; simp [h]
theorem sameL_no {l l' : List Nat} {i : Nat} (hi : i < l.length) (h : sameN (l.getD i 0) (l'.getD i 0) = false) : sameL l l' = false := by
  unfold sameL
  rw [show (List.range l.length).all (fun i => sameN (l.getD i 0) (l'.getD i 0)) = false from ?_, Bool.and_false]
  rw [List.all_eq_false]
  exact ⟨i, List.mem_range.2 hi, by simp only [h]; decide⟩
theorem sameL_yes {l l' : List Nat} (hl : l.length = l'.length) (h : ∀ i, i < l.length → sameN (l.getD i 0) (l'.getD i 0) = true) : sameL l l' = true := by
  unfold sameL
  rw [show (l.length == l'.length) = true by simp [hl], Bool.true_and, List.all_eq_true]
  intro i hi
  exact h i (List.mem_range.1 hi)
set_option maxHeartbeats 4000000 in
theorem equalF_any (a a' : Option Addr) (n n' c c' : Nat) (l l' : List Nat) (w : World) (ha : FRd w a n c l) (hb : FRd w a' n' c' l') (hb20 : n ≤ 1048576) :
    Calls Try.prog 55 #[.slice a n c, .slice a' n' c', .func (.func 56) #[] #[]] w (RB7 (.bool (sameL l l')) w) := by
  have H1 := Lib.hid (show l.length = n from ha.1)
  have H2 := Lib.hid (show l'.length = n' from hb.1)
  have Ha := Lib.hid ha
  have Hb := Lib.hid hb
  clear ha hb
  unfold RB7
  by_cases hn : n = n'
  · subst hn
    have hne : ((n : Int) != (n : Int)) = false := by simp
    go_enter Try.func55, Try.ntmps55
    go_wp2
    go_loopw [17] (fun i wr => ∃ k : Nat, k ≤ n ∧ i = .int .i64 k ∧ Hid (Below w.heap.size w wr) ∧ Hid (∀ j, j < k → sameN (l.getD j 0) (l'.getD j 0) = true)) (fun i _ => n - (intOf i).toNat)
    case atStart => exact ⟨0, Nat.zero_le _, rfl, Lib.hid (Below.refl _ _), Lib.hid (fun j hj => by omega)⟩
    case round =>
      obtain ⟨k, hk, rfl, Hw, Hj⟩ := hrel
      by_cases hlt : k < n
      · obtain ⟨b1, o1, rfl, q1, _⟩ := (Ha.out.stays Hw.out (Nat.le_refl _)).2.2.1 k hlt
        obtain ⟨b2, o2, rfl, q2, _⟩ := (Hb.out.stays Hw.out (Nat.le_refl _)).2.2.1 k hlt
        have hc1 := Ha.out.2.1
        have hc2 := Hb.out.2.1
        have l1 := Ha.out.bound hlt
        have l2 := Hb.out.bound hlt
        have Hno := Lib.hid (fun h => sameL_no (l := l) (l' := l') (i := k) (by rw [H1.out]; exact hlt) h)
        have Hyes := Lib.hid (fun (h : sameN (l.getD k 0) (l'.getD k 0) = true) => show ∀ j, j < k + 1 → sameN (l.getD j 0) (l'.getD j 0) = true from fun j hj => by
          by_cases e : j = k
          · subst e; exact h
          · exact Hj.out j (by omega))
        obtain ⟨x, hx⟩ : ∃ x, l.getD k 0 = x := ⟨_, rfl⟩
        obtain ⟨y, hy⟩ : ∃ y, l'.getD k 0 = y := ⟨_, rfl⟩
        rw [hx] at q1 l1 Hno Hyes
        rw [hy] at q2 l2 Hno Hyes
        clear hx hy Hj
        have hS := fun w => implSameN_any x y l1 l2 w
        cases hs : sameN x y
        · rw [hs] at hS
          have He := Lib.hid (Hno.out hs)
          clear hs Hno Hyes
          go_wp2_with (go_at_call 56; refine (hS _).mono ?_; rintro e w' ⟨m, rfl, rfl⟩)
          go_ret
          exact ⟨by rw [He.out]; rfl, Hw.out.trans ((below_drawn wr _).mono Hw.out.size)⟩
        · rw [hs] at hS
          have Hy := Lib.hid (Hyes.out hs)
          clear hs Hno Hyes
          go_wp2_with (go_at_call 56; refine (hS _).mono ?_; rintro e w' ⟨m, rfl, rfl⟩)
          go_roundw
          case rel => exact ⟨k + 1, by omega, by go_num, Lib.hid (Hw.out.trans ((below_drawn wr _).mono Hw.out.size)), Hy⟩
          case measure => go_light; simp [intOf]; omega
      · obtain rfl : k = n := by omega
        have He := Lib.hid (show sameL l l' = true from sameL_yes (by rw [H1.out, H2.out]) (by rw [H1.out]; exact Hj.out))
        go_wp2
        go_ret
        exact ⟨by rw [He.out]; rfl, Hw.out⟩
  · have hne : ((n : Int) != (n' : Int)) = true := by simp; omega
    have He := Lib.hid (show sameL l l' = false from sameL_len (by rw [H1.out, H2.out]; exact hn))
    go_enter Try.func55, Try.ntmps55
    go_wp2
    go_ret
    exact ⟨by rw [He.out]; rfl, Below.refl _ _⟩
set_option maxHeartbeats 4000000 in
theorem sameAll_any (a a' : Option Addr) (n n' c c' : Nat) (l l' : List Nat) (w : World) (ha : FRd w a n c l) (hb : FRd w a' n' c' l') (hb20 : n ≤ 1048576) :
    Calls Try.prog 59 #[.slice a n c, .slice a' n' c'] w (RB7 (.bool (sameL l l')) w) := by
  have H1 := Lib.hid (show l.length = n from ha.1)
  have H2 := Lib.hid (show l'.length = n' from hb.1)
  have Ha := Lib.hid ha
  have Hb := Lib.hid hb
  clear ha hb
  unfold RB7
  by_cases hn : n = n'
  · subst hn
    have hne : ((n : Int) != (n : Int)) = false := by simp
    go_enter Try.func59, Try.ntmps59
    go_wp2
    go_loopw [5] (fun i wr => ∃ k : Nat, k ≤ n ∧ i = .int .i64 k ∧ Hid (Below w.heap.size w wr) ∧ Hid (∀ j, j < k → sameN (l.getD j 0) (l'.getD j 0) = true)) (fun i _ => n - (intOf i).toNat)
    case atStart => exact ⟨0, Nat.zero_le _, rfl, Lib.hid (Below.refl _ _), Lib.hid (fun j hj => by omega)⟩
    case round =>
      obtain ⟨k, hk, rfl, Hw, Hj⟩ := hrel
      by_cases hlt : k < n
      · obtain ⟨b1, o1, rfl, q1, _⟩ := (Ha.out.stays Hw.out (Nat.le_refl _)).2.2.1 k hlt
        obtain ⟨b2, o2, rfl, q2, _⟩ := (Hb.out.stays Hw.out (Nat.le_refl _)).2.2.1 k hlt
        have hc1 := Ha.out.2.1
        have hc2 := Hb.out.2.1
        have l1 := Ha.out.bound hlt
        have l2 := Hb.out.bound hlt
        have Hno := Lib.hid (fun h => sameL_no (l := l) (l' := l') (i := k) (by rw [H1.out]; exact hlt) h)
        have Hyes := Lib.hid (fun (h : sameN (l.getD k 0) (l'.getD k 0) = true) => show ∀ j, j < k + 1 → sameN (l.getD j 0) (l'.getD j 0) = true from fun j hj => by
          by_cases e : j = k
          · subst e; exact h
          · exact Hj.out j (by omega))
        obtain ⟨x, hx⟩ : ∃ x, l.getD k 0 = x := ⟨_, rfl⟩
        obtain ⟨y, hy⟩ : ∃ y, l'.getD k 0 = y := ⟨_, rfl⟩
        rw [hx] at q1 l1 Hno Hyes
        rw [hy] at q2 l2 Hno Hyes
        clear hx hy Hj
        have hS := fun w => l01SameN_any x y l1 l2 w
        cases hs : sameN x y
        · rw [hs] at hS
          have He := Lib.hid (Hno.out hs)
          clear hs Hno Hyes
          go_wp2_with fail
          go_region_with (go_at_call 72; refine (hS _).mono ?_; rintro e w' ⟨m, rfl, rfl⟩)
          all_goals go_wp2_with fail
          all_goals go_ret
          all_goals exact ⟨by rw [He.out]; rfl, Hw.out.trans ((below_drawn wr _).mono Hw.out.size)⟩
        · rw [hs] at hS
          have Hy := Lib.hid (Hyes.out hs)
          clear hs Hno Hyes
          go_wp2_with fail
          go_region_with (go_at_call 72; refine (hS _).mono ?_; rintro e w' ⟨m, rfl, rfl⟩)
          all_goals go_wp2_with fail
          all_goals (go_roundw; (case rel => exact ⟨k + 1, by omega, by go_num, Lib.hid (Hw.out.trans ((below_drawn wr _).mono Hw.out.size)), Hy⟩); (case measure => go_light; simp [intOf]; omega))
      · obtain rfl : k = n := by omega
        have He := Lib.hid (show sameL l l' = true from sameL_yes (by rw [H1.out, H2.out]) (by rw [H1.out]; exact Hj.out))
        go_wp2
        go_ret
        exact ⟨by rw [He.out]; rfl, Hw.out⟩
  · have hne : ((n : Int) != (n' : Int)) = true := by simp; omega
    have He := Lib.hid (show sameL l l' = false from sameL_len (by rw [H1.out, H2.out]; exact hn))
    go_enter Try.func59, Try.ntmps59
    go_wp2
    go_ret
    exact ⟨by rw [He.out]; rfl, Below.refl _ _⟩
def sameK (K L : CK) : Bool := sameL K.C L.C && sameL K.T L.T
set_option maxHeartbeats 4000000 in
theorem implSameK_any (K L : CK) (w : World) (hK : K.rd w) (hL : L.rd w) (b1 : K.n ≤ 1048576) (b2 : K.m ≤ 1048576) : Calls Try.prog 23 #[K.val, L.val] w (RB7 (.bool (sameK K L)) w) := by
  have S0 := Lib.hid (C2.new w K L)
  have hA := fun (w' : World) (hB : Below w.heap.size w w') => equalF_any K.a L.a K.n L.n K.c L.c K.C L.C w' (hK.stays hB).1 (hL.stays hB).1 b1
  have hB := fun (w' : World) (hB : Below w.heap.size w w') => equalF_any K.b L.b K.m L.m K.e L.e K.T L.T w' (hK.stays hB).2 (hL.stays hB).2 b2
  unfold RB7 at hA hB
  unfold CK.val RB7 sameK
  have HA := Lib.hid hA
  have HB := Lib.hid hB
  clear hA hB hK hL
  generalize sameL K.C L.C = p at *
  generalize sameL K.T L.T = q at *
  go_enter Try.func23, Try.ntmps23
  go_upto_region 1 with fail
  generalize ((w.alloc (.cells #[.slice K.a K.n K.c, .slice K.b K.m K.e] 26)).alloc (.cells #[.slice L.a L.n L.c, .slice L.b L.m L.e] 26)) = W at *
  obtain ⟨⟨c0, c1⟩, d0, d1⟩ := S0.out.cells
  go_wp2_with fail
  refine (HA.out _ S0.out.below).mono ?_
  rintro en w1 ⟨rfl, hb1⟩
  have S1 := Lib.hid (S0.out.call hb1)
  clear hb1 S0 c0 c1 d0 d1 HA
  obtain ⟨⟨c0, c1⟩, d0, d1⟩ := S1.out.cells
  cases p
  · go_wp2_with fail
    go_ret
    exact ⟨rfl, S1.out.below⟩
  · go_wp2_with fail
    refine (HB.out _ S1.out.below).mono ?_
    rintro en w2 ⟨rfl, hb2⟩
    have S2 := Lib.hid (S1.out.call hb2)
    clear hb2 S1 c0 c1 d0 d1 HB
    go_wp2_with fail
    go_ret
    exact ⟨rfl, S2.out.below⟩
set_option maxHeartbeats 4000000 in
theorem specSameK_any (K L : CK) (w : World) (hK : K.rd w) (hL : L.rd w) (b1 : K.n ≤ 1048576) (b2 : K.m ≤ 1048576) : Calls Try.prog 31 #[K.val, L.val] w (RB7 (.bool (sameK K L)) w) := by
  have S0 := Lib.hid (C2.new w K L)
  have hA := fun (w' : World) (hB : Below w.heap.size w w') => sameAll_any K.a L.a K.n L.n K.c L.c K.C L.C w' (hK.stays hB).1 (hL.stays hB).1 b1
  have hB := fun (w' : World) (hB : Below w.heap.size w w') => sameAll_any K.b L.b K.m L.m K.e L.e K.T L.T w' (hK.stays hB).2 (hL.stays hB).2 b2
  unfold RB7 at hA hB
  unfold CK.val RB7 sameK
  have HA := Lib.hid hA
  have HB := Lib.hid hB
  clear hA hB hK hL
  generalize sameL K.C L.C = p at *
  generalize sameL K.T L.T = q at *
  go_enter Try.func31, Try.ntmps31
  go_upto_region 1 with fail
  generalize ((w.alloc (.cells #[.slice K.a K.n K.c, .slice K.b K.m K.e] 26)).alloc (.cells #[.slice L.a L.n L.c, .slice L.b L.m L.e] 26)) = W at *
  obtain ⟨⟨c0, c1⟩, d0, d1⟩ := S0.out.cells
  go_wp2_with fail
  refine (HA.out _ S0.out.below).mono ?_
  rintro en w1 ⟨rfl, hb1⟩
  have S1 := Lib.hid (S0.out.call hb1)
  clear hb1 S0 c0 c1 d0 d1 HA
  obtain ⟨⟨c0, c1⟩, d0, d1⟩ := S1.out.cells
  cases p
  · go_wp2_with fail
    go_ret
    exact ⟨rfl, S1.out.below⟩
  · go_wp2_with fail
    refine (HB.out _ S1.out.below).mono ?_
    rintro en w2 ⟨rfl, hb2⟩
    have S2 := Lib.hid (S1.out.call hb2)
    clear hb2 S1 c0 c1 d0 d1 HB
    go_wp2_with fail
    go_ret
    exact ⟨rfl, S2.out.below⟩
end Go.Proofs.Ythkjikennlaelaa
