/-
  What the loads give to the lines, from the last bus to the first, in the program. No theorem of a claim stands here.
-/
import Derived.Test.YtbcjgjdkapdihaaPr
import Derived.Test.YtbcjgjdkapdihaaSumF
import Derived.Test.YtbcjgjdkapdihaaQTailIn
import Derived.Test.YtbcjgjdkapdihaaDy
set_option linter.unusedVariables false
set_option linter.unusedSimpArgs false
set_option maxRecDepth 8000
namespace Go.Proofs.Ytbcjgjdkapdihaa
open Go Go.RowKit Go.Shelf Go.Deep Go.Proofs.Ytbcjgjdkapdihaa.Fl

attribute [local go_sem] Oper.semAt_some

theorem PhR.mid1 {w : World} {g n : Nat} {S : Nat → Nat → Nat} (h : PhR w g n S) {i : Nat} (hi : i < n) (a : Value) : (w.setCell ⟨g, i * 3, none⟩ a).cell? ⟨g, i * 3 + 1, none⟩ = some (pcell S i 1) := by
  obtain ⟨m, f, h1, h2, h3⟩ := h
  have h4 := (h2.set (i * 3) a).cell (i := i * 3 + 1) (by omega)
  rw [if_neg (by omega), h3 i hi 1 (by omega)] at h4
  exact h4
theorem PhR.mid2 {w : World} {g n : Nat} {S : Nat → Nat → Nat} (h : PhR w g n S) {i : Nat} (hi : i < n) (a b : Value) : ((w.setCell ⟨g, i * 3, none⟩ a).setCell ⟨g, i * 3 + 1, none⟩ b).cell? ⟨g, i * 3 + 2, none⟩ = some (pcell S i 2) := by
  obtain ⟨m, f, h1, h2, h3⟩ := h
  have h4 := ((h2.set (i * 3) a).set (i * 3 + 1) b).cell (i := i * 3 + 2) (by omega)
  rw [if_neg (by omega), if_neg (by omega), h3 i hi 2 (by omega)] at h4
  exact h4
theorem PhR.fr1 {w : World} {g n : Nat} {S : Nat → Nat → Nat} (h : PhR w g n S) (i k : Nat) (a : Value) : (w.setCell ⟨g, i, none⟩ a).frozen? ⟨g, k, none⟩ = false := by
  obtain ⟨m, f, h1, h2, h3⟩ := h
  exact (h2.set i a).frozen k
theorem PhR.fr2 {w : World} {g n : Nat} {S : Nat → Nat → Nat} (h : PhR w g n S) (i j k : Nat) (a b : Value) : ((w.setCell ⟨g, i, none⟩ a).setCell ⟨g, j, none⟩ b).frozen? ⟨g, k, none⟩ = false := by
  obtain ⟨m, f, h1, h2, h3⟩ := h
  exact ((h2.set i a).set j b).frozen k
theorem ko_below {W W' : World} (h : Below W.heap.size W W') : KeepsOthers W W' := ⟨h.size, fun k o hk _ => (h.block k (Array.getElem?_eq_some_iff.1 hk).1).trans hk⟩
theorem pick6 {P : Nat → Nat → Prop} (h : ∀ j, j < 6 → ∃ b, P j b) : ∃ r : Nat → Nat, ∀ j, j < 6 → P j (r j) :=
  ⟨fun j => if h' : j < 6 then (h j h').choose else 0, fun j hj => by simp only [hj, dif_pos]; exact (h j hj).choose_spec⟩
theorem set3_kb {W : World} {n₀ Bx gs i j k : Nat} {u v z : Value} (h : n₀ ≤ gs) (hx : Bx ≠ gs) : KeepsOthers W (((W.setCell ⟨gs, i, none⟩ u).setCell ⟨gs, j, none⟩ v).setCell ⟨gs, k, none⟩ z) ∧ KB n₀ Bx W (((W.setCell ⟨gs, i, none⟩ u).setCell ⟨gs, j, none⟩ v).setCell ⟨gs, k, none⟩ z) :=
  ⟨((KeepsOthers.setCell _ _ _).trans (KeepsOthers.setCell _ _ _)).trans (KeepsOthers.setCell _ _ _), ⟨(((Below.refl _ W).setCell (p := ⟨gs, i, none⟩) h _).setCell (p := ⟨gs, j, none⟩) h _).setCell (p := ⟨gs, k, none⟩) h _, by rw [Below.heap_setCell _ _ _ _ hx, Below.heap_setCell _ _ _ _ hx, Below.heap_setCell _ _ _ _ hx]⟩⟩
theorem boxed_set3 {W : World} {B gs i j k : Nat} {t : TypeId} {x u v z : Value} (h : Boxed W B t x) (hx : B ≠ gs) : Boxed (((W.setCell ⟨gs, i, none⟩ u).setCell ⟨gs, j, none⟩ v).setCell ⟨gs, k, none⟩ z) B t x := by
  unfold Boxed at *
  rw [Below.heap_setCell _ _ _ _ hx, Below.heap_setCell _ _ _ _ hx, Below.heap_setCell _ _ _ _ hx]
  exact h
/-- The state behind some rounds: block gs holds sums. -/
def SumAt {n : Nat} (W : World) (gs m : Nat) (V : Nat → Nat → Int) (pre : List (IB n)) : Prop := ∃ S, PhR W gs m S ∧ ∀ i, i < m → ∀ q, q < 6 → Dy .f32 0 (S i q) (wsum (V q) pre i)
theorem sumAt_own {n : Nat} (gs m : Nat) (V : Nat → Nat → Int) : Own (fun (s : List (IB n)) W => SumAt W gs m V s) := fun s X Y row hs hg hrow => by
  obtain ⟨S, h1, h2⟩ := hs
  exact ⟨S, phR_own_from gs m (fun (_ : Unit) => S) () X Y row h1 hg hrow, h2⟩
theorem SumAt.below {n : Nat} {W W' : World} {gs m B : Nat} {V : Nat → Nat → Int} {pre : List (IB n)} (h : SumAt W gs m V pre) (hb : Below B W W') (hB : gs < B) : SumAt W' gs m V pre := by
  obtain ⟨S, h1, h2⟩ := h
  exact ⟨S, h1.below hb hB, h2⟩
theorem SumAt.root {n : Nat} {W : World} {gs m : Nat} {V : Nat → Nat → Int} {pre : List (IB n)} (h : SumAt W gs m V pre) (x : IB n) (hp : x.1.2.par = -1) : SumAt W gs m V (pre ++ [x]) := by
  obtain ⟨S, h1, h2⟩ := h
  refine ⟨S, h1, fun i hi q hq => ?_⟩
  rw [wsum_snoc]
  unfold wst
  rw [if_neg (by omega)]
  exact h2 i hi q hq

/-- The function that leaves all phases as they are, as a value. -/
def UT : Value := (.func (.func 170) #[] #[])
theorem rl_set3 {W : World} {B gs i j k : Nat} {t : TypeId} {L : List Value} {u v z : Value} (h : RL W B t L) (hx : B ≠ gs) : RL (((W.setCell ⟨gs, i, none⟩ u).setCell ⟨gs, j, none⟩ v).setCell ⟨gs, k, none⟩ z) B t L :=
  World.rowIs.of_block h (by rw [Below.heap_setCell _ _ _ _ hx, Below.heap_setCell _ _ _ _ hx, Below.heap_setCell _ _ _ _ hx])
set_option maxHeartbeats 4000000 in
theorem unturned_any (i : Int) (p : Nat → Nat) (w : World) : Calls Try.prog 170 #[.int .i64 i, PV p] w fun e w' => e = .returned (PV p) ∧ Below w.heap.size w w' := by
  have hst := fun (a : Addr) (x y : Nat) (m : Mode) (w : World) => run_store Try.prog w a (.complex .f32 x y) m rfl
  unfold PV
  go_enter Try.func170, Try.ntmps170
  go_wp2_with fail
  try simp only [Exit.inBlock, Exit.then]
  refine bodyPost_ret (by simp [results, Try.results170, go_sem]; try rfl) rfl ?_
  exact ⟨rfl, ((Below.refl _ w).alloc (Nat.le_refl _) _).alloc (by simp) _⟩

set_option maxRecDepth 100000 in
set_option maxHeartbeats 4000000 in
theorem sumBackBy_any (w : World) (s : Nat → Nat) (g n c : Nat) (Bs : List BusV) (hF : Fdr w g n c Bs) (hG : ∀ i (h : i < Bs.length), Good i Bs[i]) (h0 : 0 < Bs.length) (gl cl : Nat) (L : Nat → Nat → Nat) (V : Nat → Nat → Int) (hR : PhR w gl n L)
    (hD : ∀ i, i < n → ∀ q, q < 6 → Dy .f32 0 (L i q) (V q i)) (hV : ∀ q j, (V q j).natAbs ≤ 50) : Calls Try.prog 164 #[FV s g n c, UT, .slice (some ⟨gl, 0, none⟩) n cl] w fun e w' => ∃ gs cs, e = .returned (.slice (some ⟨gs, 0, none⟩) n cs) ∧ w.heap.size ≤ gs ∧ n ≤ cs ∧ cs ≤ maxLen ∧ SumAt w' gs n V (upto (gB Bs hG h0) Bs.length) ∧ Below w.heap.size w w' := by
  have h1 := hF.one
  have h2 := hF.most
  have h3 := hF.cap
  have HF := Lib.hid hF
  clear hF
  have hst := fun (a : Addr) (x y : Nat) (m : Mode) (w : World) => run_store Try.prog w a (.complex .f32 x y) m rfl
  have hC := cloneP_any ((w.alloc (.cells #[.complex .f32 (s 0) (s 1), .complex .f32 (s 2) (s 3), .complex .f32 (s 4) (s 5), .slice (some ⟨g, 0, none⟩) n c] 40)).alloc (.cells #[(.func (.func 170) #[] #[])] 187)) gl n cl L h1 (by omega) ((hR.below (bel_alloc _ _) hR.lt).below (bel_alloc _ _) (Nat.lt_trans hR.lt (by simp)))
  have HD := Lib.hid hD
  clear hR hD
  unfold FV at *
  unfold UT
  refine (callsIn_wide (n := 6)).1 ?_
  refine callsIn_of_wp_marks Try.func164 rfl trivial ?_ rfl
  simp only [Try.ntmps164, List.size_toArray, List.length_cons, List.length_nil, Nat.reduceAdd, Nat.reduceSub, Array.replicate_succ, Array.replicate_zero, List.push_toArray, List.append_toArray, List.nil_append, List.cons_append]
  gi_wp2_with (first | (refine ⟨trivial, ?_⟩; gi_at_call 168; refine (callsIn_wide.2 hC).mono ?_; rintro e w2 ⟨gs, cs, rfl, hgs, hP, hcs1, hcs2, hb⟩; have Hb := Lib.hid (bel_then (bel_then (bel_alloc _ _) (bel_alloc _ _)) hb); have HT2 : Hid (Boxed w2 (w.heap.size + 1) 187 (.func (.func 170) #[] #[])) := Lib.hid ((hb.block (w.heap.size + 1) (by simp)).trans (by have h := Boxed.new (w.alloc (.cells #[.complex .f32 (s 0) (s 1), .complex .f32 (s 2) (s 3), .complex .f32 (s 4) (s 5), .slice (some ⟨g, 0, none⟩) n c] 40)) 187 (.func (.func 170) #[] #[]); rw [World.size_alloc] at h; exact h)); have R2 : RL w2 w.heap.size 40 [.complex .f32 (s 0) (s 1), .complex .f32 (s 2) (s 3), .complex .f32 (s 4) (s 5), .slice (some ⟨g, 0, none⟩) n c] := RL.below (RL.below (RL.new w [.complex .f32 (s 0) (s 1), .complex .f32 (s 2) (s 3), .complex .f32 (s 4) (s 5), .slice (some ⟨g, 0, none⟩) n c] 40) (bel_alloc _ _) (by simp)) hb (by simp; omega); have k3 : w2.cell? ⟨w.heap.size, 3, none⟩ = some (.slice (some ⟨g, 0, none⟩) n c) := R2.cell 3 (by simp); have k4 : ∀ o1, (w2.alloc o1).cell? ⟨w.heap.size, 3, none⟩ = some (.slice (some ⟨g, 0, none⟩) n c) := fun o1 => (R2.allocd o1).cell 3 (by simp); have HP := Lib.hid hP; clear hb hP) | (refine ⟨trivial, ?_⟩; gi_at_call 143; refine (bwd_in Fence.wide _ trivial rfl _ _ _ _).mono ?_; rintro e w' ⟨rfl, rfl⟩))
  have hsz := Hb.out.size
  have hgs1 : w.heap.size + 2 ≤ gs := by simp at hgs; omega
  have hgs2 := HP.out.lt
  have hlen := HF.out.len
  have hlt2 := R2.lt
  have hgb := HF.out.rd.1
  obtain ⟨W0, hW0⟩ : ∃ W0, ((w2.alloc (.cells #[.slice (some ⟨gs, 0, none⟩) n cs] 42)).alloc (.cells #[.slice (some ⟨g, 0, none⟩) n c] 38)) = W0 := ⟨_, rfl⟩
  have hs0 : W0.heap.size = w2.heap.size + 2 := by rw [← hW0]; simp
  have hB2 : Below w2.heap.size w2 W0 := by
    rw [← hW0]
    exact ((Below.refl _ w2).alloc (Nat.le_refl _) _).alloc (by simp) _
  have hRow : SumAt (n := Bs.length) W0 gs n V [] := ⟨L, HP.out.below hB2 hgs2, HD.out⟩
  have hBox : Boxed W0 w2.heap.size 42 (.slice (some ⟨gs, 0, none⟩) n cs) := by
    rw [← hW0]
    exact (Boxed.new w2 42 (.slice (some ⟨gs, 0, none⟩) n cs)).alloc _
  have hTu : Boxed W0 (w.heap.size + 1) 187 (.func (.func 170) #[] #[]) := (hB2.block _ (by omega)).trans HT2.out
  have hCl : W0.cell? ⟨w2.heap.size + 1, 0, none⟩ = some (.slice (some ⟨g, 0, none⟩) Bs.length c) := by
    rw [← hW0, hlen]
    have h := Boxed.new (w2.alloc (.cells #[.slice (some ⟨gs, 0, none⟩) n cs] 42)) 38 (.slice (some ⟨g, 0, none⟩) n c)
    rw [World.size_alloc] at h
    exact h.cell
  have hB0 : Below w.heap.size w W0 := Hb.out.trans (hB2.mono (by omega))
  rw [hW0]
  refine wpIn_rangeFunc_ownH (F := Fence.wide) rfl (show 1 ≤ 6 by omega) (gf := 193) (lb := #[.pointer (some ⟨w2.heap.size + 1, 0, none⟩)]) rfl trivial (enters_of Try.func193 (by kernel_rfl) rfl)
    (bwd_stops Fence.wide (6 - 1) trivial rfl (by omega) (w2.heap.size + 1) w.heap.size g c Bs HF.out.good (by omega) (by omega) (by omega) W0 (by omega) (by omega) (by omega) hCl (HF.out.rd.below hB0 hgb))
    (fun h k => KB.trans h k)
    (fun W l o o' hl ho h1 h2 => ⟨belowK_b (w := W0) (n₀ := w.heap.size) (by omega) W l o o' hl ho h1 h2, (belowK_b (w := W0) (n₀ := W0.heap.size) (Nat.le_refl _) W l o o' hl ho h1 h2).block _ (by omega)⟩)
    (Below.refl _ _) (fun _ => rfl)
    (fun pre W => ((Boxed W w2.heap.size 42 (.slice (some ⟨gs, 0, none⟩) n cs) ∧ Boxed W (w.heap.size + 1) 187 (.func (.func 170) #[] #[])) ∧ SumAt W gs n V pre) ∧ (Below w.heap.size w W ∧ W0.heap.size ≤ W.heap.size))
    (fun _ _ _ => False)
    (OwnFrom.and (OwnFrom.and (OwnFrom.and (Own.from (boxed_own _ _ _) _) (Own.from (boxed_own _ _ _) _)) (Own.from (sumAt_own _ _ _) _)) (OwnFrom.and (ownFrom_below (Nat.le_refl _) (by omega)) (fun s A B row hs hg hr => Nat.le_trans hs hg.size)))
    (fun _ _ _ _ _ hs _ _ => hs)
    ⟨⟨⟨hBox, hTu⟩, hRow⟩, hB0, Nat.le_refl _⟩
    (fun x a' W => ∃ Bq, w2.heap.size + 2 ≤ Bq ∧ RL W Bq 89 x.1.2.vals ∧ a' = { tmps := #[.agg #[.complex .f32 (s 0) (s 1), .complex .f32 (s 2) (s 3), .complex .f32 (s 4) (s 5), .slice (some ⟨g, 0, none⟩) n c], (.func (.func 170) #[] #[]), .slice (some ⟨gl, 0, none⟩) n cl, .pointer (some ⟨w.heap.size, 0, none⟩), .pointer (some ⟨w.heap.size + 1, 0, none⟩), undef, .slice none 0 0, .pointer (some ⟨w2.heap.size, 0, none⟩), .int .i64 (x.1.1 : Int), .pointer (some ⟨Bq, 0, none⟩), .slice (some ⟨gl, 0, none⟩) n cl, .slice (some ⟨gs, 0, none⟩) n cs, .pointer (some ⟨w.heap.size, 3, none⟩), .slice (some ⟨g, 0, none⟩) n c, .func (.func 193) #[] #[.pointer (some ⟨w2.heap.size + 1, 0, none⟩)], .int .i64 (x.1.1 : Int), x.1.2.agg, undef, undef, undef, undef, undef, undef, undef, undef, undef, undef, undef, undef, undef, undef, undef, undef, undef, undef, undef, undef, undef, undef, undef, undef, undef, undef, undef, undef], defers := [] })
    (fun x a' _ X Y row hs hg hr => by
      obtain ⟨Bq, h1, h2, h3⟩ := hs
      exact ⟨Bq, h1, rowOwn Bq _ _ (fun (_ : Unit) j => x.1.2.vals.getD j (.bool false)) () X Y row h2 hg (fun r e => (hr r e).2), h3⟩)
    ?assign ?body ?done ?stop
  case assign =>
    rintro l pre x W K ⟨⟨⟨hBx1, hTx1⟩, hRw1⟩, hB1, hS1⟩ hK
    simp only [encB]
    gi_wp2
    exact hK _ _ ((KeepsOthers.alloc _ _).from _) ⟨(Below.refl _ W).alloc hB1.size _, Below.heap_alloc _ _ _ (by omega)⟩ ⟨⟨⟨hBx1.alloc _, hTx1.alloc _⟩, hRw1.below (bel_alloc W _) (by omega)⟩, hB1.alloc hB1.size _, by simp; omega⟩ ⟨W.heap.size, by omega, RL.new W x.1.2.vals _, rfl⟩
  case body =>
    rintro l pre x a' W hl ⟨r, hr⟩ ⟨⟨⟨hBx1, hTx1⟩, hRw1⟩, hB1, hS1⟩ ⟨Bq, hBq, hRq, rfl⟩ hlt
    have hG := x.2.2
    have hin : x.1.1 < n := by rw [← hlen]; exact x.2.1
    have hBqW := hRq.lt
    obtain ⟨S0, hS0, hSD0⟩ := hRw1
    have hU := fun w' => unturned_any (x.1.1 : Int) (S0 x.1.1) w'
    unfold PV at hU
    have k1 := fun y : Grown W => y.cell hBx1.cell
    have k3 := fun y : Grown W => y.cell hTx1.cell
    have m0 : ∀ y : Grown W, y.1.cell? ⟨gs, x.1.1 * 3, none⟩ = some (.complex .f32 (S0 x.1.1 0) (S0 x.1.1 1)) := fun y => y.cell (hS0.cell (i := x.1.1) (q := 0) hin (by omega))
    have m1 : ∀ y : Grown W, y.1.cell? ⟨gs, x.1.1 * 3 + 1, none⟩ = some (.complex .f32 (S0 x.1.1 2) (S0 x.1.1 3)) := fun y => y.cell (hS0.cell (i := x.1.1) (q := 1) hin (by omega))
    have m2 : ∀ y : Grown W, y.1.cell? ⟨gs, x.1.1 * 3 + 2, none⟩ = some (.complex .f32 (S0 x.1.1 4) (S0 x.1.1 5)) := fun y => y.cell (hS0.cell (i := x.1.1) (q := 2) hin (by omega))
    have HS0 := Lib.hid hS0
    have HRq := Lib.hid hRq
    have HB1 := Lib.hid hBx1
    have HT1 := Lib.hid hTx1
    clear hS0 hRq hBx1 hTx1
    gi_wp2
    refine wpIn_grown_tail_rd 10 rfl (by kernel_rfl) ?_
    simp only [List.take_succ_cons, List.take_zero, List.drop_succ_cons, List.drop_zero]
    repeat (go_big_quiet_step (first | (go_at_call_of 170 (Value.int .i64 (x.1.1 : Int)); exact Grown.calls _ (hU _))))
    refine wpQuiet_nil ?_
    rintro _ ⟨y, rfl⟩
    have hyB0 := y.2
    have n0 := m0 y
    generalize y.1 = W0' at *
    clear k1 k3 m0 m1 m2 hU
    have hT0 := HS0.out.below hyB0 (by omega)
    have n1 := hT0.mid1 hin (.complex .f32 (S0 x.1.1 0) (S0 x.1.1 1))
    have n2 := hT0.mid2 hin (.complex .f32 (S0 x.1.1 0) (S0 x.1.1 1)) (.complex .f32 (S0 x.1.1 2) (S0 x.1.1 3))
    have f0 := hT0.frozen (x.1.1 * 3)
    have f1 := hT0.fr1 (x.1.1 * 3) (x.1.1 * 3 + 1) (.complex .f32 (S0 x.1.1 0) (S0 x.1.1 1))
    have f2 := hT0.fr2 (x.1.1 * 3) (x.1.1 * 3 + 1) (x.1.1 * 3 + 2) (.complex .f32 (S0 x.1.1 0) (S0 x.1.1 1)) (.complex .f32 (S0 x.1.1 2) (S0 x.1.1 3))
    have hE0 := PhR.set3 (T := fun j => if j = x.1.1 then S0 x.1.1 else S0 j) hT0 hin (fun j hj => by rw [if_neg hj])
    unfold pcell at n1 n2 hE0
    simp only [if_true] at hE0
    have HE0 := Lib.hid hE0
    clear hT0 hE0
    have HK0 := Lib.hid (set3_kb (W := W0') (n₀ := w.heap.size) (Bx := w2.heap.size + 1) (gs := gs) (i := x.1.1 * 3) (j := x.1.1 * 3 + 1) (k := x.1.1 * 3 + 2) (u := .complex .f32 (S0 x.1.1 0) (S0 x.1.1 1)) (v := .complex .f32 (S0 x.1.1 2) (S0 x.1.1 3)) (z := .complex .f32 (S0 x.1.1 4) (S0 x.1.1 5)) (by omega) (by omega))
    have HKb0 : Hid (KB w.heap.size (w2.heap.size + 1) W W0') := Lib.hid ⟨hyB0.mono hB1.size, hyB0.block _ (by omega)⟩
    have HKo0 : Hid (KeepsOthers W W0') := Lib.hid (ko_below hyB0)
    have HBx3 := Lib.hid (boxed_set3 (gs := gs) (i := x.1.1 * 3) (j := x.1.1 * 3 + 1) (k := x.1.1 * 3 + 2) (u := .complex .f32 (S0 x.1.1 0) (S0 x.1.1 1)) (v := .complex .f32 (S0 x.1.1 2) (S0 x.1.1 3)) (z := .complex .f32 (S0 x.1.1 4) (S0 x.1.1 5)) (show Boxed W0' w2.heap.size 42 (.slice (some ⟨gs, 0, none⟩) n cs) from (hyB0.block _ (by omega)).trans HB1.out) (by omega))
    have HTx3 := Lib.hid (boxed_set3 (gs := gs) (i := x.1.1 * 3) (j := x.1.1 * 3 + 1) (k := x.1.1 * 3 + 2) (u := .complex .f32 (S0 x.1.1 0) (S0 x.1.1 1)) (v := .complex .f32 (S0 x.1.1 2) (S0 x.1.1 3)) (z := .complex .f32 (S0 x.1.1 4) (S0 x.1.1 5)) (show Boxed W0' (w.heap.size + 1) 187 (.func (.func 170) #[] #[]) from (hyB0.block _ (by omega)).trans HT1.out) (by omega))
    have hRq3 := rl_set3 (gs := gs) (i := x.1.1 * 3) (j := x.1.1 * 3 + 1) (k := x.1.1 * 3 + 2) (u := .complex .f32 (S0 x.1.1 0) (S0 x.1.1 1)) (v := .complex .f32 (S0 x.1.1 2) (S0 x.1.1 3)) (z := .complex .f32 (S0 x.1.1 4) (S0 x.1.1 5)) (HRq.out.below hyB0 hBqW) (by omega)
    have hc0 := hRq3.cell 0 (by show 0 < 8; omega)
    have hszy := hyB0.size
    have HRq3 := Lib.hid hRq3
    clear hRq3 hyB0
    simp only [BusV.vals, List.getD_cons_zero] at hc0
    have hsm := fun q => wsum_small (V q) pre (hV q) (by omega)
    by_cases hp : x.1.2.par = -1
    · rw [hp] at hc0
      clear hsm
      gi_wp2
      exact ⟨(HKo0.out.trans HK0.out.1).from _, HKb0.out.trans HK0.out.2, ⟨⟨⟨HBx3.out, HTx3.out⟩, SumAt.root ⟨_, HE0.out, fun i hi q hq => by
        show Dy .f32 0 ((if i = x.1.1 then S0 x.1.1 else S0 i) q) _
        by_cases e : i = x.1.1
        · rw [if_pos e, e]; exact hSD0 _ hin q hq
        · rw [if_neg e]; exact hSD0 i hi q hq⟩ x hp⟩, (hB1.trans HKb0.out.1).trans HK0.out.2.1, by have a := HKo0.out.size; have b := HK0.out.1.size; omega⟩⟩
    · have hx0 : x.1.1 ≠ 0 := fun e => hp (hG.root e).1
      have hpar := hG.par (by omega)
      obtain ⟨qq, hq⟩ : ∃ q : Nat, x.1.2.par = q := ⟨x.1.2.par.toNat, by omega⟩
      have hqi : qq ≠ x.1.1 := by omega
      have hqn : qq < n := by omega
      rw [hq] at hc0
      have hqp : ((qq : Nat) : Int) ≠ -1 := by omega
      gi_wp2
      clear n0 n1 n2 f0 f1 f2
      generalize hW2 : (((W0'.setCell ⟨gs, x.1.1 * 3, none⟩ (.complex .f32 (S0 x.1.1 0) (S0 x.1.1 1))).setCell ⟨gs, x.1.1 * 3 + 1, none⟩ (.complex .f32 (S0 x.1.1 2) (S0 x.1.1 3))).setCell ⟨gs, x.1.1 * 3 + 2, none⟩ (.complex .f32 (S0 x.1.1 4) (S0 x.1.1 5))) = W2 at *
      have HSA : Hid (SumAt W2 gs n V pre) := Lib.hid ⟨_, HE0.out, fun i hi q hq => by
        show Dy .f32 0 ((if i = x.1.1 then S0 x.1.1 else S0 i) q) _
        by_cases e : i = x.1.1
        · rw [if_pos e, e]; exact hSD0 _ hin q hq
        · rw [if_neg e]; exact hSD0 i hi q hq⟩
      have hsz2 := HK0.out.1.size
      have hB2' : Below w.heap.size w W2 := (hB1.trans HKb0.out.1).trans HK0.out.2.1
      have HKo2 := Lib.hid (HKo0.out.trans HK0.out.1)
      have HKb2 := Lib.hid (HKb0.out.trans HK0.out.2)
      have hBx2 := HBx3.out
      have hcb := hBx2.cell
      have hBqW2 := HRq3.out.lt
      clear hW2 HE0 HK0 HKb0 HKo0 hSD0 HS0
      obtain ⟨S, hS, hSD⟩ := HSA.out
      obtain ⟨r6, hr6⟩ := pick6 (P := fun j b => fop .add .f32 (vl .f32 (S qq j)) (vl .f32 (S x.1.1 j)) = some b ∧ Dy .f32 0 b (wsum (V j) pre qq + wsum (V j) pre x.1.1)) (fun j hj => by
        have b1 := hsm j qq
        have b2 := hsm j x.1.1
        exact (DyV.of (hSD qq hqn j hj)).add (DyV.of (hSD x.1.1 hin j hj)) (by omega) (by rw [show FloatKind.f32.format.binade = 8388608 by decide]; omega))
      have hA := fun w' => addP_any (S qq) (S x.1.1) r6 (fun j hj => (hr6 j hj).1) w'
      have HT : Hid (∀ i, i < n → ∀ q, q < 6 → Dy .f32 0 ((if i = qq then r6 else S i) q) (wsum (V q) (pre ++ [x]) i)) := Lib.hid (fun i hi q hq6 => by
        rw [wsum_snoc]
        unfold wst
        by_cases e : i = qq
        · rw [if_pos e, if_pos (by omega), e]
          exact (hr6 q hq6).2
        · rw [if_neg e, if_neg (by omega)]
          exact hSD i hi q hq6)
      have HS := Lib.hid hS
      have Hbx := Lib.hid hBx2
      clear hr6 hsm hSD hpar hG hq
      unfold PV at hA
      have k1 := fun y : Grown W2 => y.cell hcb
      have k2 := fun y : Grown W2 => y.cell hc0
      have p0 : ∀ y : Grown W2, y.1.cell? ⟨gs, qq * 3, none⟩ = some (.complex .f32 (S qq 0) (S qq 1)) := fun y => y.cell (HS.out.cell (i := qq) (q := 0) hqn (by omega))
      have p1 : ∀ y : Grown W2, y.1.cell? ⟨gs, qq * 3 + 1, none⟩ = some (.complex .f32 (S qq 2) (S qq 3)) := fun y => y.cell (HS.out.cell (i := qq) (q := 1) hqn (by omega))
      have p2 : ∀ y : Grown W2, y.1.cell? ⟨gs, qq * 3 + 2, none⟩ = some (.complex .f32 (S qq 4) (S qq 5)) := fun y => y.cell (HS.out.cell (i := qq) (q := 2) hqn (by omega))
      have m0 : ∀ y : Grown W2, y.1.cell? ⟨gs, x.1.1 * 3, none⟩ = some (.complex .f32 (S x.1.1 0) (S x.1.1 1)) := fun y => y.cell (HS.out.cell (i := x.1.1) (q := 0) hin (by omega))
      have m1 : ∀ y : Grown W2, y.1.cell? ⟨gs, x.1.1 * 3 + 1, none⟩ = some (.complex .f32 (S x.1.1 2) (S x.1.1 3)) := fun y => y.cell (HS.out.cell (i := x.1.1) (q := 1) hin (by omega))
      have m2 : ∀ y : Grown W2, y.1.cell? ⟨gs, x.1.1 * 3 + 2, none⟩ = some (.complex .f32 (S x.1.1 4) (S x.1.1 5)) := fun y => y.cell (HS.out.cell (i := x.1.1) (q := 2) hin (by omega))
      refine wpIn_grown_tail_rd 14 rfl (by kernel_rfl) ?_
      simp only [List.take_succ_cons, List.take_zero, List.drop_succ_cons, List.drop_zero]
      repeat (go_big_quiet_step (first | (go_at_call_of 201 (Value.agg #[.complex .f32 (S qq 0) (S qq 1), .complex .f32 (S qq 2) (S qq 3), .complex .f32 (S qq 4) (S qq 5)]); exact Grown.calls _ (hA _))))
      refine wpQuiet_nil ?_
      rintro _ ⟨y, rfl⟩
      have hyB := y.2
      have hT1 := HS.out.below hyB (by omega)
      have n0 : y.1.cell? ⟨gs, qq * 3, none⟩ = some (.complex .f32 (S qq 0) (S qq 1)) := p0 y
      generalize y.1 = W1 at *
      clear k1 k2 p0 p1 p2 m0 m1 m2 hA
      have n1 := hT1.mid1 hqn (.complex .f32 (r6 0) (r6 1))
      have n2 := hT1.mid2 hqn (.complex .f32 (r6 0) (r6 1)) (.complex .f32 (r6 2) (r6 3))
      have f0 := hT1.frozen (qq * 3)
      have f1 := hT1.fr1 (qq * 3) (qq * 3 + 1) (.complex .f32 (r6 0) (r6 1))
      have f2 := hT1.fr2 (qq * 3) (qq * 3 + 1) (qq * 3 + 2) (.complex .f32 (r6 0) (r6 1)) (.complex .f32 (r6 2) (r6 3))
      have HE := Lib.hid (PhR.set3 (T := fun j => if j = qq then r6 else S j) hT1 hqn (fun j hj => by rw [if_neg hj]))
      unfold pcell at n1 n2
      clear hT1
      have hSD := set3_kb (W := W1) (n₀ := w.heap.size) (Bx := w2.heap.size + 1) (gs := gs) (i := qq * 3) (j := qq * 3 + 1) (k := qq * 3 + 2) (u := .complex .f32 (r6 0) (r6 1)) (v := .complex .f32 (r6 2) (r6 3)) (z := .complex .f32 (r6 4) (r6 5)) (by omega) (by omega)
      have hk1 : KeepsOthers W2 W1 := ko_below hyB
      have hk2 : KB w.heap.size (w2.heap.size + 1) W2 W1 := ⟨hyB.mono hB2'.size, hyB.block _ (by omega)⟩
      have hbx3 := boxed_set3 (gs := gs) (i := qq * 3) (j := qq * 3 + 1) (k := qq * 3 + 2) (u := .complex .f32 (r6 0) (r6 1)) (v := .complex .f32 (r6 2) (r6 3)) (z := .complex .f32 (r6 4) (r6 5)) (show Boxed W1 w2.heap.size 42 (.slice (some ⟨gs, 0, none⟩) n cs) from (hyB.block _ (by omega)).trans Hbx.out) (by omega)
      have htx4 := boxed_set3 (gs := gs) (i := qq * 3) (j := qq * 3 + 1) (k := qq * 3 + 2) (u := .complex .f32 (r6 0) (r6 1)) (v := .complex .f32 (r6 2) (r6 3)) (z := .complex .f32 (r6 4) (r6 5)) (show Boxed W1 (w.heap.size + 1) 187 (.func (.func 170) #[] #[]) from (hyB.block _ (by omega)).trans HTx3.out) (by omega)
      unfold pcell at HE
      gi_wp2
      exact ⟨(HKo2.out.trans (hk1.trans hSD.1)).from _, HKb2.out.trans (hk2.trans hSD.2), ⟨⟨⟨hbx3, htx4⟩, ⟨_, HE.out, HT.out⟩⟩, (hB2'.trans hk2.1).trans hSD.2.1, by have a := hk1.size; have b := hSD.1.size; omega⟩⟩
  case done =>
    rintro D xs W hD hS ⟨⟨⟨hBx1, hTx1⟩, hRw1⟩, hB1, hS1⟩ hK
    have hcb := hBx1.cell
    gi_wp2
    refine ⟨by simp, .inl ⟨_, _, rfl, run_takeDeferred hK, ?_⟩⟩
    refine ⟨.slice (some ⟨gs, 0, none⟩) n cs, ?_, gs, cs, rfl, by omega, hcs1, hcs2, ?_, hB1.trans (belowK_b (w := W0) (by omega) W D _ _ hD hK rfl rfl)⟩
    · simp [results, Try.results164, go_sem]
    have hrow := sumAt_own (n := Bs.length) gs n V xs W (W.putObj D (.deferred none)) (some D) hRw1 (grownBy_putObj' W D _) (fun r e => by cases e; exact ⟨_, hK, rfl⟩)
    rw [hS] at hrow
    exact hrow
  case stop =>
    rintro D c' pre W hD _ h _
    exact h.elim
set_option maxHeartbeats 4000000 in
theorem sumBack_any (w : World) (s : Nat → Nat) (g n c : Nat) (Bs : List BusV) (hF : Fdr w g n c Bs) (hG : ∀ i (h : i < Bs.length), Good i Bs[i]) (h0 : 0 < Bs.length) (gl cl : Nat) (L : Nat → Nat → Nat) (V : Nat → Nat → Int) (hR : PhR w gl n L)
    (hD : ∀ i, i < n → ∀ q, q < 6 → Dy .f32 0 (L i q) (V q i)) (hV : ∀ q j, (V q j).natAbs ≤ 50) : Calls Try.prog 113 #[FV s g n c, .slice (some ⟨gl, 0, none⟩) n cl] w fun e w' => ∃ gs cs, e = .returned (.slice (some ⟨gs, 0, none⟩) n cs) ∧ w.heap.size ≤ gs ∧ n ≤ cs ∧ cs ≤ maxLen ∧ SumAt w' gs n V (upto (gB Bs hG h0) Bs.length) ∧ Below w.heap.size w w' := by
  have hS := sumBackBy_any (w.alloc (.cells #[.complex .f32 (s 0) (s 1), .complex .f32 (s 2) (s 3), .complex .f32 (s 4) (s 5), .slice (some ⟨g, 0, none⟩) n c] 40)) s g n c Bs (hF.below (bel_alloc _ _) (Nat.le_refl _)) hG h0 gl cl L V (hR.below (bel_alloc _ _) hR.lt) hD hV
  have RF := RL.new w [.complex .f32 (s 0) (s 1), .complex .f32 (s 2) (s 3), .complex .f32 (s 4) (s 5), .slice (some ⟨g, 0, none⟩) n c] 40
  clear hF hR hD
  unfold FV at *
  unfold UT at hS
  go_enter Try.func113, Try.ntmps113
  go_wp2_with fail
  refine hS.mono ?_
  rintro e w3 ⟨gs, cs, rfl, hgs, hcs1, hcs2, hA, hb3⟩
  have HB := Lib.hid (bel_then (bel_alloc _ _) hb3)
  have HA := Lib.hid hA
  have hgs' : w.heap.size ≤ gs := by simp at hgs; omega
  clear hb3 hS hA RF
  go_wp2_with fail
  go_ret
  exact ⟨gs, cs, rfl, hgs', hcs1, hcs2, HA.out, HB.out⟩
end Go.Proofs.Ytbcjgjdkapdihaa
