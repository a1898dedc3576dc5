/-
  The customers below each bus, in the program. No theorem of a claim stands here.
-/
import Derived.Test.YtbcjgjdkapdihaaFdr
import Derived.Test.YtbcjgjdkapdihaaTail
set_option linter.unusedVariables false
set_option linter.unusedSimpArgs false
set_option maxRecDepth 8000
namespace Go.Proofs.Ytbcjgjdkapdihaa
open Go Go.RowKit Go.Shelf Go.Deep Go.Proofs.Ytbcjgjdkapdihaa.Fl

attribute [local go_sem] Oper.semAt_some

def upd (S : Nat → Int) (i : Nat) (v : Int) : Nat → Int := fun j => if j = i then v else S j
theorem upd_at (S : Nat → Int) (i : Nat) (v : Int) (j : Nat) : upd S i v j = if j = i then v else S j := rfl
/-- One round: a bus's customers are added to its sum, its sum to its parent's. -/
def cstep {n : Nat} (S : Nat → Int) (x : IB n) : Nat → Int :=
  let S1 := upd S x.1.1 (S x.1.1 + x.1.2.cust)
  if x.1.2.par = -1 then S1 else upd S1 x.1.2.par.toNat (S1 x.1.2.par.toNat + S1 x.1.1)
def csum {n : Nat} (pre : List (IB n)) : Nat → Int := pre.foldl cstep (fun _ => 0)
theorem csum_snoc {n : Nat} (pre : List (IB n)) (x : IB n) : csum (pre ++ [x]) = cstep (csum pre) x := by simp [csum]
theorem csum_bound {n : Nat} (pre : List (IB n)) : ∀ j, 0 ≤ csum pre j ∧ csum pre j ≤ 1000000 * 3 ^ pre.length := by
  have key : ∀ (l : List (IB n)) (S : Nat → Int) (M : Int), 1000000 ≤ M → (∀ j, 0 ≤ S j ∧ S j ≤ M) → ∀ j, 0 ≤ l.foldl cstep S j ∧ l.foldl cstep S j ≤ M * 3 ^ l.length := by
    intro l
    induction l with
    | nil => intro S M hM h j; simpa using h j
    | cons x r ih =>
      intro S M hM h j
      have hc := x.2.2.cust
      have h1 : ∀ j, 0 ≤ cstep S x j ∧ cstep S x j ≤ M * 3 := by
        intro j
        have ha := h x.1.1
        have hb := h x.1.2.par.toNat
        have hj := h j
        unfold cstep
        by_cases hp : x.1.2.par = -1
        · simp only [hp, if_true, upd_at]
          split <;> omega
        · have hne : x.1.2.par.toNat ≠ x.1.1 := by
            have hg := x.2.2
            by_cases hk : x.1.1 = 0
            · exact absurd (hg.root hk).1 hp
            · have := hg.par (by omega)
              omega
          simp only [hp, if_false, upd_at, hne]
          by_cases h5 : j = x.1.2.par.toNat
          · subst h5
            simp only [if_true, hne, if_false]
            omega
          · simp only [h5, if_false]
            split <;> omega
      have := ih (cstep S x) (M * 3) (by omega) h1 j
      rw [List.foldl_cons, List.length_cons, Int.pow_succ, Int.mul_comm (3 ^ r.length) 3, ← Int.mul_assoc]
      exact this
  have h0 := fun j => key pre (fun _ => 0) 1000000 (by omega) (fun j => ⟨Int.le_refl _, by omega⟩) j
  exact h0
theorem pow3 : ∀ k : Nat, k < 17 → (3 : Int) ^ k ≤ 43046721 := by decide
theorem csum_small {n : Nat} (pre : List (IB n)) (h : pre.length ≤ 16) (j : Nat) : 0 ≤ csum pre j ∧ csum pre j ≤ 43046721000000 := by
  have h1 := csum_bound pre j
  have h2 := pow3 pre.length (by omega)
  omega
theorem cstep_root {n : Nat} (S : Nat → Int) (x : IB n) (h : x.1.2.par = -1) (j : Nat) : cstep S x j = if j = x.1.1 then S x.1.1 + x.1.2.cust else S j := by
  unfold cstep; rw [if_pos h]; rfl
theorem cstep_at {n : Nat} (S : Nat → Int) (x : IB n) (q : Nat) (h : x.1.2.par = q) (hq : q ≠ x.1.1) (j : Nat) : cstep S x j = if j = q then S q + (S x.1.1 + x.1.2.cust) else if j = x.1.1 then S x.1.1 + x.1.2.cust else S j := by
  unfold cstep
  rw [if_neg (by omega), h, Int.toNat_natCast, upd_at]
  by_cases h1 : j = q
  · rw [if_pos h1, if_pos h1, upd_at, if_neg hq, upd_at, if_pos rfl]
  · rw [if_neg h1, if_neg h1, upd_at]
theorem box_ne {W : World} {B g : Nat} {t u : TypeId} {v : Value} {n : Nat} {f : Nat → Value} (h : Boxed W B t v) (h2 : W.rowIs g u n f) (ht : t ≠ u) : B ≠ g := by
  intro e
  subst e
  obtain ⟨c, hb, _⟩ := h2
  rw [show W.heap[B]? = _ from h] at hb
  simp at hb
  exact ht hb.2
theorem set_drew {W : World} {n₀ Bx gs i : Nat} {v : Value} (h : n₀ ≤ gs) (hx : Bx ≠ gs) : KeepsOthers W (W.setCell ⟨gs, i, none⟩ v).drew ∧ KB n₀ Bx W (W.setCell ⟨gs, i, none⟩ v).drew :=
  ⟨(KeepsOthers.setCell _ _ _).trans (KeepsOthers.drew _), ⟨((Below.refl _ W).setCell (p := ⟨gs, i, none⟩) h _).drew, Below.heap_setCell _ _ _ _ hx⟩⟩
theorem row_ne {W : World} {g g2 : Nat} {t u : TypeId} {L : List Value} {n : Nat} {f : Nat → Value} (h : RL W g2 t L) (h2 : W.rowIs g u n f) (ht : t ≠ u) : g2 ≠ g := by
  intro e
  subst e
  obtain ⟨c, hb, _⟩ := h2
  obtain ⟨c', hb', _⟩ := h
  rw [hb'] at hb
  simp at hb
  exact ht hb.2
theorem rowOwn {β : Type} (g t n : Nat) (f : β → Nat → Value) : Own (fun s W => W.rowIs g t n (f s)) := fun s X Y row hs hg hrow =>
  hs.of_block (hg.block g hs.lt (fun e => by
    obtain ⟨o, ho, hc⟩ := hrow g e.symm
    obtain ⟨c, hb, _⟩ := hs
    rw [hb] at ho
    cases ho
    cases hc))

set_option maxRecDepth 100000 in
set_option maxHeartbeats 4000000 in
theorem cust_any (w : World) (s : Nat → Nat) (g n c : Nat) (Bs : List BusV) (hF : Fdr w g n c Bs) (hG : ∀ i (h : i < Bs.length), Good i Bs[i]) (h0 : 0 < Bs.length) : Calls Try.prog 65 #[FV s g n c] w fun e w' => ∃ gs, w.heap.size ≤ gs ∧ e = .returned (.tuple #[.slice (some ⟨gs, 0, none⟩) n n, .bool true]) ∧ w'.rowIs gs 2 n (fun j => .int .i64 (csum (upto (gB Bs hG h0) Bs.length) j)) ∧ Below w.heap.size w w' := by
  have h1 := hF.one
  have h2 := hF.most
  have h3 := hF.cap
  have HF := Lib.hid hF
  clear hF
  have hst := fun (a : Addr) (x y : Nat) (m : Mode) (w : World) => run_store Try.prog w a (.complex .f32 x y) m rfl
  have hV := fun w' (h : Below w.heap.size w w') => valid_any w' s g n c Bs (HF.out.below h (Nat.le_refl _))
  unfold FV at *
  obtain ⟨i0, hi, hz0, hz1, hz2⟩ := info_parts (show (Try.prog.info? 2).map (fun i => (i.zero, i.size, i.bytes)) = some (some (.int .i64 0), 1, 8) by kernel_rfl)
  have hmk := fun w' => run_make (P := Try.prog) w' 62 2 i0 (.int .i64 0) Try.underlying62 hi hz0 .i64 .i64 n n (by omega) (by omega) (by rw [hz2]; omega) (by omega)
  refine (callsIn_wide (n := 6)).1 ?_
  refine callsIn_of_wp_marks Try.func65 rfl trivial ?_ rfl
  simp only [Try.ntmps65, List.size_toArray, List.length_cons, List.length_nil, Nat.reduceAdd, Nat.reduceSub, Array.replicate_succ, Array.replicate_zero, List.push_toArray, List.append_toArray, List.nil_append, List.cons_append]
  gi_wp2_with (first | (refine ⟨trivial, ?_⟩; gi_at_call 57; refine (callsIn_wide.2 (hV _ (bel_alloc _ _))).mono ?_; rintro e w2 ⟨rfl, hb⟩; have Hb := Lib.hid (bel_then (bel_alloc _ _) hb); have R2 : RL w2 w.heap.size 40 [.complex .f32 (s 0) (s 1), .complex .f32 (s 2) (s 3), .complex .f32 (s 4) (s 5), .slice (some ⟨g, 0, none⟩) n c] := RL.below (RL.new w [.complex .f32 (s 0) (s 1), .complex .f32 (s 2) (s 3), .complex .f32 (s 4) (s 5), .slice (some ⟨g, 0, none⟩) n c] 40) hb (by simp); have k3 : w2.cell? ⟨w.heap.size, 3, none⟩ = some (.slice (some ⟨g, 0, none⟩) n c) := R2.cell 3 (by simp); have k4 : ∀ o1 o2, ((w2.alloc o1).alloc o2).cell? ⟨w.heap.size, 3, none⟩ = some (.slice (some ⟨g, 0, none⟩) n c) := fun o1 o2 => ((R2.allocd o1).allocd o2).cell 3 (by simp); clear hb) | (refine ⟨trivial, ?_⟩; gi_at_call 143; refine (bwd_in Fence.wide _ trivial rfl _ _ _ _).mono ?_; rintro e w' ⟨rfl, rfl⟩))
  have hsz := Hb.out.size
  have hlen := HF.out.len
  have hlt2 := R2.lt
  have hgb := HF.out.rd.1
  obtain ⟨W0, hW0⟩ : ∃ W0, (((w2.alloc (.cells (madeCells #[Value.int .i64 0] n) 2)).alloc (.cells #[.slice (some ⟨w2.heap.size, 0, none⟩) n n] 62)).alloc (.cells #[.slice (some ⟨g, 0, none⟩) n c] 38)) = W0 := ⟨_, rfl⟩
  have hs0 : W0.heap.size = w2.heap.size + 3 := by rw [← hW0]; simp
  have hRow : W0.rowIs w2.heap.size 2 n (fun j => .int .i64 (csum (n := Bs.length) [] j)) := by
    rw [← hW0]
    exact ((World.rowIs_made w2 (.int .i64 0) n 2).alloc _).alloc _
  have hBox : Boxed W0 (w2.heap.size + 1) 62 (.slice (some ⟨w2.heap.size, 0, none⟩) n n) := by
    rw [← hW0]
    have h := Boxed.new (w2.alloc (.cells (madeCells #[Value.int .i64 0] n) 2)) 62 (.slice (some ⟨w2.heap.size, 0, none⟩) n n)
    rw [World.size_alloc] at h
    exact h.alloc _
  have hCl : W0.cell? ⟨w2.heap.size + 1 + 1, 0, none⟩ = some (.slice (some ⟨g, 0, none⟩) Bs.length c) := by
    rw [← hW0, hlen]
    have h := Boxed.new ((w2.alloc (.cells (madeCells #[Value.int .i64 0] n) 2)).alloc (.cells #[.slice (some ⟨w2.heap.size, 0, none⟩) n n] 62)) 38 (.slice (some ⟨g, 0, none⟩) n c)
    rw [World.size_alloc, World.size_alloc] at h
    exact h.cell
  have hB0 : Below w.heap.size w W0 := by
    rw [← hW0]
    exact ((Hb.out.alloc hsz _).alloc (by simp; omega) _).alloc (by simp; omega) _
  rw [hW0]
  refine wpIn_rangeFunc_ownH (F := Fence.wide) rfl (show 1 ≤ 6 by omega) (gf := 193) (lb := #[.pointer (some ⟨w2.heap.size + 1 + 1, 0, none⟩)]) rfl trivial (enters_of Try.func193 (by kernel_rfl) rfl)
    (bwd_stops Fence.wide (6 - 1) trivial rfl (by omega) (w2.heap.size + 1 + 1) w.heap.size g c Bs HF.out.good (by omega) (by omega) (by omega) W0 (by omega) (by omega) (by omega) hCl (HF.out.rd.below hB0 hgb))
    (fun h k => KB.trans h k)
    (fun W l o o' hl ho h1 h2 => ⟨belowK_b (w := W0) (n₀ := w.heap.size) (by omega) W l o o' hl ho h1 h2, (belowK_b (w := W0) (n₀ := W0.heap.size) (Nat.le_refl _) W l o o' hl ho h1 h2).block _ (by omega)⟩)
    (Below.refl _ _) (fun _ => rfl)
    (fun pre W => (Boxed W (w2.heap.size + 1) 62 (.slice (some ⟨w2.heap.size, 0, none⟩) n n) ∧ W.rowIs w2.heap.size 2 n (fun j => .int .i64 (csum pre j))) ∧ (Below w.heap.size w W ∧ W0.heap.size ≤ W.heap.size))
    (fun _ _ _ => False)
    (OwnFrom.and (OwnFrom.and (Own.from (boxed_own _ _ _) _) (Own.from (rowOwn _ _ _ _) _)) (OwnFrom.and (ownFrom_below (Nat.le_refl _) (by omega)) (fun s A B row hs hg hr => Nat.le_trans hs hg.size)))
    (fun _ _ _ _ _ hs _ _ => hs)
    ⟨⟨hBox, hRow⟩, hB0, Nat.le_refl _⟩
    (fun x a' W => ∃ Bq, w.heap.size ≤ Bq ∧ RL W Bq 89 x.1.2.vals ∧ a' = { tmps := #[.agg #[.complex .f32 (s 0) (s 1), .complex .f32 (s 2) (s 3), .complex .f32 (s 4) (s 5), .slice (some ⟨g, 0, none⟩) n c], .pointer (some ⟨w.heap.size, 0, none⟩), .slice none 0 0, .bool false, .pointer (some ⟨w2.heap.size + 1, 0, none⟩), .int .i64 (x.1.1 : Int), .pointer (some ⟨Bq, 0, none⟩), .agg #[.complex .f32 (s 0) (s 1), .complex .f32 (s 2) (s 3), .complex .f32 (s 4) (s 5), .slice (some ⟨g, 0, none⟩) n c], .bool true, .bool false, .pointer (some ⟨w.heap.size, 3, none⟩), .slice (some ⟨g, 0, none⟩) n c, .int .i64 n, .slice (some ⟨w2.heap.size, 0, none⟩) n n, .pointer (some ⟨w.heap.size, 3, none⟩), .slice (some ⟨g, 0, none⟩) n c, .func (.func 193) #[] #[.pointer (some ⟨w2.heap.size + 1 + 1, 0, none⟩)], .int .i64 (x.1.1 : Int), x.1.2.agg, undef, undef, undef, undef, undef, undef, undef, undef, undef, undef, undef, undef, undef, undef, undef, undef, undef, undef, undef, undef, undef, undef, undef], defers := [] })
    (fun x a' _ X Y row hs hg hr => by
      obtain ⟨Bq, h1, h2, h3⟩ := hs
      exact ⟨Bq, h1, rowOwn Bq _ _ (fun (_ : Unit) j => x.1.2.vals.getD j (.bool false)) () X Y row h2 hg (fun r e => (hr r e).2), h3⟩)
    ?assign ?body ?done ?stop
  case assign =>
    rintro l pre x W K ⟨⟨hBx1, hRw1⟩, hB1, hS1⟩ hK
    simp only [encB]
    gi_wp2
    exact hK _ _ ((KeepsOthers.alloc _ _).from _) ⟨(Below.refl _ W).alloc hB1.size _, Below.heap_alloc _ _ _ (by omega)⟩ ⟨⟨hBx1.alloc _, hRw1.alloc _⟩, hB1.alloc hB1.size _, by simp; omega⟩ ⟨W.heap.size, hB1.size, RL.new W x.1.2.vals _, rfl⟩
  case body =>
    rintro l pre x a' W hl ⟨r, hr⟩ ⟨⟨hBx1, hRw1⟩, hB1, hS1⟩ ⟨Bq, hBq, hRq, rfl⟩ hlt
    have hG := x.2.2
    have hin : x.1.1 < n := by rw [← hlen]; exact x.2.1
    have hsm := csum_small pre (by omega)
    have hsnoc := csum_snoc pre x
    have hne1 := box_ne hBx1 hRw1 (by decide)
    have hne2 := row_ne hRq hRw1 (by decide)
    have hcb := hBx1.cell
    have hc7 : W.cell? ⟨Bq, 7, none⟩ = some (.int .i64 x.1.2.cust) := hRq.cell 7 (by show 7 < 8; omega)
    have hc0 : W.cell? ⟨Bq, 0, none⟩ = some (.int .i64 x.1.2.par) := hRq.cell 0 (by show 0 < 8; omega)
    have hci : W.cell? ⟨w2.heap.size, x.1.1, none⟩ = some (.int .i64 (csum pre x.1.1)) := hRw1.cell hin
    have hfi := hRw1.frozen x.1.1
    have hs1 := hsm x.1.1
    have hcu := hG.cust
    have hR1 := (hRw1.set x.1.1 (.int .i64 (csum pre x.1.1 + x.1.2.cust))).drew
    have hSD := set_drew (W := W) (n₀ := w.heap.size) (Bx := w2.heap.size + 1 + 1) (gs := w2.heap.size) (i := x.1.1) (v := .int .i64 (csum pre x.1.1 + x.1.2.cust)) (by omega) (by omega)
    have hBx2 : Boxed (W.setCell ⟨w2.heap.size, x.1.1, none⟩ (.int .i64 (csum pre x.1.1 + x.1.2.cust))).drew (w2.heap.size + 1) 62 (.slice (some ⟨w2.heap.size, 0, none⟩) n n) := (Below.heap_setCell W ⟨w2.heap.size, x.1.1, none⟩ _ (w2.heap.size + 1) (by show w2.heap.size + 1 ≠ w2.heap.size; omega)).trans hBx1
    have hcb1 : (W.setCell ⟨w2.heap.size, x.1.1, none⟩ (.int .i64 (csum pre x.1.1 + x.1.2.cust))).cell? ⟨w2.heap.size + 1, 0, none⟩ = some (.slice (some ⟨w2.heap.size, 0, none⟩) n n) := (World.cell?_of_block (w := W) (Below.heap_setCell _ _ _ _ (by show w2.heap.size + 1 ≠ w2.heap.size; omega))).trans hcb
    have hc01 : (W.setCell ⟨w2.heap.size, x.1.1, none⟩ (.int .i64 (csum pre x.1.1 + x.1.2.cust))).cell? ⟨Bq, 0, none⟩ = some (.int .i64 x.1.2.par) := (World.cell?_of_block (w := W) (Below.heap_setCell _ _ _ _ (by show Bq ≠ w2.heap.size; omega))).trans hc0
    by_cases hp : x.1.2.par = -1
    · have hfin : ∀ j, csum (pre ++ [x]) j = if j = x.1.1 then csum pre x.1.1 + x.1.2.cust else csum pre j := fun j => by rw [hsnoc]; exact cstep_root _ _ hp j
      have hR2 := hR1.congr (g := fun j => .int .i64 (csum (pre ++ [x]) j)) (fun j _ => by show _ = Value.int .i64 (csum (pre ++ [x]) j); rw [hfin]; by_cases hj : j = x.1.1 <;> simp [hj])
      have HE := Lib.hid hR2
      clear hR1 hR2 hfin hsnoc
      rw [hp] at hc0 hc01
      generalize csum pre x.1.1 = v at *
      gi_wp2
      refine wpIn_region_tail_rd 8 rfl (by kernel_rfl) ?_
      simp only [List.take_succ_cons, List.take_zero, List.drop_succ_cons, List.drop_zero]
      repeat still_step
      try refine wpStill_nil ?_
      gi_wp2
      exact ⟨hSD.1.from _, hSD.2, ⟨⟨hBx2, HE.out⟩, hB1.trans hSD.2.1, Nat.le_trans hS1 hSD.1.size⟩⟩
    · have hx0 : x.1.1 ≠ 0 := fun e => hp (hG.root e).1
      have hpar := hG.par (by omega)
      obtain ⟨q, hq⟩ : ∃ q : Nat, x.1.2.par = q := ⟨x.1.2.par.toNat, by omega⟩
      have hqi : q ≠ x.1.1 := by omega
      have hqn : q < n := by omega
      have hq0 : x.1.2.par ≠ -1 := hp
      have hfin : ∀ j, csum (pre ++ [x]) j = if j = q then csum pre q + (csum pre x.1.1 + x.1.2.cust) else if j = x.1.1 then csum pre x.1.1 + x.1.2.cust else csum pre j := fun j => by rw [hsnoc]; exact cstep_at _ _ q hq hqi j
      have hs2 := hsm q
      have hcq1 := hR1.cell hqn
      rw [if_neg hqi] at hcq1
      have hci1 := hR1.cell hin
      rw [if_pos rfl] at hci1
      have hfq1 := hR1.frozen q
      have hcb2 := hBx2.cell
      have hc02 : (W.setCell ⟨w2.heap.size, x.1.1, none⟩ (.int .i64 (csum pre x.1.1 + x.1.2.cust))).drew.cell? ⟨Bq, 0, none⟩ = some (.int .i64 x.1.2.par) := hc01
      have hR3 := (hR1.set q (.int .i64 (csum pre q + (csum pre x.1.1 + x.1.2.cust)))).drew
      have hSD2 := set_drew (W := (W.setCell ⟨w2.heap.size, x.1.1, none⟩ (.int .i64 (csum pre x.1.1 + x.1.2.cust))).drew) (n₀ := w.heap.size) (Bx := w2.heap.size + 1 + 1) (gs := w2.heap.size) (i := q) (v := .int .i64 (csum pre q + (csum pre x.1.1 + x.1.2.cust))) (by omega) (by omega)
      have hBx3 : Boxed ((W.setCell ⟨w2.heap.size, x.1.1, none⟩ (.int .i64 (csum pre x.1.1 + x.1.2.cust))).drew.setCell ⟨w2.heap.size, q, none⟩ (.int .i64 (csum pre q + (csum pre x.1.1 + x.1.2.cust)))).drew (w2.heap.size + 1) 62 (.slice (some ⟨w2.heap.size, 0, none⟩) n n) := (Below.heap_setCell _ ⟨w2.heap.size, q, none⟩ _ (w2.heap.size + 1) (by show w2.heap.size + 1 ≠ w2.heap.size; omega)).trans hBx2
      have hR4 := hR3.congr (g := fun j => .int .i64 (csum (pre ++ [x]) j)) (fun j _ => by show _ = Value.int .i64 (csum (pre ++ [x]) j); rw [hfin]; by_cases hj : j = q <;> by_cases hj2 : j = x.1.1 <;> simp only [hj, hj2, hqi, if_true, if_false, Ne.symm hqi])
      have HE := Lib.hid hR4
      clear hR1 hR3 hR4 hfin hsnoc
      rw [hq] at hc0 hc01 hc02
      have hqp : ((q : Nat) : Int) ≠ -1 := by omega
      generalize csum pre x.1.1 = v at *
      generalize csum pre q = u at *
      gi_wp2
      refine wpIn_region_tail_rd 8 rfl (by kernel_rfl) ?_
      simp only [List.take_succ_cons, List.take_zero, List.drop_succ_cons, List.drop_zero]
      repeat still_step
      try refine wpStill_nil ?_
      gi_wp2
      generalize (W.setCell ⟨w2.heap.size, x.1.1, none⟩ (.int .i64 (v + x.1.2.cust))).drew = W1 at *
      refine wpIn_region_tail_rd 11 rfl (by kernel_rfl) ?_
      simp only [List.take_succ_cons, List.take_zero, List.drop_succ_cons, List.drop_zero]
      repeat still_step
      try refine wpStill_nil ?_
      gi_wp2
      exact ⟨(hSD.1.trans hSD2.1).from _, hSD.2.trans hSD2.2, ⟨⟨hBx3, HE.out⟩, (hB1.trans hSD.2.1).trans hSD2.2.1, Nat.le_trans (Nat.le_trans hS1 hSD.1.size) hSD2.1.size⟩⟩
  case done =>
    rintro D xs W hD hS ⟨⟨hBx1, hRw1⟩, hB1, hS1⟩ hK
    have hcb := hBx1.cell
    gi_wp2
    refine ⟨by simp, .inl ⟨_, _, rfl, run_takeDeferred hK, ?_⟩⟩
    refine ⟨.tuple #[.slice (some ⟨w2.heap.size, 0, none⟩) n n, .bool true], ?_, w2.heap.size, by omega, rfl, ?_, hB1.trans (belowK_b (w := W0) (by omega) W D _ _ hD hK rfl rfl)⟩
    · simp [results, Try.results65, go_sem]
    have hrow := rowOwn w2.heap.size 2 n (fun (pre : List (IB Bs.length)) j => Value.int .i64 (csum pre j)) xs W (W.putObj D (.deferred none)) (some D) hRw1 (grownBy_putObj' W D _) (fun r e => by cases e; exact ⟨_, hK, rfl⟩)
    rw [hS] at hrow
    exact hrow
  case stop =>
    rintro D c' pre W hD _ h _
    exact h.elim
end Go.Proofs.Ytbcjgjdkapdihaa
