/-
  Joined from: Cust MaxI Depth TreeF GraF SumF GraC.
-/
import Derived.Test.YtbcjgjdkapdihaaFdr
import Derived.Test.YtbcjgjdkapdihaaTail
import Derived.Test.YtbcjgjdkapdihaaKids
import Derived.Test.YtbcjgjdkapdihaaPath
import Derived.StillTailTactics
import Derived.Test.YtbcjgjdkapdihaaSplit
import Derived.Test.YtbcjgjdkapdihaaPartP

section
set_option linter.unusedVariables false
set_option linter.unusedSimpArgs false
set_option maxRecDepth 8000
namespace Go.Proofs.Ytbcjgjdkapdihaa
open Go Go.RowKit Go.Shelf Go.Deep Go.Proofs.Ytbcjgjdkapdihaa.Fl

attribute [local go_sem] Oper.semAt_some

def upd (S : Nat → Int) (i : Nat) (v : Int) : Nat → Int := fun j => if j = i then v else S j
theorem upd_at (S : Nat → Int) (i : Nat) (v : Int) (j : Nat) : upd S i v j = if j = i then v else S j := rfl
/-- One round: a bus's customers are added to its sum, its sum to its parent's. -/
def cstep {n : Nat} (S : Nat → Int) (x : IB n) : Nat → Int :=
  let S1 := upd S x.1.1 (S x.1.1 + x.1.2.cust)
  if x.1.2.par = -1 then S1 else upd S1 x.1.2.par.toNat (S1 x.1.2.par.toNat + S1 x.1.1)
def csum {n : Nat} (pre : List (IB n)) : Nat → Int := pre.foldl cstep (fun _ => 0)
theorem csum_snoc {n : Nat} (pre : List (IB n)) (x : IB n) : csum (pre ++ [x]) = cstep (csum pre) x := by simp [csum]
theorem csum_bound {n : Nat} (pre : List (IB n)) : ∀ j, 0 ≤ csum pre j ∧ csum pre j ≤ 1000000 * 3 ^ pre.length := by
  have key : ∀ (l : List (IB n)) (S : Nat → Int) (M : Int), 1000000 ≤ M → (∀ j, 0 ≤ S j ∧ S j ≤ M) → ∀ j, 0 ≤ l.foldl cstep S j ∧ l.foldl cstep S j ≤ M * 3 ^ l.length := by
    intro l
    induction l with
    | nil => intro S M hM h j; simpa using h j
    | cons x r ih =>
      intro S M hM h j
      have hc := x.2.2.cust
      have h1 : ∀ j, 0 ≤ cstep S x j ∧ cstep S x j ≤ M * 3 := by
        intro j
        have ha := h x.1.1
        have hb := h x.1.2.par.toNat
        have hj := h j
        unfold cstep
        by_cases hp : x.1.2.par = -1
        · simp only [hp, if_true, upd_at]
          split <;> omega
        · have hne : x.1.2.par.toNat ≠ x.1.1 := by
            have hg := x.2.2
            by_cases hk : x.1.1 = 0
            · exact absurd (hg.root hk).1 hp
            · have := hg.par (by omega)
              omega
          simp only [hp, if_false, upd_at, hne]
          by_cases h5 : j = x.1.2.par.toNat
          · subst h5
            simp only [if_true, hne, if_false]
            omega
          · simp only [h5, if_false]
            split <;> omega
      have := ih (cstep S x) (M * 3) (by omega) h1 j
      rw [List.foldl_cons, List.length_cons, Int.pow_succ, Int.mul_comm (3 ^ r.length) 3, ← Int.mul_assoc]
      exact this
  have h0 := fun j => key pre (fun _ => 0) 1000000 (by omega) (fun j => ⟨Int.le_refl _, by omega⟩) j
  exact h0
theorem pow3 : ∀ k : Nat, k < 17 → (3 : Int) ^ k ≤ 43046721 := by decide
theorem csum_small {n : Nat} (pre : List (IB n)) (h : pre.length ≤ 16) (j : Nat) : 0 ≤ csum pre j ∧ csum pre j ≤ 43046721000000 := by
  have h1 := csum_bound pre j
  have h2 := pow3 pre.length (by omega)
  omega
theorem cstep_root {n : Nat} (S : Nat → Int) (x : IB n) (h : x.1.2.par = -1) (j : Nat) : cstep S x j = if j = x.1.1 then S x.1.1 + x.1.2.cust else S j := by
  unfold cstep; rw [if_pos h]; rfl
theorem cstep_at {n : Nat} (S : Nat → Int) (x : IB n) (q : Nat) (h : x.1.2.par = q) (hq : q ≠ x.1.1) (j : Nat) : cstep S x j = if j = q then S q + (S x.1.1 + x.1.2.cust) else if j = x.1.1 then S x.1.1 + x.1.2.cust else S j := by
  unfold cstep
  rw [if_neg (by omega), h, Int.toNat_natCast, upd_at]
  by_cases h1 : j = q
  · rw [if_pos h1, if_pos h1, upd_at, if_neg hq, upd_at, if_pos rfl]
  · rw [if_neg h1, if_neg h1, upd_at]
theorem box_ne {W : World} {B g : Nat} {t u : TypeId} {v : Value} {n : Nat} {f : Nat → Value} (h : Boxed W B t v) (h2 : W.rowIs g u n f) (ht : t ≠ u) : B ≠ g := by
  intro e
  subst e
  obtain ⟨c, hb, _⟩ := h2
  rw [show W.heap[B]? = _ from h] at hb
  simp at hb
  exact ht hb.2
theorem set_drew {W : World} {n₀ Bx gs i : Nat} {v : Value} (h : n₀ ≤ gs) (hx : Bx ≠ gs) : KeepsOthers W (W.setCell ⟨gs, i, none⟩ v).drew ∧ KB n₀ Bx W (W.setCell ⟨gs, i, none⟩ v).drew :=
  ⟨(KeepsOthers.setCell _ _ _).trans (KeepsOthers.drew _), ⟨((Below.refl _ W).setCell (p := ⟨gs, i, none⟩) h _).drew, Below.heap_setCell _ _ _ _ hx⟩⟩
theorem row_ne {W : World} {g g2 : Nat} {t u : TypeId} {L : List Value} {n : Nat} {f : Nat → Value} (h : RL W g2 t L) (h2 : W.rowIs g u n f) (ht : t ≠ u) : g2 ≠ g := by
  intro e
  subst e
  obtain ⟨c, hb, _⟩ := h2
  obtain ⟨c', hb', _⟩ := h
  rw [hb'] at hb
  simp at hb
  exact ht hb.2
theorem rowOwn {β : Type} (g t n : Nat) (f : β → Nat → Value) : Own (fun s W => W.rowIs g t n (f s)) := fun s X Y row hs hg hrow =>
  hs.of_block (hg.block g hs.lt (fun e => by
    obtain ⟨o, ho, hc⟩ := hrow g e.symm
    obtain ⟨c, hb, _⟩ := hs
    rw [hb] at ho
    cases ho
    cases hc))

set_option maxRecDepth 100000 in
set_option maxHeartbeats 4000000 in
theorem cust_any (w : World) (s : Nat → Nat) (g n c : Nat) (Bs : List BusV) (hF : Fdr w g n c Bs) (hG : ∀ i (h : i < Bs.length), Good i Bs[i]) (h0 : 0 < Bs.length) : Calls Try.prog 65 #[FV s g n c] w fun e w' => ∃ gs, w.heap.size ≤ gs ∧ e = .returned (.tuple #[.slice (some ⟨gs, 0, none⟩) n n, .bool true]) ∧ w'.rowIs gs 2 n (fun j => .int .i64 (csum (upto (gB Bs hG h0) Bs.length) j)) ∧ Below w.heap.size w w' := by
  have h1 := hF.one
  have h2 := hF.most
  have h3 := hF.cap
  have HF := Lib.hid hF
  clear hF
  have hst := fun (a : Addr) (x y : Nat) (m : Mode) (w : World) => run_store Try.prog w a (.complex .f32 x y) m rfl
  have hV := fun w' (h : Below w.heap.size w w') => valid_any w' s g n c Bs (HF.out.below h (Nat.le_refl _))
  unfold FV at *
  obtain ⟨i0, hi, hz0, hz1, hz2⟩ := info_parts (show (Try.prog.info? 2).map (fun i => (i.zero, i.size, i.bytes)) = some (some (.int .i64 0), 1, 8) by kernel_rfl)
  have hmk := fun w' => run_make (P := Try.prog) w' 62 2 i0 (.int .i64 0) Try.underlying62 hi hz0 .i64 .i64 n n (by omega) (by omega) (by rw [hz2]; omega) (by omega)
  refine (callsIn_wide (n := 6)).1 ?_
  refine callsIn_of_wp_marks Try.func65 rfl trivial ?_ rfl
  simp only [Try.ntmps65, List.size_toArray, List.length_cons, List.length_nil, Nat.reduceAdd, Nat.reduceSub, Array.replicate_succ, Array.replicate_zero, List.push_toArray, List.append_toArray, List.nil_append, List.cons_append]
  gi_wp2_with (first | (refine ⟨trivial, ?_⟩; gi_at_call 57; refine (callsIn_wide.2 (hV _ (bel_alloc _ _))).mono ?_; rintro e w2 ⟨rfl, hb⟩; have Hb := Lib.hid (bel_then (bel_alloc _ _) hb); have R2 : RL w2 w.heap.size 40 [.complex .f32 (s 0) (s 1), .complex .f32 (s 2) (s 3), .complex .f32 (s 4) (s 5), .slice (some ⟨g, 0, none⟩) n c] := RL.below (RL.new w [.complex .f32 (s 0) (s 1), .complex .f32 (s 2) (s 3), .complex .f32 (s 4) (s 5), .slice (some ⟨g, 0, none⟩) n c] 40) hb (by simp); have k3 : w2.cell? ⟨w.heap.size, 3, none⟩ = some (.slice (some ⟨g, 0, none⟩) n c) := R2.cell 3 (by simp); have k4 : ∀ o1 o2, ((w2.alloc o1).alloc o2).cell? ⟨w.heap.size, 3, none⟩ = some (.slice (some ⟨g, 0, none⟩) n c) := fun o1 o2 => ((R2.allocd o1).allocd o2).cell 3 (by simp); clear hb) | (refine ⟨trivial, ?_⟩; gi_at_call 143; refine (bwd_in Fence.wide _ trivial rfl _ _ _ _).mono ?_; rintro e w' ⟨rfl, rfl⟩))
  have hsz := Hb.out.size
  have hlen := HF.out.len
  have hlt2 := R2.lt
  have hgb := HF.out.rd.1
  obtain ⟨W0, hW0⟩ : ∃ W0, (((w2.alloc (.cells (madeCells #[Value.int .i64 0] n) 2)).alloc (.cells #[.slice (some ⟨w2.heap.size, 0, none⟩) n n] 62)).alloc (.cells #[.slice (some ⟨g, 0, none⟩) n c] 38)) = W0 := ⟨_, rfl⟩
  have hs0 : W0.heap.size = w2.heap.size + 3 := by rw [← hW0]; simp
  have hRow : W0.rowIs w2.heap.size 2 n (fun j => .int .i64 (csum (n := Bs.length) [] j)) := by
    rw [← hW0]
    exact ((World.rowIs_made w2 (.int .i64 0) n 2).alloc _).alloc _
  have hBox : Boxed W0 (w2.heap.size + 1) 62 (.slice (some ⟨w2.heap.size, 0, none⟩) n n) := by
    rw [← hW0]
    have h := Boxed.new (w2.alloc (.cells (madeCells #[Value.int .i64 0] n) 2)) 62 (.slice (some ⟨w2.heap.size, 0, none⟩) n n)
    rw [World.size_alloc] at h
    exact h.alloc _
  have hCl : W0.cell? ⟨w2.heap.size + 1 + 1, 0, none⟩ = some (.slice (some ⟨g, 0, none⟩) Bs.length c) := by
    rw [← hW0, hlen]
    have h := Boxed.new ((w2.alloc (.cells (madeCells #[Value.int .i64 0] n) 2)).alloc (.cells #[.slice (some ⟨w2.heap.size, 0, none⟩) n n] 62)) 38 (.slice (some ⟨g, 0, none⟩) n c)
    rw [World.size_alloc, World.size_alloc] at h
    exact h.cell
  have hB0 : Below w.heap.size w W0 := by
    rw [← hW0]
    exact ((Hb.out.alloc hsz _).alloc (by simp; omega) _).alloc (by simp; omega) _
  rw [hW0]
  refine wpIn_rangeFunc_ownH (F := Fence.wide) rfl (show 1 ≤ 6 by omega) (gf := 193) (lb := #[.pointer (some ⟨w2.heap.size + 1 + 1, 0, none⟩)]) rfl trivial (enters_of Try.func193 (by kernel_rfl) rfl)
    (bwd_stops Fence.wide (6 - 1) trivial rfl (by omega) (w2.heap.size + 1 + 1) w.heap.size g c Bs HF.out.good (by omega) (by omega) (by omega) W0 (by omega) (by omega) (by omega) hCl (HF.out.rd.below hB0 hgb))
    (fun h k => KB.trans h k)
    (fun W l o o' hl ho h1 h2 => ⟨belowK_b (w := W0) (n₀ := w.heap.size) (by omega) W l o o' hl ho h1 h2, (belowK_b (w := W0) (n₀ := W0.heap.size) (Nat.le_refl _) W l o o' hl ho h1 h2).block _ (by omega)⟩)
    (Below.refl _ _) (fun _ => rfl)
    (fun pre W => (Boxed W (w2.heap.size + 1) 62 (.slice (some ⟨w2.heap.size, 0, none⟩) n n) ∧ W.rowIs w2.heap.size 2 n (fun j => .int .i64 (csum pre j))) ∧ (Below w.heap.size w W ∧ W0.heap.size ≤ W.heap.size))
    (fun _ _ _ => False)
    (OwnFrom.and (OwnFrom.and (Own.from (boxed_own _ _ _) _) (Own.from (rowOwn _ _ _ _) _)) (OwnFrom.and (ownFrom_below (Nat.le_refl _) (by omega)) (fun s A B row hs hg hr => Nat.le_trans hs hg.size)))
    (fun _ _ _ _ _ hs _ _ => hs)
    ⟨⟨hBox, hRow⟩, hB0, Nat.le_refl _⟩
    (fun x a' W => ∃ Bq, w.heap.size ≤ Bq ∧ RL W Bq 89 x.1.2.vals ∧ a' = { tmps := #[.agg #[.complex .f32 (s 0) (s 1), .complex .f32 (s 2) (s 3), .complex .f32 (s 4) (s 5), .slice (some ⟨g, 0, none⟩) n c], .pointer (some ⟨w.heap.size, 0, none⟩), .slice none 0 0, .bool false, .pointer (some ⟨w2.heap.size + 1, 0, none⟩), .int .i64 (x.1.1 : Int), .pointer (some ⟨Bq, 0, none⟩), .agg #[.complex .f32 (s 0) (s 1), .complex .f32 (s 2) (s 3), .complex .f32 (s 4) (s 5), .slice (some ⟨g, 0, none⟩) n c], .bool true, .bool false, .pointer (some ⟨w.heap.size, 3, none⟩), .slice (some ⟨g, 0, none⟩) n c, .int .i64 n, .slice (some ⟨w2.heap.size, 0, none⟩) n n, .pointer (some ⟨w.heap.size, 3, none⟩), .slice (some ⟨g, 0, none⟩) n c, .func (.func 193) #[] #[.pointer (some ⟨w2.heap.size + 1 + 1, 0, none⟩)], .int .i64 (x.1.1 : Int), x.1.2.agg, undef, undef, undef, undef, undef, undef, undef, undef, undef, undef, undef, undef, undef, undef, undef, undef, undef, undef, undef, undef, undef, undef, undef], defers := [] })
    (fun x a' _ X Y row hs hg hr => by
      obtain ⟨Bq, h1, h2, h3⟩ := hs
      exact ⟨Bq, h1, rowOwn Bq _ _ (fun (_ : Unit) j => x.1.2.vals.getD j (.bool false)) () X Y row h2 hg (fun r e => (hr r e).2), h3⟩)
    ?assign ?body ?done ?stop
  case assign =>
    rintro l pre x W K ⟨⟨hBx1, hRw1⟩, hB1, hS1⟩ hK
    simp only [encB]
    gi_wp2
    exact hK _ _ ((KeepsOthers.alloc _ _).from _) ⟨(Below.refl _ W).alloc hB1.size _, Below.heap_alloc _ _ _ (by omega)⟩ ⟨⟨hBx1.alloc _, hRw1.alloc _⟩, hB1.alloc hB1.size _, by simp; omega⟩ ⟨W.heap.size, hB1.size, RL.new W x.1.2.vals _, rfl⟩
  case body =>
    rintro l pre x a' W hl ⟨r, hr⟩ ⟨⟨hBx1, hRw1⟩, hB1, hS1⟩ ⟨Bq, hBq, hRq, rfl⟩ hlt
    have hG := x.2.2
    have hin : x.1.1 < n := by rw [← hlen]; exact x.2.1
    have hsm := csum_small pre (by omega)
    have hsnoc := csum_snoc pre x
    have hne1 := box_ne hBx1 hRw1 (by decide)
    have hne2 := row_ne hRq hRw1 (by decide)
    have hcb := hBx1.cell
    have hc7 : W.cell? ⟨Bq, 7, none⟩ = some (.int .i64 x.1.2.cust) := hRq.cell 7 (by show 7 < 8; omega)
    have hc0 : W.cell? ⟨Bq, 0, none⟩ = some (.int .i64 x.1.2.par) := hRq.cell 0 (by show 0 < 8; omega)
    have hci : W.cell? ⟨w2.heap.size, x.1.1, none⟩ = some (.int .i64 (csum pre x.1.1)) := hRw1.cell hin
    have hfi := hRw1.frozen x.1.1
    have hs1 := hsm x.1.1
    have hcu := hG.cust
    have hR1 := (hRw1.set x.1.1 (.int .i64 (csum pre x.1.1 + x.1.2.cust))).drew
    have hSD := set_drew (W := W) (n₀ := w.heap.size) (Bx := w2.heap.size + 1 + 1) (gs := w2.heap.size) (i := x.1.1) (v := .int .i64 (csum pre x.1.1 + x.1.2.cust)) (by omega) (by omega)
    have hBx2 : Boxed (W.setCell ⟨w2.heap.size, x.1.1, none⟩ (.int .i64 (csum pre x.1.1 + x.1.2.cust))).drew (w2.heap.size + 1) 62 (.slice (some ⟨w2.heap.size, 0, none⟩) n n) := (Below.heap_setCell W ⟨w2.heap.size, x.1.1, none⟩ _ (w2.heap.size + 1) (by show w2.heap.size + 1 ≠ w2.heap.size; omega)).trans hBx1
    have hcb1 : (W.setCell ⟨w2.heap.size, x.1.1, none⟩ (.int .i64 (csum pre x.1.1 + x.1.2.cust))).cell? ⟨w2.heap.size + 1, 0, none⟩ = some (.slice (some ⟨w2.heap.size, 0, none⟩) n n) := (World.cell?_of_block (w := W) (Below.heap_setCell _ _ _ _ (by show w2.heap.size + 1 ≠ w2.heap.size; omega))).trans hcb
    have hc01 : (W.setCell ⟨w2.heap.size, x.1.1, none⟩ (.int .i64 (csum pre x.1.1 + x.1.2.cust))).cell? ⟨Bq, 0, none⟩ = some (.int .i64 x.1.2.par) := (World.cell?_of_block (w := W) (Below.heap_setCell _ _ _ _ (by show Bq ≠ w2.heap.size; omega))).trans hc0
    by_cases hp : x.1.2.par = -1
    · have hfin : ∀ j, csum (pre ++ [x]) j = if j = x.1.1 then csum pre x.1.1 + x.1.2.cust else csum pre j := fun j => by rw [hsnoc]; exact cstep_root _ _ hp j
      have hR2 := hR1.congr (g := fun j => .int .i64 (csum (pre ++ [x]) j)) (fun j _ => by show _ = Value.int .i64 (csum (pre ++ [x]) j); rw [hfin]; by_cases hj : j = x.1.1 <;> simp [hj])
      have HE := Lib.hid hR2
      clear hR1 hR2 hfin hsnoc
      rw [hp] at hc0 hc01
      generalize csum pre x.1.1 = v at *
      gi_wp2
      refine wpIn_region_tail_rd 8 rfl (by kernel_rfl) ?_
      simp only [List.take_succ_cons, List.take_zero, List.drop_succ_cons, List.drop_zero]
      repeat still_step
      try refine wpStill_nil ?_
      gi_wp2
      exact ⟨hSD.1.from _, hSD.2, ⟨⟨hBx2, HE.out⟩, hB1.trans hSD.2.1, Nat.le_trans hS1 hSD.1.size⟩⟩
    · have hx0 : x.1.1 ≠ 0 := fun e => hp (hG.root e).1
      have hpar := hG.par (by omega)
      obtain ⟨q, hq⟩ : ∃ q : Nat, x.1.2.par = q := ⟨x.1.2.par.toNat, by omega⟩
      have hqi : q ≠ x.1.1 := by omega
      have hqn : q < n := by omega
      have hq0 : x.1.2.par ≠ -1 := hp
      have hfin : ∀ j, csum (pre ++ [x]) j = if j = q then csum pre q + (csum pre x.1.1 + x.1.2.cust) else if j = x.1.1 then csum pre x.1.1 + x.1.2.cust else csum pre j := fun j => by rw [hsnoc]; exact cstep_at _ _ q hq hqi j
      have hs2 := hsm q
      have hcq1 := hR1.cell hqn
      rw [if_neg hqi] at hcq1
      have hci1 := hR1.cell hin
      rw [if_pos rfl] at hci1
      have hfq1 := hR1.frozen q
      have hcb2 := hBx2.cell
      have hc02 : (W.setCell ⟨w2.heap.size, x.1.1, none⟩ (.int .i64 (csum pre x.1.1 + x.1.2.cust))).drew.cell? ⟨Bq, 0, none⟩ = some (.int .i64 x.1.2.par) := hc01
      have hR3 := (hR1.set q (.int .i64 (csum pre q + (csum pre x.1.1 + x.1.2.cust)))).drew
      have hSD2 := set_drew (W := (W.setCell ⟨w2.heap.size, x.1.1, none⟩ (.int .i64 (csum pre x.1.1 + x.1.2.cust))).drew) (n₀ := w.heap.size) (Bx := w2.heap.size + 1 + 1) (gs := w2.heap.size) (i := q) (v := .int .i64 (csum pre q + (csum pre x.1.1 + x.1.2.cust))) (by omega) (by omega)
      have hBx3 : Boxed ((W.setCell ⟨w2.heap.size, x.1.1, none⟩ (.int .i64 (csum pre x.1.1 + x.1.2.cust))).drew.setCell ⟨w2.heap.size, q, none⟩ (.int .i64 (csum pre q + (csum pre x.1.1 + x.1.2.cust)))).drew (w2.heap.size + 1) 62 (.slice (some ⟨w2.heap.size, 0, none⟩) n n) := (Below.heap_setCell _ ⟨w2.heap.size, q, none⟩ _ (w2.heap.size + 1) (by show w2.heap.size + 1 ≠ w2.heap.size; omega)).trans hBx2
      have hR4 := hR3.congr (g := fun j => .int .i64 (csum (pre ++ [x]) j)) (fun j _ => by show _ = Value.int .i64 (csum (pre ++ [x]) j); rw [hfin]; by_cases hj : j = q <;> by_cases hj2 : j = x.1.1 <;> simp only [hj, hj2, hqi, if_true, if_false, Ne.symm hqi])
      have HE := Lib.hid hR4
      clear hR1 hR3 hR4 hfin hsnoc
      rw [hq] at hc0 hc01 hc02
      have hqp : ((q : Nat) : Int) ≠ -1 := by omega
      generalize csum pre x.1.1 = v at *
      generalize csum pre q = u at *
      gi_wp2
      refine wpIn_region_tail_rd 8 rfl (by kernel_rfl) ?_
      simp only [List.take_succ_cons, List.take_zero, List.drop_succ_cons, List.drop_zero]
      repeat still_step
      try refine wpStill_nil ?_
      gi_wp2
      generalize (W.setCell ⟨w2.heap.size, x.1.1, none⟩ (.int .i64 (v + x.1.2.cust))).drew = W1 at *
      refine wpIn_region_tail_rd 11 rfl (by kernel_rfl) ?_
      simp only [List.take_succ_cons, List.take_zero, List.drop_succ_cons, List.drop_zero]
      repeat still_step
      try refine wpStill_nil ?_
      gi_wp2
      exact ⟨(hSD.1.trans hSD2.1).from _, hSD.2.trans hSD2.2, ⟨⟨hBx3, HE.out⟩, (hB1.trans hSD.2.1).trans hSD2.2.1, Nat.le_trans (Nat.le_trans hS1 hSD.1.size) hSD2.1.size⟩⟩
  case done =>
    rintro D xs W hD hS ⟨⟨hBx1, hRw1⟩, hB1, hS1⟩ hK
    have hcb := hBx1.cell
    gi_wp2
    refine ⟨by simp, .inl ⟨_, _, rfl, run_takeDeferred hK, ?_⟩⟩
    refine ⟨.tuple #[.slice (some ⟨w2.heap.size, 0, none⟩) n n, .bool true], ?_, w2.heap.size, by omega, rfl, ?_, hB1.trans (belowK_b (w := W0) (by omega) W D _ _ hD hK rfl rfl)⟩
    · simp [results, Try.results65, go_sem]
    have hrow := rowOwn w2.heap.size 2 n (fun (pre : List (IB Bs.length)) j => Value.int .i64 (csum pre j)) xs W (W.putObj D (.deferred none)) (some D) hRw1 (grownBy_putObj' W D _) (fun r e => by cases e; exact ⟨_, hK, rfl⟩)
    rw [hS] at hrow
    exact hrow
  case stop =>
    rintro D c' pre W hD _ h _
    exact h.elim
end Go.Proofs.Ytbcjgjdkapdihaa
end

section
set_option linter.unusedVariables false
set_option linter.unusedSimpArgs false
set_option maxRecDepth 8000
namespace Go.Proofs.Ytbcjgjdkapdihaa
open Go Go.RowKit Go.Shelf Go.Deep Go.Proofs.Ytbcjgjdkapdihaa.Fl

end Go.Proofs.Ytbcjgjdkapdihaa
end

section
set_option linter.unusedVariables false
set_option linter.unusedSimpArgs false
set_option maxRecDepth 8000
namespace Go.Proofs.Ytbcjgjdkapdihaa
open Go Go.RowKit Go.Shelf Go.Deep Go.Proofs.Ytbcjgjdkapdihaa.Fl

theorem ups_stable {Bs : List BusV} (hG : ∀ i, i < Bs.length → -1 ≤ parAt Bs i ∧ parAt Bs i < i) : ∀ (f : Nat) (a : Int), -1 ≤ a → a < Bs.length → a + 1 ≤ f → ups Bs (f + 1) a = ups Bs f a
  | 0, a, h1, h2, h3 => by
    have : a = -1 := by omega
    rw [this, ups_end, ups_end]
  | f + 1, a, h1, h2, h3 => by
    by_cases h : a = -1
    · rw [h, ups_end, ups_end]
    · have hp := hG a.toNat (by omega)
      have ih := ups_stable hG f (parAt Bs a.toNat) hp.1 (by omega) (by omega)
      have e1 : ups Bs (f + 1 + 1) a = a :: ups Bs (f + 1) (parAt Bs a.toNat) := by conv => lhs; unfold ups; rw [if_neg h]
      have e2 : ups Bs (f + 1) a = a :: ups Bs f (parAt Bs a.toNat) := by conv => lhs; unfold ups; rw [if_neg h]
      rw [e1, e2, ih]
theorem good_par {Bs : List BusV} (hG : ∀ i (h : i < Bs.length), Good i Bs[i]) (i : Nat) (h : i < Bs.length) : -1 ≤ parAt Bs i ∧ parAt Bs i < i := by
  rw [parAt_get h]
  by_cases h0 : i = 0
  · have := ((hG i h).root h0).1; omega
  · have := (hG i h).par (by omega); omega
def dep (Bs : List BusV) (i : Nat) : Int := (ups Bs 17 i).length
theorem dep_root {Bs : List BusV} {i : Nat} (h : parAt Bs i = -1) : dep Bs i = 1 := by
  unfold dep ups
  rw [if_neg (by omega), Int.toNat_natCast, h, ups_end]
  rfl
theorem dep_at {Bs : List BusV} (hG : ∀ i (h : i < Bs.length), Good i Bs[i]) {i q : Nat} (hi : i < Bs.length) (h16 : Bs.length ≤ 16) (h : parAt Bs i = q) : dep Bs i = 1 + dep Bs q := by
  have hp := good_par hG i hi
  have hs := ups_stable (good_par hG) 16 q (by omega) (by omega) (by omega)
  have e : ups Bs 17 i = (i : Int) :: ups Bs 16 q := by
    conv => lhs; unfold ups
    rw [if_neg (by omega), Int.toNat_natCast, h]
  have e2 : ups Bs 17 q = ups Bs 16 q := hs
  unfold dep
  rw [e, e2, List.length_cons]
  generalize (ups Bs 16 q).length = m
  omega
theorem dep_le (Bs : List BusV) (i : Nat) : 0 ≤ dep Bs i ∧ dep Bs i ≤ 17 := by
  have := ups_len Bs 17 i
  unfold dep
  omega

end Go.Proofs.Ytbcjgjdkapdihaa
end

section
set_option linter.unusedVariables false
set_option linter.unusedSimpArgs false
namespace Go.Proofs.Ytbcjgjdkapdihaa
open Go

theorem ups_cons {Bs : List BusV} {f : Nat} {a : Int} (h : a ≠ -1) : ups Bs (f + 1) a = a :: ups Bs f (parAt Bs a.toNat) := by
  conv => lhs; unfold ups
  rw [if_neg h]
theorem ups_head (Bs : List BusV) : ∀ (f : Nat) (a : Int), 0 < (ups Bs f a).length → (ups Bs f a).getD 0 0 = a
  | 0, a, h => by simp [ups] at h
  | f + 1, a, h => by
    by_cases e : a = -1
    · rw [e, ups_end] at h; simp at h
    · rw [ups_cons e]; rfl
theorem ups_step (Bs : List BusV) : ∀ (f : Nat) (a : Int) (j : Nat), j + 1 < (ups Bs f a).length → parAt Bs ((ups Bs f a).getD j 0).toNat = (ups Bs f a).getD (j + 1) 0
  | 0, a, j, h => by simp [ups] at h
  | f + 1, a, j, h => by
    by_cases e : a = -1
    · rw [e, ups_end] at h; simp at h
    · rw [ups_cons e] at h ⊢
      rw [List.length_cons] at h
      cases j with
      | zero =>
        have := ups_head Bs f (parAt Bs a.toNat) (by omega)
        show parAt Bs a.toNat = (ups Bs f (parAt Bs a.toNat)).getD 0 0
        exact this.symm
      | succ j =>
        have := ups_step Bs f (parAt Bs a.toNat) j (by omega)
        exact this
theorem ups_mem {Bs : List BusV} (hG : ∀ i, i < Bs.length → -1 ≤ parAt Bs i ∧ parAt Bs i < i) : ∀ (f : Nat) (a : Int), -1 ≤ a → a < Bs.length → ∀ x ∈ ups Bs f a, 0 ≤ x ∧ x < Bs.length
  | 0, a, _, _, x, h => by simp [ups] at h
  | f + 1, a, h1, h2, x, h => by
    by_cases e : a = -1
    · rw [e, ups_end] at h; cases h
    · rw [ups_cons e] at h
      have hp := hG a.toNat (by omega)
      rcases List.mem_cons.1 h with h | h
      · omega
      · exact ups_mem hG f _ hp.1 (by omega) x h
theorem ups_last {Bs : List BusV} (hG : ∀ i, i < Bs.length → -1 ≤ parAt Bs i ∧ parAt Bs i < i) (hR : ∀ i, i < Bs.length → parAt Bs i = -1 → i = 0) : ∀ (f : Nat) (a : Int), 0 ≤ a → a < Bs.length → a + 1 ≤ f → (ups Bs f a).getD ((ups Bs f a).length - 1) 0 = 0
  | 0, a, h0, _, h => by omega
  | f + 1, a, h0, h1, h => by
    have hp := hG a.toNat (by omega)
    rw [ups_cons (by omega)]
    by_cases e : parAt Bs a.toNat = -1
    · rw [e, ups_end]
      have := hR a.toNat (by omega) e
      show a = 0
      omega
    · have ih := ups_last hG hR f (parAt Bs a.toNat) (by omega) (by omega) (by omega)
      have hl : 0 < (ups Bs f (parAt Bs a.toNat)).length := by
        cases f with
        | zero => omega
        | succ f => rw [ups_cons e]; simp
      generalize ups Bs f (parAt Bs a.toNat) = L at *
      rw [List.length_cons, show L.length + 1 - 1 = (L.length - 1) + 1 by omega]
      exact ih
theorem good_root {Bs : List BusV} (hG : ∀ i (h : i < Bs.length), Good i Bs[i]) (i : Nat) (h : i < Bs.length) (e : parAt Bs i = -1) : i = 0 := by
  rw [parAt_get h] at e
  by_cases h0 : i = 0
  · exact h0
  · have := (hG i h).par (by omega); omega
theorem bel_iff {Bs : List BusV} (hG : ∀ i (h : i < Bs.length), Good i Bs[i]) (h16 : Bs.length ≤ 16) (b : Nat) : ∀ k, k ≤ Bs.length → ∀ i, i < k → ((i : Int) ∈ belL Bs b k ↔ (b : Int) ∈ ups Bs 17 i)
  | 0, _, i, h => by omega
  | k + 1, hk, i, hi => by
    have ih := bel_iff hG h16 b k (by omega)
    have hm := belL_mem Bs b k
    unfold belL
    by_cases e : i = k
    · subst e
      have hp := good_par hG i (by omega)
      have hni : ¬ (i : Int) ∈ belL Bs b i := fun h => by have := hm _ h; omega
      have h1 : (b : Int) ∈ ups Bs 17 i ↔ (b = i ∨ (b : Int) ∈ ups Bs 16 (parAt Bs i)) := by
        rw [show (17 : Nat) = 16 + 1 from rfl, ups_cons (by omega), Int.toNat_natCast, List.mem_cons]
        constructor
        · rintro (h | h)
          · exact .inl (by omega)
          · exact .inr h
        · rintro (h | h)
          · exact .inl (by omega)
          · exact .inr h
      have h2 : (b : Int) ∈ ups Bs 16 (parAt Bs i) ↔ parAt Bs i ∈ belL Bs b i := by
        by_cases e2 : parAt Bs i = -1
        · rw [e2, ups_end]
          constructor
          · intro h; cases h
          · intro h; have := hm _ h; omega
        · obtain ⟨q, hq⟩ : ∃ q : Nat, parAt Bs i = q := ⟨(parAt Bs i).toNat, by omega⟩
          rw [hq, ih q (by omega), ups_stable (good_par hG) 16 q (by omega) (by omega) (by omega)]
      rw [h1, h2]
      by_cases hc : parAt Bs i ∈ belL Bs b i ∨ i = b
      · rw [if_pos hc]
        constructor
        · intro _; rcases hc with h | h
          · exact .inr h
          · exact .inl h.symm
        · intro _; simp
      · rw [if_neg hc]
        constructor
        · intro h; exact absurd h hni
        · rintro (h | h)
          · exact absurd (.inr h.symm) hc
          · exact absurd (.inl h) hc
    · have ih2 := ih i (by omega)
      by_cases hc : parAt Bs k ∈ belL Bs b k ∨ k = b
      · rw [if_pos hc, List.mem_append, ih2]
        constructor
        · rintro (h | h)
          · exact h
          · simp at h; omega
        · exact .inl
      · rw [if_neg hc]; exact ih2

/-- The sum of S over those of the t buses from lo on whose parent is b. -/
def ks (Bs : List BusV) (S : Nat → Int) (b : Int) : Nat → Nat → Int
  | _, 0 => 0
  | lo, t + 1 => (if parAt Bs lo = b then S lo else 0) + ks Bs S b (lo + 1) t
theorem ks_congr {Bs : List BusV} {S S' : Nat → Int} {b : Int} : ∀ (t lo : Nat), (∀ k, lo ≤ k → S' k = S k) → ks Bs S' b lo t = ks Bs S b lo t
  | 0, _, _ => rfl
  | t + 1, lo, h => by
    unfold ks
    rw [h lo (Nat.le_refl _), ks_congr t (lo + 1) (fun k hk => h k (by omega))]
theorem ks_snoc (Bs : List BusV) (S : Nat → Int) (b : Int) : ∀ (t lo : Nat), ks Bs S b lo (t + 1) = ks Bs S b lo t + (if parAt Bs (lo + t) = b then S (lo + t) else 0)
  | 0, lo => by simp [ks]
  | t + 1, lo => by
    have ih := ks_snoc Bs S b t (lo + 1)
    have e1 : ks Bs S b lo (t + 1 + 1) = (if parAt Bs lo = b then S lo else 0) + ks Bs S b (lo + 1) (t + 1) := rfl
    have e2 : ks Bs S b lo (t + 1) = (if parAt Bs lo = b then S lo else 0) + ks Bs S b (lo + 1) t := rfl
    rw [e1, e2, ih, show lo + 1 + t = lo + (t + 1) by omega]
    omega
/-- The sum of S over a list of buses. -/
def lsum (S : Nat → Int) (l : List Int) : Int := l.foldl (fun s k => s + S k.toNat) 0
theorem lsum_snoc (S : Nat → Int) (l : List Int) (k : Int) : lsum S (l ++ [k]) = lsum S l + S k.toNat := by simp [lsum]
theorem kids_sum (Bs : List BusV) (S : Nat → Int) (b : Int) : ∀ n, lsum S (kids Bs b n) = ks Bs S b 0 n
  | 0 => rfl
  | n + 1 => by
    have ih := kids_sum Bs S b n
    rw [ks_snoc, Nat.zero_add]
    by_cases h : parAt Bs n = b
    · rw [kids_yes h, lsum_snoc, ih, if_pos h, Int.toNat_natCast]
    · rw [kids_no h, ih, if_neg h, Int.add_zero]
def custAt (Bs : List BusV) (i : Nat) : Int := ((Bs[i]?).map BusV.cust).getD 0
theorem custAt_get {Bs : List BusV} {i : Nat} (h : i < Bs.length) : custAt Bs i = Bs[i].cust := by simp [custAt, h]
theorem csum_inv {Bs : List BusV} (hG : ∀ i (h : i < Bs.length), Good i Bs[i]) (h0 : 0 < Bs.length) : ∀ t, t ≤ Bs.length → ∀ j : Nat, csum (upto (gB Bs hG h0) t) j = (if Bs.length - t ≤ j ∧ j < Bs.length then custAt Bs j else 0) + ks Bs (csum (upto (gB Bs hG h0) t)) j (Bs.length - t) t
  | 0, _, j => by
    rw [if_neg (by omega)]
    rfl
  | t + 1, ht, j => by
    have ih := csum_inv hG h0 t (by omega)
    rw [upto_succ, csum_snoc]
    have hx := gB_at (hG := hG) (h1 := h0) (j := t) (by omega)
    generalize gB Bs hG h0 t = x at *
    generalize csum (upto (gB Bs hG h0) t) = S at *
    obtain ⟨⟨i, B⟩, hi, hgd⟩ := x
    simp at hx
    obtain ⟨hxi, hxB⟩ := hx
    have hi2 : i < Bs.length := hi
    have hil : Bs.length - t = i + 1 := by omega
    have hil2 : Bs.length - (t + 1) = i := by omega
    have hBi : Bs[i] = B := by subst hxi; exact hxB.symm
    have hpi : parAt Bs i = B.par := by rw [parAt_get hi2, hBi]
    have hci : custAt Bs i = B.cust := by rw [custAt_get hi2, hBi]
    rw [hil] at ih
    rw [hil2]
    have hp := good_par hG i hi2
    rw [hpi] at hp
    have hj := ih j
    by_cases e : B.par = -1
    · have hS : ∀ m, cstep S ⟨(i, B), hi, hgd⟩ m = if m = i then S i + B.cust else S m := fun m => cstep_root S ⟨(i, B), hi, hgd⟩ e m
      generalize cstep S ⟨(i, B), hi, hgd⟩ = S' at *
      show S' j = (if i ≤ j ∧ j < Bs.length then custAt Bs j else 0) + ((if parAt Bs i = (j : Int) then S' i else 0) + ks Bs S' j (i + 1) t)
      have hk : ks Bs S' j (i + 1) t = ks Bs S j (i + 1) t := ks_congr t (i + 1) (fun k hk => by rw [hS k, if_neg (by omega)])
      have hSj := hS j
      rw [hk, if_neg (show ¬ parAt Bs i = (j : Int) by omega)]
      by_cases hji : j = i
      · rw [if_pos hji] at hSj
        rw [if_neg (show ¬ (i + 1 ≤ j ∧ j < Bs.length) by omega)] at hj
        rw [if_pos (show i ≤ j ∧ j < Bs.length by omega)]
        have hcj : custAt Bs j = B.cust := by rw [hji]; exact hci
        have hSS : S j = S i := by rw [hji]
        omega
      · rw [if_neg hji] at hSj
        by_cases hjn : i + 1 ≤ j ∧ j < Bs.length
        · rw [if_pos hjn] at hj; rw [if_pos (show i ≤ j ∧ j < Bs.length by omega)]; omega
        · rw [if_neg hjn] at hj; rw [if_neg (show ¬ (i ≤ j ∧ j < Bs.length) by omega)]; omega
    · obtain ⟨q, hq⟩ : ∃ q : Nat, B.par = q := ⟨B.par.toNat, by omega⟩
      have hqi : q < i := by omega
      have hS : ∀ m, cstep S ⟨(i, B), hi, hgd⟩ m = if m = q then S q + (S i + B.cust) else if m = i then S i + B.cust else S m := fun m => cstep_at S ⟨(i, B), hi, hgd⟩ q hq (by simp; omega) m
      generalize cstep S ⟨(i, B), hi, hgd⟩ = S' at *
      show S' j = (if i ≤ j ∧ j < Bs.length then custAt Bs j else 0) + ((if parAt Bs i = (j : Int) then S' i else 0) + ks Bs S' j (i + 1) t)
      have hk : ks Bs S' j (i + 1) t = ks Bs S j (i + 1) t := ks_congr t (i + 1) (fun k hk => by rw [hS k, if_neg (by omega), if_neg (by omega)])
      have hSj := hS j
      have hSi := hS i
      rw [if_neg (show ¬ i = q by omega), if_pos rfl] at hSi
      rw [hk]
      by_cases hjq : j = q
      · rw [if_pos hjq] at hSj
        rw [if_neg (show ¬ (i + 1 ≤ j ∧ j < Bs.length) by omega)] at hj
        rw [if_neg (show ¬ (i ≤ j ∧ j < Bs.length) by omega), if_pos (show parAt Bs i = (j : Int) by omega)]
        have hSS : S j = S q := by rw [hjq]
        omega
      · rw [if_neg hjq] at hSj
        rw [if_neg (show ¬ parAt Bs i = (j : Int) by omega)]
        by_cases hji : j = i
        · rw [if_pos hji] at hSj
          rw [if_neg (show ¬ (i + 1 ≤ j ∧ j < Bs.length) by omega)] at hj
          rw [if_pos (show i ≤ j ∧ j < Bs.length by omega)]
          have hcj : custAt Bs j = B.cust := by rw [hji]; exact hci
          have hSS : S j = S i := by rw [hji]
          omega
        · rw [if_neg hji] at hSj
          by_cases hjn : i + 1 ≤ j ∧ j < Bs.length
          · rw [if_pos hjn] at hj; rw [if_pos (show i ≤ j ∧ j < Bs.length by omega)]; omega
          · rw [if_neg hjn] at hj; rw [if_neg (show ¬ (i ≤ j ∧ j < Bs.length) by omega)]; omega
/-- The customers below a bus are its own and those below its children. -/
theorem csum_kids {Bs : List BusV} (hG : ∀ i (h : i < Bs.length), Good i Bs[i]) (h0 : 0 < Bs.length) (j : Nat) (hj : j < Bs.length) : csum (upto (gB Bs hG h0) Bs.length) j = custAt Bs j + lsum (csum (upto (gB Bs hG h0) Bs.length)) (kids Bs j Bs.length) := by
  have h := csum_inv hG h0 Bs.length (Nat.le_refl _) j
  rw [Nat.sub_self, if_pos (by omega)] at h
  rw [kids_sum]
  exact h
end Go.Proofs.Ytbcjgjdkapdihaa
end

section
set_option linter.unusedVariables false
set_option linter.unusedSimpArgs false
namespace Go.Proofs.Ytbcjgjdkapdihaa
open Go

theorem belL_succ (Bs : List BusV) (b k : Nat) : belL Bs b (k + 1) = if parAt Bs k ∈ belL Bs b k ∨ k = b then belL Bs b k ++ [(k : Int)] else belL Bs b k := rfl
theorem othL_succ (Bs : List BusV) (b k : Nat) : othL Bs b (k + 1) = if parAt Bs k ∈ belL Bs b k ∨ k = b then othL Bs b k else othL Bs b k ++ [(k : Int)] := rfl
theorem pos32 : (0 : Nat) < 2 ^ 32 := by decide
theorem bel_step (Bs : List BusV) (b : Nat) : ∀ k i, i < k → ((i : Int) ∈ belL Bs b k ↔ (parAt Bs i ∈ belL Bs b i ∨ i = b))
  | 0, i, h => by omega
  | k + 1, i, h => by
    have ih := bel_step Bs b k i
    have hm := belL_mem Bs b k
    rw [belL_succ]
    by_cases e : i = k
    · subst e
      have hni : ¬ (i : Int) ∈ belL Bs b i := fun h => by have := hm _ h; omega
      by_cases hc : parAt Bs i ∈ belL Bs b i ∨ i = b
      · rw [if_pos hc]
        exact ⟨fun _ => hc, fun _ => by simp⟩
      · rw [if_neg hc]
        exact ⟨fun h => absurd h hni, fun h => absurd h hc⟩
    · rw [← ih (by omega)]
      by_cases hc : parAt Bs k ∈ belL Bs b k ∨ k = b
      · rw [if_pos hc, List.mem_append]
        exact ⟨fun h => by rcases h with h | h; exact h; simp at h; omega, .inl⟩
      · rw [if_neg hc]
theorem oth_step (Bs : List BusV) (b : Nat) : ∀ k i, i < k → ((i : Int) ∈ othL Bs b k ↔ ¬ (i : Int) ∈ belL Bs b k)
  | 0, i, h => by omega
  | k + 1, i, h => by
    have ih := oth_step Bs b k i
    have hm := belL_mem Bs b k
    have hm2 := othL_mem Bs b k
    rw [belL_succ, othL_succ]
    by_cases e : i = k
    · subst e
      have hni : ¬ (i : Int) ∈ belL Bs b i := fun h => by have := hm _ h; omega
      have hno : ¬ (i : Int) ∈ othL Bs b i := fun h => by have := hm2 _ h; omega
      by_cases hc : parAt Bs i ∈ belL Bs b i ∨ i = b
      · rw [if_pos hc, if_pos hc]
        exact ⟨fun h => absurd h hno, fun h => absurd (by simp) h⟩
      · rw [if_neg hc, if_neg hc]
        exact ⟨fun _ => hni, fun _ => by simp⟩
    · have ih := ih (by omega)
      by_cases hc : parAt Bs k ∈ belL Bs b k ∨ k = b
      · rw [if_pos hc, if_pos hc, ih, List.mem_append]
        exact ⟨fun h h2 => by rcases h2 with h2 | h2; exact h h2; simp at h2; omega, fun h h2 => h (.inl h2)⟩
      · rw [if_neg hc, if_neg hc, List.mem_append, ih]
        exact ⟨fun h => by rcases h with h | h; exact h; simp at h; omega, .inl⟩
theorem bel_keep (Bs : List BusV) (b i k : Nat) (x : Int) (h0 : 0 ≤ x) (hx : x < i) (hk : i ≤ k) : x ∈ belL Bs b k ↔ x ∈ belL Bs b i := by
  obtain ⟨y, rfl⟩ : ∃ y : Nat, x = y := ⟨x.toNat, by omega⟩
  rw [bel_step Bs b k y (by omega), bel_step Bs b i y (by omega)]
theorem split_len (Bs : List BusV) (b : Nat) : ∀ k, (belL Bs b k).length + (othL Bs b k).length = k
  | 0 => rfl
  | k + 1 => by
    have ih := split_len Bs b k
    rw [belL_succ, othL_succ]
    split <;> simp <;> omega
theorem bel_ge (Bs : List BusV) (hG : ∀ i, i < Bs.length → -1 ≤ parAt Bs i ∧ parAt Bs i < i) (b : Nat) (k : Nat) (hk : k ≤ Bs.length) (x : Int) (hx : x ∈ belL Bs b k) : (b : Int) ≤ x := by
  have key : ∀ m y : Nat, y ≤ m → y < k → (y : Int) ∈ belL Bs b k → b ≤ y := by
    intro m
    induction m with
    | zero =>
      intro y hy hyk h
      rcases (bel_step Bs b k y hyk).1 h with h | h
      · have := belL_mem Bs b y _ h; omega
      · omega
    | succ m ih =>
      intro y hy hyk h
      rcases (bel_step Bs b k y hyk).1 h with h | h
      · have h1 := belL_mem Bs b y _ h
        have h2 := hG y (by omega)
        have h3 := ih (parAt Bs y).toNat (by omega) (by omega) (by rw [show (((parAt Bs y).toNat : Nat) : Int) = parAt Bs y by omega]; exact (bel_keep Bs b y k _ h1.1 h1.2 (by omega)).2 h)
        omega
      · omega
  have h1 := belL_mem Bs b k x hx
  have := key x.toNat x.toNat (Nat.le_refl _) (by omega) (by rw [show ((x.toNat : Nat) : Int) = x by omega]; exact hx)
  omega
theorem asc_le {L : List Int} (hs : ∀ i j, i < j → j < L.length → L.getD i 0 < L.getD j 0) {i j : Nat} (hj : j < L.length) (h : i ≤ j) : L.getD i 0 ≤ L.getD j 0 := by
  by_cases e : i = j
  · rw [e]; omega
  · have := hs i j (by omega) hj; omega
theorem getD_memI {L : List Int} {i : Nat} (h : i < L.length) : L.getD i 0 ∈ L := by
  rw [List.getD_eq_getElem?_getD, List.getElem?_eq_getElem h]; exact List.getElem_mem h
theorem asc_first {L : List Int} (hs : ∀ i j, i < j → j < L.length → L.getD i 0 < L.getD j 0) {m : Int} (hm : m ∈ L) (hmin : ∀ x ∈ L, m ≤ x) : L.getD 0 0 = m := by
  obtain ⟨i, hi, e⟩ := List.getElem_of_mem hm
  have e2 : L.getD i 0 = m := by simp [List.getD, hi, e]
  have h1 := asc_le hs hi (Nat.zero_le i)
  have h2 := hmin _ (getD_memI (L := L) (i := 0) (by omega))
  omega
theorem good_ren {L : List Int} (hs : ∀ i j, i < j → j < L.length → L.getD i 0 < L.getD j 0) {i x : Nat} (hi : i < L.length) (hx : L.getD i 0 = x) {B C : BusV} (hG : Good x B) (hR : Ren L B C) (h0 : i = 0 → ¬ B.par ∈ L ∧ B.o0 = 0 ∧ B.o1 = 0 ∧ B.s0 = 0 ∧ B.s1 = 0) (h1 : 0 < i → B.par ∈ L ∧ B.par < x) : Good i C := by
  obtain ⟨q, rfl, hq1, hq2⟩ := hR
  refine ⟨fun e => ?_, fun e => ?_, hG.kind, hG.cust, hG.own, hG.load⟩
  · obtain ⟨a, b⟩ := h0 e
    exact ⟨hq2 a, b⟩
  · obtain ⟨a, b⟩ := h1 e
    obtain ⟨j, hj, hjl, hjp⟩ := hq1 a
    show 0 ≤ q ∧ q < i
    have : j < i := by
      rcases Nat.lt_or_ge j i with h | h
      · exact h
      · have := asc_le hs hjl h
        omega
    omega
theorem good_bare {i : Nat} {B : BusV} (h : Good i B) : Good i B.bare := ⟨fun e => ⟨(h.root e).1, rfl, rfl, rfl, rfl⟩, h.par, h.kind, h.cust, by unfold BusV.bare; exact ⟨pos32, pos32, pos32, pos32⟩, h.load⟩
/-- What is left is a tree. -/
theorem good_cut {Bs : List BusV} (hG : ∀ i (h : i < Bs.length), Good i Bs[i]) (b : Nat) (hb1 : 1 ≤ b) (hb : b < Bs.length) {R : List BusV} (hR : RenL Bs (othL Bs b Bs.length) (othL Bs b Bs.length).length R) : 0 < R.length ∧ ∀ i (h : i < R.length), Good i R[i] := by
  have hs := othL_up Bs b Bs.length
  have hm := othL_mem Bs b Bs.length
  have hp := good_par hG
  have h00 : (0 : Int) ∈ othL Bs b Bs.length := by
    have h := (oth_step Bs b Bs.length 0 (by omega)).2 (fun h => by
      rcases (bel_step Bs b Bs.length 0 (by omega)).1 h with h | h
      · cases h
      · omega)
    simpa using h
  have hfirst := asc_first hs h00 (fun x hx => (hm x hx).1)
  have hpos := List.length_pos_of_mem h00
  refine ⟨by rw [hR.1]; exact hpos, fun i hi => ?_⟩
  have hil : i < (othL Bs b Bs.length).length := by rw [← hR.1]; exact hi
  obtain ⟨B, C, hB, hC, hRen⟩ := hR.2 i hil
  have hxm := hm _ (getD_memI hil)
  obtain ⟨x, hx⟩ : ∃ x : Nat, (othL Bs b Bs.length).getD i 0 = x := ⟨((othL Bs b Bs.length).getD i 0).toNat, by omega⟩
  rw [hx, Int.toNat_natCast] at hB
  have hxl : x < Bs.length := by omega
  rw [List.getElem?_eq_getElem hxl] at hB
  rw [List.getElem?_eq_getElem hi] at hC
  have hB := Option.some.inj hB
  have hC := Option.some.inj hC
  rw [hC]
  have hGx := hG x hxl
  rw [hB] at hGx
  have hpx : parAt Bs x = B.par := by rw [parAt_get hxl, hB]
  refine good_ren hs hil hx hGx hRen (fun e => ?_) (fun e => ?_)
  · subst e
    have h0x : x = 0 := by omega
    have h := hGx.root h0x
    exact ⟨fun hc => by have := hm _ hc; omega, h.2⟩
  · have h1 := hs 0 i e hil
    have hpp := hGx.par (by omega)
    refine ⟨?_, hpp.2⟩
    obtain ⟨p, hp2⟩ : ∃ p : Nat, B.par = p := ⟨B.par.toNat, by omega⟩
    rw [hp2]
    refine (oth_step Bs b Bs.length p (by omega)).2 (fun hc => ?_)
    have hxo := getD_memI hil
    rw [hx] at hxo
    refine (oth_step Bs b Bs.length x hxl).1 hxo ((bel_step Bs b Bs.length x hxl).2 (.inl ?_))
    rw [hpx, hp2]
    exact (bel_keep Bs b x Bs.length p (by omega) (by omega) (by omega)).1 hc
/-- The part is a tree. -/
theorem good_part {Bs : List BusV} (hG : ∀ i (h : i < Bs.length), Good i Bs[i]) (b : Nat) (hb : b < Bs.length) {h : BusV} {r : List BusV} (hR : RenL Bs (belL Bs b Bs.length) (belL Bs b Bs.length).length (h :: r)) : ∀ i (hi : i < (h.bare :: r).length), Good i (h.bare :: r)[i] := by
  have hs := belL_up Bs b Bs.length
  have hm := belL_mem Bs b Bs.length
  have hge := bel_ge Bs (good_par hG) b Bs.length (Nat.le_refl _)
  have hbb : (b : Int) ∈ belL Bs b Bs.length := (bel_step Bs b Bs.length b hb).2 (.inr rfl)
  have hfirst := asc_first hs hbb hge
  intro i hi
  have hil : i < (belL Bs b Bs.length).length := by rw [← hR.1]; exact hi
  obtain ⟨B, C, hB, hC, hRen⟩ := hR.2 i hil
  have hxm := hm _ (getD_memI hil)
  obtain ⟨x, hx⟩ : ∃ x : Nat, (belL Bs b Bs.length).getD i 0 = x := ⟨((belL Bs b Bs.length).getD i 0).toNat, by omega⟩
  rw [hx, Int.toNat_natCast] at hB
  have hxl : x < Bs.length := by omega
  rw [List.getElem?_eq_getElem hxl] at hB
  have hB := Option.some.inj hB
  have hGx := hG x hxl
  rw [hB] at hGx
  have hpx : parAt Bs x = B.par := by rw [parAt_get hxl, hB]
  have hpar := good_par hG x hxl
  rw [hpx] at hpar
  cases i with
  | zero =>
    have hC : h = C := Option.some.inj hC
    have hxb : x = b := by omega
    have hnp : ¬ B.par ∈ belL Bs b Bs.length := fun hc => by have := hge _ hc; omega
    obtain ⟨q, rfl, hq1, hq2⟩ := hRen
    rw [hC]
    exact ⟨fun _ => ⟨hq2 hnp, rfl, rfl, rfl, rfl⟩, fun e => absurd e (Nat.lt_irrefl 0), hGx.kind, hGx.cust, ⟨pos32, pos32, pos32, pos32⟩, hGx.load⟩
  | succ i =>
    have hC2 : r[i]? = some C := hC
    have hil2 : i < r.length := by simpa using hi
    rw [List.getElem?_eq_getElem hil2] at hC2
    have hC3 := Option.some.inj hC2
    show Good (i + 1) r[i]
    rw [hC3]
    refine good_ren hs hil hx hGx hRen (fun e => by omega) (fun e => ?_)
    have h1 := hs 0 (i + 1) (by omega) hil
    have hxo := getD_memI hil
    rw [hx] at hxo
    have hpp := hGx.par (by omega)
    refine ⟨?_, hpp.2⟩
    rcases (bel_step Bs b Bs.length x hxl).1 hxo with hc | hc
    · rw [hpx] at hc
      exact (bel_keep Bs b x Bs.length B.par (by omega) (by omega) (by omega)).2 hc
    · omega
end Go.Proofs.Ytbcjgjdkapdihaa
end

section
set_option linter.unusedVariables false
set_option linter.unusedSimpArgs false
namespace Go.Proofs.Ytbcjgjdkapdihaa
open Go

/-- One round: a bus's sum is added to its parent's. -/
def wst {n : Nat} (S : Nat → Int) (x : IB n) : Nat → Int := fun j => if x.1.2.par = (j : Int) then S j + S x.1.1 else S j
def wsum {n : Nat} (V : Nat → Int) (pre : List (IB n)) : Nat → Int := pre.foldl wst V
theorem wsum_snoc {n : Nat} (V : Nat → Int) (pre : List (IB n)) (x : IB n) : wsum V (pre ++ [x]) = wst (wsum V pre) x := by simp [wsum]
theorem wsum_bound {n : Nat} (pre : List (IB n)) : ∀ (V : Nat → Int) (M : Nat), (∀ j, (V j).natAbs ≤ M) → ∀ j, (wsum V pre j).natAbs ≤ M * 2 ^ pre.length := by
  induction pre with
  | nil => intro V M h j; simpa [wsum] using h j
  | cons x r ih =>
    intro V M h j
    have h1 : ∀ j, (wst V x j).natAbs ≤ M * 2 := by
      intro j
      unfold wst
      have ha := h j
      have hb := h x.1.1
      split <;> omega
    have := ih (wst V x) (M * 2) h1 j
    rw [List.length_cons, Nat.pow_succ, Nat.mul_comm (2 ^ r.length) 2, ← Nat.mul_assoc]
    exact this
theorem wsum_small {n : Nat} (V : Nat → Int) (pre : List (IB n)) (hV : ∀ j, (V j).natAbs ≤ 50) (h : pre.length ≤ 16) (j : Nat) : (wsum V pre j).natAbs ≤ 3276800 := by
  have h1 := wsum_bound pre V 50 hV j
  have h2 : 2 ^ pre.length ≤ 2 ^ 16 := Nat.pow_le_pow_right (by omega) h
  have h3 : (2 : Nat) ^ 16 = 65536 := by decide
  omega

/-- The rounds for buses t - 1, .., 0. -/
def wfold (Bs : List BusV) : Nat → (Nat → Int) → (Nat → Int)
  | 0, S => S
  | t + 1, S => wfold Bs t (fun j => if parAt Bs t = (j : Int) then S j + S t else S j)
theorem wfold_sum {Bs : List BusV} (hG : ∀ i (h : i < Bs.length), Good i Bs[i]) (h0 : 0 < Bs.length) (V : Nat → Int) : ∀ t, t ≤ Bs.length → wfold Bs (Bs.length - t) (wsum V (upto (gB Bs hG h0) t)) = wfold Bs Bs.length V
  | 0, _ => rfl
  | t + 1, ht => by
    have ih := wfold_sum hG h0 V t (by omega)
    rw [upto_succ, wsum_snoc, ← ih]
    have hx := gB_at (hG := hG) (h1 := h0) (j := t) (by omega)
    generalize gB Bs hG h0 t = x at *
    generalize wsum V (upto (gB Bs hG h0) t) = S at *
    obtain ⟨k, hk⟩ : ∃ k, Bs.length - t = k + 1 := ⟨Bs.length - t - 1, by omega⟩
    rw [hk, show Bs.length - (t + 1) = k by omega]
    show _ = wfold Bs k _
    congr 1
    have e1 : x.1.1 = k := by rw [hx]; show Bs.length - 1 - t = k; omega
    have e2 : x.1.2.par = parAt Bs k := by
      rw [hx, parAt_get (show k < Bs.length by omega)]
      show Bs[Bs.length - 1 - t].par = Bs[k].par
      congr 2
      omega
    unfold wst
    rw [e1, e2]
theorem wfold_last {Bs : List BusV} (hG : ∀ i (h : i < Bs.length), Good i Bs[i]) (h0 : 0 < Bs.length) (V : Nat → Int) : wsum V (upto (gB Bs hG h0) Bs.length) = wfold Bs Bs.length V := by
  have h := wfold_sum hG h0 V Bs.length (Nat.le_refl _)
  rw [Nat.sub_self] at h
  exact h

/-- The sum of S over a list of buses. -/
def wls (S : Nat → Int) (l : List Int) : Int := l.foldl (fun s k => s + S k.toNat) 0
theorem wls_snoc (S : Nat → Int) (l : List Int) (k : Int) : wls S (l ++ [k]) = wls S l + S k.toNat := by simp [wls]
theorem wls_take (S : Nat → Int) (L : List Int) (k : Nat) (hk : k < L.length) : wls S (L.take (k + 1)) = wls S (L.take k) + S (L.getD k 0).toNat := by
  rw [List.take_succ_eq_append_getElem hk, wls_snoc]
  simp [List.getD, hk]
theorem wls_bound (S : Nat → Int) (M : Nat) (h : ∀ j, (S j).natAbs ≤ M) (L : List Int) : ∀ k, k ≤ L.length → (wls S (L.take k)).natAbs ≤ M * k
  | 0, _ => by simp [wls]
  | k + 1, hk => by
    have ih := wls_bound S M h L k (by omega)
    have := h (L.getD k 0).toNat
    rw [wls_take S L k (by omega), Nat.mul_succ]
    omega
theorem belL_none (Bs : List BusV) (b : Nat) : ∀ k, k ≤ b → belL Bs b k = []
  | 0, _ => rfl
  | k + 1, h => by
    unfold belL
    rw [belL_none Bs b k (by omega), if_neg]
    rintro (h | h)
    · cases h
    · omega
theorem wls_upd (Bs : List BusV) (b : Nat) (p : Int) (s : Int) (S : Nat → Int) : ∀ k, wls (fun j => if p = (j : Int) then S j + s else S j) (belL Bs b k) = wls S (belL Bs b k) + (if p ∈ belL Bs b k then s else 0)
  | 0 => by simp [belL, wls]
  | k + 1 => by
    have ih := wls_upd Bs b p s S k
    have hm := belL_mem Bs b k
    unfold belL
    by_cases hc : parAt Bs k ∈ belL Bs b k ∨ k = b
    · rw [if_pos hc, wls_snoc, wls_snoc, ih, Int.toNat_natCast]
      generalize belL Bs b k = L at *
      by_cases e : p = (k : Int)
      · have hn : ¬ p ∈ L := fun h => by have := hm _ h; omega
        rw [if_neg hn, if_pos e, if_pos (by rw [e]; simp)]
        omega
      · have hmem : p ∈ L ++ [(k : Int)] ↔ p ∈ L := by simp [e]
        rw [if_neg e]
        simp only [hmem]
        omega
    · rw [if_neg hc]
      exact ih
theorem wfold_bel {Bs : List BusV} (hG : ∀ i, i < Bs.length → -1 ≤ parAt Bs i ∧ parAt Bs i < i) (b : Nat) : ∀ t, t ≤ Bs.length → ∀ S : Nat → Int, wfold Bs t S b = if b < t then wls S (belL Bs b t) else S b
  | 0, _, S => rfl
  | t + 1, ht, S => by
    have ih := wfold_bel hG b t (by omega) (fun j => if parAt Bs t = (j : Int) then S j + S t else S j)
    have hp := hG t (by omega)
    show wfold Bs t _ b = _
    rw [ih]
    by_cases h1 : b < t
    · rw [if_pos h1, if_pos (by omega), wls_upd]
      conv => rhs; unfold belL
      by_cases hc : parAt Bs t ∈ belL Bs b t
      · rw [if_pos hc, if_pos (.inl hc), wls_snoc, Int.toNat_natCast]
      · rw [if_neg hc, if_neg (by rintro (h | h); exact hc h; omega), Int.add_zero]
    · rw [if_neg h1]
      by_cases h2 : b = t
      · subst h2
        show (if parAt Bs b = (b : Int) then S b + S b else S b) = if b < b + 1 then wls S (belL Bs b (b + 1)) else S b
        rw [if_neg (by omega), if_pos (by omega)]
        unfold belL
        rw [if_pos (.inr rfl), belL_none Bs b b (Nat.le_refl _)]
        simp [wls]
      · show (if parAt Bs t = (b : Int) then S b + S t else S b) = if b < t + 1 then wls S (belL Bs b (t + 1)) else S b
        rw [if_neg (by omega), if_neg (by omega)]
theorem good_parW {Bs : List BusV} (hG : ∀ i (h : i < Bs.length), Good i Bs[i]) (i : Nat) (h : i < Bs.length) : -1 ≤ parAt Bs i ∧ parAt Bs i < i := by
  rw [parAt_get h]
  have hg := hG i h
  by_cases h0 : i = 0
  · have := (hg.root h0).1; omega
  · have := hg.par (by omega); omega
/-- What stands at bus b at the end: the sum over the buses below it. -/
theorem wsum_below {Bs : List BusV} (hG : ∀ i (h : i < Bs.length), Good i Bs[i]) (h0 : 0 < Bs.length) (V : Nat → Int) (b : Nat) (hb : b < Bs.length) : wsum V (upto (gB Bs hG h0) Bs.length) b = wls V (belL Bs b Bs.length) := by
  rw [wfold_last, wfold_bel (good_parW hG) b Bs.length (Nat.le_refl _) V, if_pos hb]
end Go.Proofs.Ytbcjgjdkapdihaa
end

section
set_option linter.unusedVariables false
set_option linter.unusedSimpArgs false
namespace Go.Proofs.Ytbcjgjdkapdihaa
open Go

/-- All customers of the first k buses. -/
def ctot (Bs : List BusV) : Nat → Int
  | 0 => 0
  | k + 1 => ctot Bs k + custAt Bs k
theorem ctot_congr {As Bs : List BusV} : ∀ k, (∀ i, i < k → custAt As i = custAt Bs i) → ctot As k = ctot Bs k
  | 0, _ => rfl
  | k + 1, h => by
    unfold ctot
    rw [ctot_congr k (fun i hi => h i (by omega)), h k (by omega)]
theorem csum_wsum {Bs : List BusV} (hG : ∀ i (h : i < Bs.length), Good i Bs[i]) (h0 : 0 < Bs.length) : ∀ t, t ≤ Bs.length → ∀ j : Nat, csum (upto (gB Bs hG h0) t) j + (if j < Bs.length - t then custAt Bs j else 0) = wsum (custAt Bs) (upto (gB Bs hG h0) t) j
  | 0, _, j => by
    show (0 : Int) + _ = custAt Bs j
    by_cases h : j < Bs.length - 0
    · rw [if_pos h]; omega
    · rw [if_neg h]; simp [custAt, show Bs.length ≤ j by omega]
  | t + 1, ht, j => by
    have ih := csum_wsum hG h0 t (by omega)
    rw [upto_succ, csum_snoc, wsum_snoc]
    have hx := gB_at (hG := hG) (h1 := h0) (j := t) (by omega)
    generalize gB Bs hG h0 t = x at *
    generalize csum (upto (gB Bs hG h0) t) = S at *
    generalize wsum (custAt Bs) (upto (gB Bs hG h0) t) = W at *
    obtain ⟨⟨i, B⟩, hi, hgd⟩ := x
    simp at hx
    obtain ⟨hxi, hxB⟩ := hx
    have hi2 : i < Bs.length := hi
    have hil : Bs.length - t = i + 1 := by omega
    have hil2 : Bs.length - (t + 1) = i := by omega
    have hBi : Bs[i] = B := by subst hxi; exact hxB.symm
    have hpi : parAt Bs i = B.par := by rw [parAt_get hi2, hBi]
    have hci : custAt Bs i = B.cust := by rw [custAt_get hi2, hBi]
    rw [hil] at ih
    rw [hil2]
    have hp := good_par hG i hi2
    rw [hpi] at hp
    have hj := ih j
    have hii := ih i
    rw [if_pos (by omega)] at hii
    have hw : wst W ⟨(i, B), hi, hgd⟩ j = if B.par = (j : Int) then W j + W i else W j := rfl
    rw [hw]
    by_cases e : B.par = -1
    · have hS : ∀ m, cstep S ⟨(i, B), hi, hgd⟩ m = if m = i then S i + B.cust else S m := fun m => cstep_root S ⟨(i, B), hi, hgd⟩ e m
      rw [hS j, if_neg (show ¬ B.par = (j : Int) by omega)]
      by_cases hji : j = i
      · subst hji
        rw [if_pos rfl, if_neg (by omega)]
        omega
      · rw [if_neg hji]
        by_cases hjl : j < i
        · rw [if_pos (by omega)] at hj; rw [if_pos hjl]; exact hj
        · rw [if_neg (by omega)] at hj; rw [if_neg hjl]; exact hj
    · obtain ⟨q, hq⟩ : ∃ q : Nat, B.par = q := ⟨B.par.toNat, by omega⟩
      have hS : ∀ m, cstep S ⟨(i, B), hi, hgd⟩ m = if m = q then S q + (S i + B.cust) else if m = i then S i + B.cust else S m := fun m => cstep_at S ⟨(i, B), hi, hgd⟩ q hq (by simp; omega) m
      rw [hS j]
      by_cases hjq : j = q
      · subst hjq
        rw [if_pos rfl, if_pos (by omega), if_pos (by omega)]
        rw [if_pos (by omega)] at hj
        omega
      · rw [if_neg hjq, if_neg (show ¬ B.par = (j : Int) by omega)]
        by_cases hji : j = i
        · subst hji
          rw [if_pos rfl, if_neg (by omega)]
          omega
        · rw [if_neg hji]
          by_cases hjl : j < i
          · rw [if_pos (by omega)] at hj; rw [if_pos hjl]; exact hj
          · rw [if_neg (by omega)] at hj; rw [if_neg hjl]; exact hj
theorem all_root {Bs : List BusV} (hG : ∀ i (h : i < Bs.length), Good i Bs[i]) : ∀ k, k ≤ Bs.length → wls (custAt Bs) (belL Bs 0 k) = ctot Bs k ∧ ∀ i : Nat, i < k → (i : Int) ∈ belL Bs 0 k
  | 0, _ => ⟨rfl, fun i h => by omega⟩
  | k + 1, hk => by
    obtain ⟨h1, h2⟩ := all_root hG k (by omega)
    have hc : parAt Bs k ∈ belL Bs 0 k ∨ k = 0 := by
      have hp := good_par hG k (by omega)
      by_cases e : parAt Bs k = -1
      · exact .inr (good_root hG k (by omega) e)
      · refine .inl ?_
        have := h2 (parAt Bs k).toNat (by omega)
        rwa [show (((parAt Bs k).toNat : Nat) : Int) = parAt Bs k by omega] at this
    rw [belL_succ, if_pos hc]
    refine ⟨by rw [wls_snoc, h1, Int.toNat_natCast]; rfl, fun i hi => ?_⟩
    by_cases e : i = k
    · rw [e]; simp
    · exact List.mem_append.2 (.inl (h2 i (by omega)))
/-- The customers below the root. -/
theorem csum_root {Bs : List BusV} (hG : ∀ i (h : i < Bs.length), Good i Bs[i]) (h0 : 0 < Bs.length) : csum (upto (gB Bs hG h0) Bs.length) 0 = ctot Bs Bs.length := by
  have h := csum_wsum hG h0 Bs.length (Nat.le_refl _) 0
  rw [Nat.sub_self, if_neg (by omega), Int.add_zero, wsum_below hG h0 (custAt Bs) 0 h0, (all_root hG Bs.length (Nat.le_refl _)).1] at h
  exact h
theorem wls_split (Bs : List BusV) (b : Nat) : ∀ k, wls (custAt Bs) (belL Bs b k) + wls (custAt Bs) (othL Bs b k) = ctot Bs k
  | 0 => rfl
  | k + 1 => by
    have ih := wls_split Bs b k
    rw [belL_succ, othL_succ]
    unfold ctot
    split
    · rw [wls_snoc, Int.toNat_natCast]; omega
    · rw [wls_snoc, Int.toNat_natCast]; omega
theorem ren_cust {Bs : List BusV} {L : List Int} {R : List BusV} (h : RenL Bs L L.length R) : ∀ k, k ≤ L.length → ctot R k = wls (custAt Bs) (L.take k)
  | 0, _ => by simp [ctot, wls]
  | k + 1, hk => by
    have ih := ren_cust h k (by omega)
    obtain ⟨B, C, hB, hC, q, rfl, _⟩ := h.2 k (by omega)
    unfold ctot
    rw [ih, wls_take _ _ _ (by omega)]
    congr 1
    unfold custAt
    rw [hC, hB]
    rfl
theorem ren_all {Bs : List BusV} {L : List Int} {R : List BusV} (h : RenL Bs L L.length R) : ctot R R.length = wls (custAt Bs) L := by
  have h1 := ren_cust h L.length (Nat.le_refl _)
  rw [List.take_of_length_le (Nat.le_refl _)] at h1
  rw [h.1]
  exact h1
theorem ctot_append (As Cs : List BusV) : ∀ k, ctot (As ++ Cs) (As.length + k) = ctot As As.length + ctot Cs k
  | 0 => by
    rw [Nat.add_zero]
    show _ = _ + (0 : Int)
    rw [Int.add_zero]
    refine ctot_congr _ (fun i hi => ?_)
    unfold custAt
    rw [List.getElem?_append_left hi]
  | k + 1 => by
    have ih := ctot_append As Cs k
    rw [← Nat.add_assoc]
    show ctot (As ++ Cs) (As.length + k) + custAt (As ++ Cs) (As.length + k) = _ + (ctot Cs k + custAt Cs k)
    have e : custAt (As ++ Cs) (As.length + k) = custAt Cs k := by
      unfold custAt
      rw [List.getElem?_append_right (by omega), Nat.add_sub_cancel_left]
    rw [ih, e]
    omega
end Go.Proofs.Ytbcjgjdkapdihaa
end
