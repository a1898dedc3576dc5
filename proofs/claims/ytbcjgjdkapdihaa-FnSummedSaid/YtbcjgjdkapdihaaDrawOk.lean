/-
  A feeder that is drawn. No theorem of a claim stands here.
-/
import Derived.Test.YtbcjgjdkapdihaaEven
import Derived.Test.YtbcjgjdkapdihaaRowL
set_option linter.unusedVariables false
set_option linter.unusedSimpArgs false
set_option maxRecDepth 8000
namespace Go.Proofs.Ytbcjgjdkapdihaa
open Go Go.RowKit Go.Deep Go.Proofs.Ytbcjgjdkapdihaa.Fl

theorem gweak {w w' : World} (h : w.grownBy w' none) (r : Option Nat) : w.grownBy w' r := ⟨h.os, h.tape, h.output, h.size, fun k hk _ => h.block k hk (by simp)⟩
theorem below_src {w w' : World} {p : Nat} (hg : w.grownBy w' (some p)) (hp : p ≤ w.heap.size) : Below p w w' := (Below.refl p w).grown hg hp (fun k e => by cases e; exact Nat.le_refl _)

/-- What the drawing of a feeder gives: its source, its buses in a row of the call's own. -/
def FdrP (p : Nat) (w : World) (e : Ending) (w' : World) : Prop :=
  ∃ (x0 x1 y0 y1 z0 z1 gs c n : Nat) (Bs : List BusV), e = .returned (.agg #[.complex .f32 x0 x1, .complex .f32 y0 y1, .complex .f32 z0 z1, .slice (some ⟨gs, 0, none⟩) n c]) ∧ x0 < 2 ^ 32 ∧ x1 < 2 ^ 32 ∧ y0 < 2 ^ 32 ∧ y1 < 2 ^ 32 ∧ z0 < 2 ^ 32 ∧ z1 < 2 ^ 32 ∧ 1 ≤ n ∧ n ≤ 6 ∧ Bs.length = n ∧
    (∀ i (h : i < Bs.length), Good i Bs[i]) ∧ w'.ownsRow (w.heap.size + 1) 89 8 (.slice (some ⟨gs, 0, none⟩) n c) n (flat Bs) ∧ Below p w w'
/-- Where the drawing stands: the source, the result's row, the feeder's row, the buses so far. -/
structure Rd0 (w cur : World) (p : Nat) (a : Option Addr) (len cap j r0 g0 : Nat) (Lr Lo : List Value) (gs c k : Nat) (xs : List Value) : Prop where
  src : Src cur p a len cap j
  below : Below p w cur
  res : RL cur r0 40 Lr
  out : RL cur g0 40 Lo
  own : cur.ownsRow (r0 + 1) 89 8 (.slice (some ⟨gs, 0, none⟩) k c) k xs
  pr : p < r0
  rg : r0 < g0
structure RdB (w cur : World) (p : Nat) (a : Option Addr) (len cap j r0 g0 gb : Nat) (Lr Lo Lb : List Value) (gs c k : Nat) (xs : List Value) : Prop where
  base : Rd0 w cur p a len cap j r0 g0 Lr Lo gs c k xs
  bus : RL cur gb 89 Lb
  rb : r0 < gb
  gg : gs ≠ gb
variable {w cur cur' : World} {p : Nat} {a : Option Addr} {len cap j j' r0 g0 gb : Nat} {Lr Lo Lb : List Value} {gs c k : Nat} {xs : List Value}
theorem row_type {w : World} {g : Nat} {t u : TypeId} {L M : List Value} (h : RL w g t L) (h2 : RL w g u M) : t = u := by
  obtain ⟨c1, b1, _⟩ := h
  obtain ⟨c2, b2, _⟩ := h2
  rw [b1] at b2
  simp at b2
  exact b2.2
theorem RdB.ng (h : RdB w cur p a len cap j r0 g0 gb Lr Lo Lb gs c k xs) : gb ≠ g0 := by
  intro e
  have h1 := h.bus
  rw [e] at h1
  exact absurd (row_type h1 h.base.out) (by decide)
theorem Rd0.call (h : Rd0 w cur p a len cap j r0 g0 Lr Lo gs c k xs) (hs : Src cur' p a len cap j') (hg : cur.grownBy cur' (some p)) : Rd0 w cur' p a len cap j' r0 g0 Lr Lo gs c k xs := by
  have h1 := h.pr
  have h2 := h.rg
  have h3 := (own_lt h.own).1
  exact ⟨hs, h.below.trans (below_src hg (Nat.le_of_lt h.src.lt)), h.res.kept hg (fun k e => by cases e; omega), h.out.kept hg (fun k e => by cases e; omega), own_grown h.own hg (fun k e => by cases e; omega), h1, h2⟩
theorem RdB.call (h : RdB w cur p a len cap j r0 g0 gb Lr Lo Lb gs c k xs) (hs : Src cur' p a len cap j') (hg : cur.grownBy cur' (some p)) : RdB w cur' p a len cap j' r0 g0 gb Lr Lo Lb gs c k xs := by
  have h1 := h.base.pr
  have h2 := h.rb
  exact ⟨h.base.call hs hg, h.bus.kept hg (fun k e => by cases e; omega), h2, h.gg⟩
theorem RdB.set (h : RdB w cur p a len cap j r0 g0 gb Lr Lo Lb gs c k xs) (i : Nat) (u : Value) : RdB w (cur.setCell ⟨gb, i, none⟩ u) p a len cap j r0 g0 gb Lr Lo (Lb.set i u) gs c k xs := by
  have h1 := h.base.pr
  have h2 := h.base.rg
  have h3 := h.rb
  have h4 := h.ng
  have h5 := h.gg
  exact ⟨⟨h.base.src.setOther (by omega) _ _, h.base.below.setCell (by show p ≤ gb; omega) _, h.base.res.other (by omega) _ _, h.base.out.other (Ne.symm h4) _ _, own_other h.base.own h5 _ _, h1, h2⟩, h.bus.set i u, h3, h5⟩
theorem Rd0.setOut (h : Rd0 w cur p a len cap j r0 g0 Lr Lo gs c k xs) (i : Nat) (u : Value) : Rd0 w (cur.setCell ⟨g0, i, none⟩ u) p a len cap j r0 g0 Lr (Lo.set i u) gs c k xs := by
  have h1 := h.pr
  have h2 := h.rg
  have h3 := own_ne_row h.own h.out (by decide)
  exact ⟨h.src.setOther (by omega) _ _, h.below.setCell (by show p ≤ g0; omega) _, h.res.other (by omega) _ _, h.out.set i u, own_other h.own h3 _ _, h1, h2⟩
theorem Rd0.setRes (h : Rd0 w cur p a len cap j r0 g0 Lr Lo gs c k xs) (i : Nat) (u : Value) : Rd0 w (cur.setCell ⟨r0, i, none⟩ u) p a len cap j r0 g0 (Lr.set i u) Lo gs c k xs := by
  have h1 := h.pr
  have h2 := h.rg
  have h3 := (own_lt h.own).1
  exact ⟨h.src.setOther (by omega) _ _, h.below.setCell (by show p ≤ r0; omega) _, h.res.set i u, h.out.other (by omega) _ _, own_other h.own (by omega) _ _, h1, h2⟩
theorem Rd0.appended (h : Rd0 w cur p a len cap j r0 g0 Lr Lo gs c k xs) (o : Obj) {g' c' k' : Nat} {xs' : List Value} (hg : (cur.alloc o).grownBy cur' (Value.ownBlock (.slice (some ⟨gs, 0, none⟩) k c))) (ho : cur'.ownsRow (r0 + 1) 89 8 (.slice (some ⟨g', 0, none⟩) k' c') k' xs') :
    Rd0 w cur' p a len cap j r0 g0 Lr Lo g' c' k' xs' := by
  have h1 := h.pr
  have h2 := h.rg
  have h3 := (own_lt h.own).1
  have h4 := own_ne_row h.own h.out (by decide)
  have h5 := h.src.lt
  exact ⟨(h.src.allocd o).keep hg (fun x e => by simp [Value.ownBlock] at e; omega), (h.below.alloc (Nat.le_of_lt h5) o).grown hg (by simp; omega) (fun x e => by simp [Value.ownBlock] at e; omega), (h.res.allocd o).kept hg (fun x e => by simp [Value.ownBlock] at e; omega), (h.out.allocd o).kept hg (fun x e => by simp [Value.ownBlock] at e; omega), ho, h1, h2⟩
theorem RdB.drewN (h : RdB w cur p a len cap j r0 g0 gb Lr Lo Lb gs c k xs) (n : Nat) : RdB w (cur.drewN n) p a len cap j r0 g0 gb Lr Lo Lb gs c k xs :=
  ⟨⟨h.base.src.drew n, ⟨h.base.below.os, h.base.below.tape, h.base.below.output, h.base.below.size, h.base.below.block⟩, h.base.res, h.base.out, h.base.own, h.base.pr, h.base.rg⟩, h.bus, h.rb, h.gg⟩
/-- A bus's row is made. -/
theorem Rd0.bus (h : Rd0 w cur p a len cap j r0 g0 Lr Lo gs c k xs) (L : List Value) : RdB w (cur.alloc (.cells L.toArray 89)) p a len cap j r0 g0 cur.heap.size Lr Lo L gs c k xs := by
  have h1 := h.res.lt
  have h2 := own_lt h.own
  have h3 := h.src.lt
  exact ⟨⟨h.src.allocd _, h.below.alloc (Nat.le_of_lt h3) _, h.res.allocd _, h.out.allocd _, h.own.alloc _, h.pr, h.rg⟩, RL.new _ _ _, h1, by omega⟩

theorem infoBus : (Try.prog.info? 89).map (fun i => (i.zero, i.size, i.bytes)) = some (some (.agg #[.int .i64 0, .complex .f32 0 0, .complex .f32 0 0, .int .i64 0, .complex .f32 0 0, .complex .f32 0 0, .complex .f32 0 0, .int .i64 0]), 8, 64) := by kernel_rfl

set_option maxHeartbeats 4000000 in
theorem drawOk_any (w : World) (p : Nat) (a : Option Addr) (len cap i : Nat) (hs : Src w p a len cap i) (hi : i ≤ 100) :
    Calls Try.prog 94 #[.pointer (some ⟨p, 0, none⟩)] w (FdrP p w) := by
  have hp := hs.lt
  obtain ⟨i0, hz, hz0, hz1, hz2⟩ := info_parts infoBus
  have S0 := Lib.hid hs
  clear hs
  have hq := fun x y (w : World) => run_fov (P := Try.prog) .quo rfl 28 .f32 x y w
  have hst := fun (a : Addr) (x y : Nat) (m : Mode) (w : World) => run_store Try.prog w a (.complex .f32 x y) m rfl
  go_enter Try.func94, Try.ntmps94
  go_wp2_with fail
  refine (pick_any _ p a len cap _ (S0.out.allocd _) (by omega) 8 (by omega) (by omega)).mono ?_
  rintro e1 w1 ⟨v, j1, rfl, hv0, hv1, hj1, gs1, hg1⟩
  obtain ⟨m, rfl⟩ := Int.eq_ofNat_of_zero_le hv0
  have hE := fun w' => even_any (8 + m) (by omega) (by omega) w'
  rw [show ((8 + m : Nat) : Int) = 8 + (m : Int) by omega] at hE
  have R1 := Lib.hid ((RL.new w [.complex .f32 0 0, .complex .f32 0 0, .complex .f32 0 0, .slice none 0 0] 40).kept hg1 (fun k e => by cases e; omega))
  have B1 := Lib.hid (((Below.refl p w).alloc (Nat.le_of_lt hp) (.cells #[.complex .f32 0 0, .complex .f32 0 0, .complex .f32 0 0, .slice none 0 0] 40)).trans (below_src hg1 (by simp; omega)))
  have S1 := Lib.hid gs1
  clear S0 gs1 hg1
  go_wp2_with fail
  refine (hE _).mono ?_
  rintro e2 w2 ⟨A0, A1, B0', B1', C0, C1, rfl, la0, la1, lb0, lb1, lc0, lc1, hg2⟩
  have hR2 := R1.out.kept hg2 (fun k e => by cases e)
  have hs2 := hR2.lt
  have D0 : Hid (Rd0 w ((w2.alloc (.cells #[] 89)).alloc (.cells #[.complex .f32 A0 A1, .complex .f32 B0' B1', .complex .f32 C0 C1, .slice (some ⟨w2.heap.size, 0, none⟩) 0 0] 40)) p a len cap j1 w.heap.size (w2.heap.size + 1)
      [.complex .f32 0 0, .complex .f32 0 0, .complex .f32 0 0, .slice none 0 0] [.complex .f32 A0 A1, .complex .f32 B0' B1', .complex .f32 C0 C1, .slice (some ⟨w2.heap.size, 0, none⟩) 0 0] w2.heap.size 0 0 (flat [])) := by
    have hS2 := S1.out.keep hg2 (fun k e => by cases e)
    refine Lib.hid ⟨(hS2.allocd _).allocd _, ?_, (hR2.allocd _).allocd _, ?_, ?_, hp, by omega⟩
    · exact ((B1.out.grown hg2 (by have := S1.out.lt; omega) (fun k e => by cases e)).alloc (by omega) _).alloc (by simp; omega) _
    · have h := RL.new (w2.alloc (.cells #[] 89)) [.complex .f32 A0 A1, .complex .f32 B0' B1', .complex .f32 C0 C1, .slice (some ⟨w2.heap.size, 0, none⟩) 0 0] 40
      have e : (w2.alloc (.cells #[] 89)).heap.size = w2.heap.size + 1 := by simp
      rw [e] at h
      exact h
    · exact (World.ownsRow_lit w2 #[] 0 (by omega) (by simp [maxLen]) rfl).alloc _
  have hsz2 : w.heap.size < w2.heap.size := hs2
  clear R1 B1 S1 hg2 hR2 hE hs2
  generalize hW : (w2.alloc (.cells #[] 89)).alloc (.cells #[.complex .f32 A0 A1, .complex .f32 B0' B1', .complex .f32 C0 C1, .slice (some ⟨w2.heap.size, 0, none⟩) 0 0] 40) = w3 at D0
  go_wp2_with fail
  refine (one_any _ p a len cap _ D0.out.src (by omega) 5 (by omega) (by omega)).mono ?_
  rintro e4 w6 ⟨v4, j6, rfl, hj6, gs4, hg4⟩
  have D4 := Lib.hid (D0.out.call gs4 hg4)
  clear gs4 hg4 D0 hW
  cases v4
  case' false =>
    have D6 : Hid (∃ (x0 x1 y0 y1 z0 z1 j7 : Nat), x0 < 2 ^ 32 ∧ x1 < 2 ^ 32 ∧ y0 < 2 ^ 32 ∧ y1 < 2 ^ 32 ∧ z0 < 2 ^ 32 ∧ z1 < 2 ^ 32 ∧ j7 ≤ 300 ∧ Rd0 w w6 p a len cap j7 w.heap.size (w2.heap.size + 1) [.complex .f32 0 0, .complex .f32 0 0, .complex .f32 0 0, .slice none 0 0] [.complex .f32 x0 x1, .complex .f32 y0 y1, .complex .f32 z0 z1, .slice (some ⟨w2.heap.size, 0, none⟩) 0 0] w2.heap.size 0 0 (flat [])) := Lib.hid ⟨_, _, _, _, _, _, _, la0, la1, lb0, lb1, lc0, lc1, by omega, D4.out⟩
    clear D4 hj6
    go_wp2_with fail
  case' true =>
    go_wp2_with fail
    refine (drawPhases_any _ p a len cap _ D4.out.src (by omega) 40 (by omega) (by omega)).mono ?_
    rintro e5 w5 ⟨x0, x1, y0, y1, z0, z1, j5, rfl, lx0, lx1, ly0, ly1, lz0, lz1, hj5, gs5, hg5⟩
    have D5 := Lib.hid (D4.out.call gs5 hg5)
    clear gs5 hg5 D4
    have c0 : w5.cell? ⟨w2.heap.size + 1, 0, none⟩ = some (.complex .f32 A0 A1) := D5.out.out.cell 0 (by simp)
    have f0 := D5.out.out.frozen 0
    have E1 := Lib.hid (D5.out.setOut 0 (.complex .f32 x0 x1))
    have c1 : (w5.setCell ⟨w2.heap.size + 1, 0, none⟩ (.complex .f32 x0 x1)).cell? ⟨w2.heap.size + 1, 1, none⟩ = some (.complex .f32 B0' B1') := E1.out.out.cell 1 (by simp)
    have f1 := E1.out.out.frozen 1
    have E2 := Lib.hid (E1.out.setOut 1 (.complex .f32 y0 y1))
    have c2 : ((w5.setCell ⟨w2.heap.size + 1, 0, none⟩ (.complex .f32 x0 x1)).setCell ⟨w2.heap.size + 1, 1, none⟩ (.complex .f32 y0 y1)).cell? ⟨w2.heap.size + 1, 2, none⟩ = some (.complex .f32 C0 C1) := E2.out.out.cell 2 (by simp)
    have f2 := E2.out.out.frozen 2
    have E3 := Lib.hid (E2.out.setOut 2 (.complex .f32 z0 z1))
    go_wp2_with fail
    clear c0 c1 c2 f0 f1 f2 E1 E2 D5
    generalize ((w5.setCell ⟨w2.heap.size + 1, 0, none⟩ (.complex .f32 x0 x1)).setCell ⟨w2.heap.size + 1, 1, none⟩ (.complex .f32 y0 y1)).setCell ⟨w2.heap.size + 1, 2, none⟩ (.complex .f32 z0 z1) = w6 at *
    have D6 : Hid (∃ (x0 x1 y0 y1 z0 z1 j7 : Nat), x0 < 2 ^ 32 ∧ x1 < 2 ^ 32 ∧ y0 < 2 ^ 32 ∧ y1 < 2 ^ 32 ∧ z0 < 2 ^ 32 ∧ z1 < 2 ^ 32 ∧ j7 ≤ 300 ∧ Rd0 w w6 p a len cap j7 w.heap.size (w2.heap.size + 1) [.complex .f32 0 0, .complex .f32 0 0, .complex .f32 0 0, .slice none 0 0] [.complex .f32 x0 x1, .complex .f32 y0 y1, .complex .f32 z0 z1, .slice (some ⟨w2.heap.size, 0, none⟩) 0 0] w2.heap.size 0 0 (flat [])) := Lib.hid ⟨_, _, _, _, _, _, _, lx0, lx1, ly0, ly1, lz0, lz1, by omega, E3.out⟩
    clear E3 hj5 hj6 lx0 lx1 ly0 ly1 lz0 lz1
  all_goals
    clear la0 la1 lb0 lb1 lc0 lc1
    have D7 := D6.out
    clear D6
    obtain ⟨x0, x1, y0, y1, z0, z1, j7, lx0, lx1, ly0, ly1, lz0, lz1, hj7, D7⟩ := D7
    refine (pick_any _ p a len cap _ D7.src (by omega) 6 (by omega) (by omega)).mono ?_
    rintro e7 w7 ⟨v7, j8, rfl, hv70, hv71, hj8, gs7, hg7⟩
    have D8 := Lib.hid (D7.call gs7 hg7)
    clear gs7 hg7 D7
    obtain ⟨n, rfl⟩ := Int.eq_ofNat_of_zero_le hv70
    clear hv70
    go_wp2_with fail
    go_loopw [5] (fun I wr => ∃ (k j gs c : Nat) (Bs : List BusV), I = .int .i64 k ∧ k ≤ n + 1 ∧ j ≤ 400 + 300 * k ∧ Bs.length = k ∧ Hid (∀ i (h : i < Bs.length), Good i Bs[i]) ∧
      Hid (Rd0 w wr p a len cap j w.heap.size (w2.heap.size + 1) [.complex .f32 0 0, .complex .f32 0 0, .complex .f32 0 0, .slice none 0 0] [.complex .f32 x0 x1, .complex .f32 y0 y1, .complex .f32 z0 z1, .slice (some ⟨gs, 0, none⟩) k c] gs c k (flat Bs))) (fun I _ => n + 1 - (intOf I).toNat)
    case atStart => exact ⟨0, j8, w2.heap.size, 0, [], rfl, by omega, by omega, rfl, Lib.hid (fun i h => by simp at h), D8⟩
    case round =>
      obtain ⟨k, j, gs, c, Bs, rfl, hk, hj, hlen, HG, D⟩ := hrel
      by_cases hlt : k < n + 1
      · have d1 : decide ((k : Int) < 1 + (n : Int)) = true := by simp; omega
        have RB := Lib.hid (D.out.bus [.int .i64 ((k : Int) - 1), .complex .f32 0 0, .complex .f32 0 0, .int .i64 0, .complex .f32 0 0, .complex .f32 0 0, .complex .f32 0 0, .int .i64 0])
        have hws := D.out.res.lt
        rcases Nat.eq_zero_or_pos k with hk0 | hk0
        case' inl =>
          have d2 : decide ((0 : Int) < (k : Int)) = false := by simp; omega
          have d3 : ¬ 0 < k := by omega
          have hpar : (k : Int) - 1 = -1 := by omega
          have U2 : Hid (∃ (par : Int) (o0 o1 s0 s1 j20 : Nat), (k = 0 → par = -1 ∧ o0 = 0 ∧ o1 = 0 ∧ s0 = 0 ∧ s1 = 0) ∧ (0 < k → 0 ≤ par ∧ par < k) ∧ o0 < 2 ^ 32 ∧ o1 < 2 ^ 32 ∧ s0 < 2 ^ 32 ∧ s1 < 2 ^ 32 ∧ j20 ≤ j + 20 ∧ RdB w (wr.alloc (.cells #[.int .i64 ((k : Int) - 1), .complex .f32 0 0, .complex .f32 0 0, .int .i64 0, .complex .f32 0 0, .complex .f32 0 0, .complex .f32 0 0, .int .i64 0] 89)) p a len cap j20 w.heap.size (w2.heap.size + 1) wr.heap.size [.complex .f32 0 0, .complex .f32 0 0, .complex .f32 0 0, .slice none 0 0] [.complex .f32 x0 x1, .complex .f32 y0 y1, .complex .f32 z0 z1, .slice (some ⟨gs, 0, none⟩) k c] [.int .i64 par, .complex .f32 o0 o1, .complex .f32 s0 s1, .int .i64 0, .complex .f32 0 0, .complex .f32 0 0, .complex .f32 0 0, .int .i64 0] gs c k (flat Bs)) := Lib.hid ⟨(k : Int) - 1, 0, 0, 0, 0, j, fun _ => ⟨hpar, rfl, rfl, rfl, rfl⟩, fun h => by omega, by decide, by decide, by decide, by decide, by omega, RB.out⟩
          have Hk0 := Lib.hid hk0
          clear RB hpar hk0
          go_wp2_with fail
          generalize wr.alloc (.cells #[.int .i64 ((k : Int) - 1), .complex .f32 0 0, .complex .f32 0 0, .int .i64 0, .complex .f32 0 0, .complex .f32 0 0, .complex .f32 0 0, .int .i64 0] 89) = w20 at *
        case' inr =>
          have d2 : decide ((0 : Int) < (k : Int)) = true := by simp; omega
          go_wp2_with fail
          refine (one_any _ p a len cap _ RB.out.base.src (by omega) 2 (by omega) (by omega)).mono ?_
          rintro e8 w8 ⟨v8, j9, rfl, hj9, gs8, hg8⟩
          have R8 := Lib.hid (RB.out.call gs8 hg8)
          clear gs8 hg8 RB
          cases v8
          case' false =>
            have U : Hid (∃ (par : Int) (j10 : Nat), 0 ≤ par ∧ par < k ∧ j10 ≤ j + 4 ∧ RdB w w8 p a len cap j10 w.heap.size (w2.heap.size + 1) wr.heap.size [.complex .f32 0 0, .complex .f32 0 0, .complex .f32 0 0, .slice none 0 0] [.complex .f32 x0 x1, .complex .f32 y0 y1, .complex .f32 z0 z1, .slice (some ⟨gs, 0, none⟩) k c] [.int .i64 par, .complex .f32 0 0, .complex .f32 0 0, .int .i64 0, .complex .f32 0 0, .complex .f32 0 0, .complex .f32 0 0, .int .i64 0] gs c k (flat Bs)) := Lib.hid ⟨_, _, by omega, by omega, by omega, R8.out⟩
            clear R8 hj9
            go_wp2_with fail
          case' true =>
            go_wp2_with fail
            refine (pick_any _ p a len cap _ R8.out.base.src (by omega) (k : Int) (by omega) (by omega)).mono ?_
            rintro e9 w9 ⟨v9, j10, rfl, hv90, hv91, hj10, gs9, hg9⟩
            have R9 := Lib.hid (R8.out.call gs9 hg9)
            clear gs9 hg9 R8
            have q0 : w9.cell? ⟨wr.heap.size, 0, none⟩ = some (.int .i64 ((k : Int) - 1)) := R9.out.bus.cell 0 (by simp)
            have f0 := R9.out.bus.frozen 0
            have E0 := Lib.hid (R9.out.set 0 (.int .i64 v9))
            go_wp2_with fail
            clear q0 f0 R9
            generalize w9.setCell ⟨wr.heap.size, 0, none⟩ (.int .i64 v9) = w8 at *
            have U : Hid (∃ (par : Int) (j10 : Nat), 0 ≤ par ∧ par < k ∧ j10 ≤ j + 4 ∧ RdB w w8 p a len cap j10 w.heap.size (w2.heap.size + 1) wr.heap.size [.complex .f32 0 0, .complex .f32 0 0, .complex .f32 0 0, .slice none 0 0] [.complex .f32 x0 x1, .complex .f32 y0 y1, .complex .f32 z0 z1, .slice (some ⟨gs, 0, none⟩) k c] [.int .i64 par, .complex .f32 0 0, .complex .f32 0 0, .int .i64 0, .complex .f32 0 0, .complex .f32 0 0, .complex .f32 0 0, .int .i64 0] gs c k (flat Bs)) := Lib.hid ⟨_, _, hv90, hv91, by omega, E0.out⟩
            clear E0 hj9 hj10 hv90 hv91
          all_goals
            have U2 := U.out
            clear U
            obtain ⟨par, j10, hp0, hp1, hj10, R10⟩ := U2
            refine (pick_any _ p a len cap _ R10.base.src (by omega) 5 (by omega) (by omega)).mono ?_
            rintro e11 w11 ⟨v11, j11, rfl, hv110, hv111, hj11, gs11, hg11⟩
            have R11 := Lib.hid (R10.call gs11 hg11)
            clear gs11 hg11 R10
            go_wp2_with fail
            refine (pick_any _ p a len cap _ (R11.out.base.src.drew _) (by omega) 5 (by omega) (by omega)).mono ?_
            rintro e12 w12 ⟨v12, j12, rfl, hv120, hv121, hj12, gs12, hg12⟩
            have R12 := Lib.hid ((R11.out.drewN _).call gs12 hg12)
            clear gs12 hg12 R11
            have q1 := fun n => (show (w12.drewN n).cell? ⟨wr.heap.size, 1, none⟩ = some (.complex .f32 0 0) from R12.out.bus.cell 1 (by simp))
            have f1 := fun n => (show (w12.drewN n).frozen? ⟨wr.heap.size, 1, none⟩ = false from R12.out.bus.frozen 1)
            go_wp2_with fail
            refine (pick_any _ p a len cap _ ((R12.out.drewN _).set 1 _).base.src (by omega) 3 (by omega) (by omega)).mono ?_
            rintro e13 w13 ⟨v13, j13, rfl, hv130, hv131, hj13, gs13, hg13⟩
            have R13 := Lib.hid (((R12.out.drewN _).set 1 _).call gs13 hg13)
            clear gs13 hg13 R12 q1 f1
            have q2 := fun n => (show (w13.drewN n).cell? ⟨wr.heap.size, 2, none⟩ = some (.complex .f32 0 0) from R13.out.bus.cell 2 (by simp))
            have f2 := fun n => (show (w13.drewN n).frozen? ⟨wr.heap.size, 2, none⟩ = false from R13.out.bus.frozen 2)
            have U2 : Hid (∃ (par : Int) (o0 o1 s0 s1 j20 : Nat), (k = 0 → par = -1 ∧ o0 = 0 ∧ o1 = 0 ∧ s0 = 0 ∧ s1 = 0) ∧ (0 < k → 0 ≤ par ∧ par < k) ∧ o0 < 2 ^ 32 ∧ o1 < 2 ^ 32 ∧ s0 < 2 ^ 32 ∧ s1 < 2 ^ 32 ∧ j20 ≤ j + 20 ∧ RdB w ((w13.drewN (fon .quo .f32 (floatOfInt .f32 v13) 1098907648)).setCell ⟨wr.heap.size, 2, none⟩ (.complex .f32 0 (fov .quo .f32 (floatOfInt .f32 v13) 1098907648 w13))) p a len cap j20 w.heap.size (w2.heap.size + 1) wr.heap.size [.complex .f32 0 0, .complex .f32 0 0, .complex .f32 0 0, .slice none 0 0] [.complex .f32 x0 x1, .complex .f32 y0 y1, .complex .f32 z0 z1, .slice (some ⟨gs, 0, none⟩) k c] [.int .i64 par, .complex .f32 o0 o1, .complex .f32 s0 s1, .int .i64 0, .complex .f32 0 0, .complex .f32 0 0, .complex .f32 0 0, .int .i64 0] gs c k (flat Bs)) := Lib.hid ⟨_, _, _, _, _, _, fun h => by omega, fun _ => ⟨hp0, hp1⟩, fov_lt _ _ _ _ _, fov_lt _ _ _ _ _, by decide, fov_lt .quo .f32 (floatOfInt .f32 v13) 1098907648 w13, by omega, (R13.out.drewN (fon .quo .f32 (floatOfInt .f32 v13) 1098907648)).set 2 (.complex .f32 0 (fov .quo .f32 (floatOfInt .f32 v13) 1098907648 w13))⟩
            clear R13
            go_wp2_with fail
            clear q2 f2 hp0 hp1
            generalize (w13.drewN (fon .quo .f32 (floatOfInt .f32 v13) 1098907648)).setCell ⟨wr.heap.size, 2, none⟩ (.complex .f32 0 (fov .quo .f32 (floatOfInt .f32 v13) 1098907648 w13)) = w20 at *
            have Hk0 := Lib.hid hk0
            clear hk0
        all_goals
          have U2b := U2.out
          clear U2
          obtain ⟨par, o0, o1, s0, s1, j20, hroot, hpar, lo0, lo1, ls0, ls1, hj20, R20⟩ := U2b
          have Hroot := Lib.hid hroot
          have Hpar := Lib.hid hpar
          clear hroot hpar
          refine (pick_any _ p a len cap _ R20.base.src (by omega) 3 (by omega) (by omega)).mono ?_
          rintro e21 w21 ⟨v21, j21, rfl, hv210, hv211, hj21, gs21, hg21⟩
          have R21 := Lib.hid (R20.call gs21 hg21)
          clear gs21 hg21 R20
          have q3 : w21.cell? ⟨wr.heap.size, 3, none⟩ = some (.int .i64 0) := R21.out.bus.cell 3 (by simp)
          have f3 := R21.out.bus.frozen 3
          go_wp2_with fail
          refine (one_any _ p a len cap _ (R21.out.set 3 _).base.src (by omega) 3 (by omega) (by omega)).mono ?_
          rintro e22 w22 ⟨v22, j22, rfl, hj22, gs22, hg22⟩
          have R22 := Lib.hid ((R21.out.set 3 _).call gs22 hg22)
          clear gs22 hg22 R21 q3 f3
          cases v22
          case' true =>
            have U3 : Hid (∃ (a0 a1 b0 b1 d0 d1 j30 : Nat), a0 < 2 ^ 32 ∧ a1 < 2 ^ 32 ∧ b0 < 2 ^ 32 ∧ b1 < 2 ^ 32 ∧ d0 < 2 ^ 32 ∧ d1 < 2 ^ 32 ∧ j30 ≤ j20 + 100 ∧ RdB w w22 p a len cap j30 w.heap.size (w2.heap.size + 1) wr.heap.size [.complex .f32 0 0, .complex .f32 0 0, .complex .f32 0 0, .slice none 0 0] [.complex .f32 x0 x1, .complex .f32 y0 y1, .complex .f32 z0 z1, .slice (some ⟨gs, 0, none⟩) k c] [.int .i64 par, .complex .f32 o0 o1, .complex .f32 s0 s1, .int .i64 v21, .complex .f32 a0 a1, .complex .f32 b0 b1, .complex .f32 d0 d1, .int .i64 0] gs c k (flat Bs)) := Lib.hid ⟨0, 0, 0, 0, 0, 0, _, by decide, by decide, by decide, by decide, by decide, by decide, by omega, R22.out⟩
            clear R22 hj22 hj21
            go_wp2_with fail
          case' false =>
            go_wp2_with fail
            refine (drawPhases_any _ p a len cap _ R22.out.base.src (by omega) 24 (by omega) (by omega)).mono ?_
            rintro e23 w23 ⟨a0, a1, b0, b1, d0, d1, j23, rfl, la0, la1, lb0, lb1, ld0, ld1, hj23, gs23, hg23⟩
            have R23 := Lib.hid (R22.out.call gs23 hg23)
            clear gs23 hg23 R22
            have q4 : w23.cell? ⟨wr.heap.size, 4, none⟩ = some (.complex .f32 0 0) := R23.out.bus.cell 4 (by simp)
            have f4 := R23.out.bus.frozen 4
            have E4 := Lib.hid (R23.out.set 4 (.complex .f32 a0 a1))
            have q5 : (w23.setCell ⟨wr.heap.size, 4, none⟩ (.complex .f32 a0 a1)).cell? ⟨wr.heap.size, 5, none⟩ = some (.complex .f32 0 0) := E4.out.bus.cell 5 (by simp)
            have f5 := E4.out.bus.frozen 5
            have E5 := Lib.hid (E4.out.set 5 (.complex .f32 b0 b1))
            have q6 : ((w23.setCell ⟨wr.heap.size, 4, none⟩ (.complex .f32 a0 a1)).setCell ⟨wr.heap.size, 5, none⟩ (.complex .f32 b0 b1)).cell? ⟨wr.heap.size, 6, none⟩ = some (.complex .f32 0 0) := E5.out.bus.cell 6 (by simp)
            have f6 := E5.out.bus.frozen 6
            have E6 := Lib.hid (E5.out.set 6 (.complex .f32 d0 d1))
            go_wp2_with fail
            clear q4 f4 q5 f5 q6 f6 E4 E5 R23
            generalize ((w23.setCell ⟨wr.heap.size, 4, none⟩ (.complex .f32 a0 a1)).setCell ⟨wr.heap.size, 5, none⟩ (.complex .f32 b0 b1)).setCell ⟨wr.heap.size, 6, none⟩ (.complex .f32 d0 d1) = w22 at *
            have U3 : Hid (∃ (a0 a1 b0 b1 d0 d1 j30 : Nat), a0 < 2 ^ 32 ∧ a1 < 2 ^ 32 ∧ b0 < 2 ^ 32 ∧ b1 < 2 ^ 32 ∧ d0 < 2 ^ 32 ∧ d1 < 2 ^ 32 ∧ j30 ≤ j20 + 100 ∧ RdB w w22 p a len cap j30 w.heap.size (w2.heap.size + 1) wr.heap.size [.complex .f32 0 0, .complex .f32 0 0, .complex .f32 0 0, .slice none 0 0] [.complex .f32 x0 x1, .complex .f32 y0 y1, .complex .f32 z0 z1, .slice (some ⟨gs, 0, none⟩) k c] [.int .i64 par, .complex .f32 o0 o1, .complex .f32 s0 s1, .int .i64 v21, .complex .f32 a0 a1, .complex .f32 b0 b1, .complex .f32 d0 d1, .int .i64 0] gs c k (flat Bs)) := Lib.hid ⟨_, _, _, _, _, _, _, la0, la1, lb0, lb1, ld0, ld1, by omega, E6.out⟩
            clear E6 hj23 hj22 hj21 la0 la1 lb0 lb1 ld0 ld1
          all_goals
            have U3b := U3.out
            clear U3
            obtain ⟨a0, a1, b0, b1, d0, d1, j30, la0, la1, lb0, lb1, ld0, ld1, hj30, R30⟩ := U3b
            refine (pick_any _ p a len cap _ R30.base.src (by omega) 30 (by omega) (by omega)).mono ?_
            rintro e24 w24 ⟨v24, j24, rfl, hv240, hv241, hj24, gs24, hg24⟩
            have R24 := Lib.hid (R30.call gs24 hg24)
            clear gs24 hg24 R30
            have q7 : w24.cell? ⟨wr.heap.size, 7, none⟩ = some (.int .i64 0) := R24.out.bus.cell 7 (by simp)
            have f7 := R24.out.bus.frozen 7
            have E7 := Lib.hid (R24.out.set 7 (.int .i64 v24))
            have hsz7 : (w24.setCell ⟨wr.heap.size, 7, none⟩ (.int .i64 v24)).heap.size = w24.heap.size := by simp
            have p0 : (w24.setCell ⟨wr.heap.size, 7, none⟩ (.int .i64 v24)).cell? ⟨wr.heap.size, 0, none⟩ = some (.int .i64 par) := E7.out.bus.cell 0 (by simp)
            have p1 : (w24.setCell ⟨wr.heap.size, 7, none⟩ (.int .i64 v24)).cell? ⟨wr.heap.size, 1, none⟩ = some (.complex .f32 o0 o1) := E7.out.bus.cell 1 (by simp)
            have p2 : (w24.setCell ⟨wr.heap.size, 7, none⟩ (.int .i64 v24)).cell? ⟨wr.heap.size, 2, none⟩ = some (.complex .f32 s0 s1) := E7.out.bus.cell 2 (by simp)
            have p3 : (w24.setCell ⟨wr.heap.size, 7, none⟩ (.int .i64 v24)).cell? ⟨wr.heap.size, 3, none⟩ = some (.int .i64 v21) := E7.out.bus.cell 3 (by simp)
            have p4 : (w24.setCell ⟨wr.heap.size, 7, none⟩ (.int .i64 v24)).cell? ⟨wr.heap.size, 4, none⟩ = some (.complex .f32 a0 a1) := E7.out.bus.cell 4 (by simp)
            have p5 : (w24.setCell ⟨wr.heap.size, 7, none⟩ (.int .i64 v24)).cell? ⟨wr.heap.size, 5, none⟩ = some (.complex .f32 b0 b1) := E7.out.bus.cell 5 (by simp)
            have p6 : (w24.setCell ⟨wr.heap.size, 7, none⟩ (.int .i64 v24)).cell? ⟨wr.heap.size, 6, none⟩ = some (.complex .f32 d0 d1) := E7.out.bus.cell 6 (by simp)
            have p7 : (w24.setCell ⟨wr.heap.size, 7, none⟩ (.int .i64 v24)).cell? ⟨wr.heap.size, 7, none⟩ = some (.int .i64 v24) := E7.out.bus.cell 7 (by simp)
            have p8 : (w24.setCell ⟨wr.heap.size, 7, none⟩ (.int .i64 v24)).cell? ⟨w2.heap.size + 1, 3, none⟩ = some (.slice (some ⟨gs, 0, none⟩) k c) := E7.out.base.out.cell 3 (by simp)
            have hnews : ∀ jj u, (BusV.vals ⟨par, o0, o1, s0, s1, v21, a0, a1, b0, b1, d0, d1, v24⟩)[jj]? = some u → ((w24.setCell ⟨wr.heap.size, 7, none⟩ (.int .i64 v24)).alloc (.cells #[.int .i64 par, .complex .f32 o0 o1, .complex .f32 s0 s1, .int .i64 v21, .complex .f32 a0 a1, .complex .f32 b0 b1, .complex .f32 d0 d1, .int .i64 v24] 89)).cell? ((⟨w24.heap.size, 0, none⟩ : Addr).add jj) = some u := by
              have h := (RL.new (w24.setCell ⟨wr.heap.size, 7, none⟩ (.int .i64 v24)) (BusV.vals ⟨par, o0, o1, s0, s1, v21, a0, a1, b0, b1, d0, d1, v24⟩) 89).news
              rw [hsz7] at h
              exact h
            have Hn := Lib.hid hnews
            have Hsz := Lib.hid hsz7
            clear hnews hsz7 R24
            have hbl : wr.heap.size < w24.heap.size := by have := E7.out.bus.lt; rw [Hsz.out] at this; exact this
            go_wp2_with (at_builtin; refine wpList_append_own _ rfl (.tmp 70) (.tmp 72) 38 rfl (w.heap.size + 1) 89 i0 _ 8 64 Try.underlying38 hz hz0 hz1 hz2 rfl (by decide) (.slice (some ⟨gs, 0, none⟩) k c) k _ rfl (E7.out.base.own.alloc _) ⟨w24.heap.size, 0, none⟩ 1 1 (BusV.vals ⟨par, o0, o1, s0, s1, v21, a0, a1, b0, b1, d0, d1, v24⟩) rfl rfl Hn.out (one_vals _) (by unfold maxLen; omega) (by omega) (by simp; omega) ?_; intro v' w25 hown' hgrow hnil; obtain ⟨g', c', rfl⟩ := own_form hown'; have E8 := Lib.hid (E7.out.base.appended _ hgrow hown'); have p9 : w25.cell? ⟨w2.heap.size + 1, 3, none⟩ = some (.slice (some ⟨gs, 0, none⟩) k c) := E8.out.out.cell 3 (by simp); have f9 := E8.out.out.frozen 3; have E9 := Lib.hid (E8.out.setOut 3 (.slice (some ⟨g', 0, none⟩) (k + 1) c')); clear hown' hgrow hnil E8)
            go_roundw
            case rel =>
              refine ⟨k + 1, j24, g', c', Bs ++ [⟨par, o0, o1, s0, s1, v21, a0, a1, b0, b1, d0, d1, v24⟩], by go_num, by omega, by omega, by simp [hlen], Lib.hid ?_, Lib.hid ?_⟩
              · intro i h
                by_cases hi : i < Bs.length
                · rw [List.getElem_append_left hi]; exact HG.out i hi
                · have hi2 : i = Bs.length := by simp at h; omega
                  subst hi2
                  rw [List.getElem_append_right (Nat.le_refl _)]
                  simp only [Nat.sub_self, List.getElem_cons_zero]
                  rw [hlen]
                  exact ⟨Hroot.out, Hpar.out, ⟨hv210, (show v21 ≤ 2 by omega)⟩, ⟨hv240, (show v24 ≤ 1000000 by omega)⟩, ⟨lo0, lo1, ls0, ls1⟩, ⟨la0, la1, lb0, lb1, ld0, ld1⟩⟩
              · rw [flat_snoc]
                exact E9.out
            case measure => simp [intOf]; omega
      · obtain rfl : k = n + 1 := by omega
        have d1 : decide (((n + 1 : Nat) : Int) < 1 + (n : Int)) = false := by simp; omega
        have D : Hid (Rd0 w wr p a len cap j w.heap.size (w2.heap.size + 1) [.complex .f32 0 0, .complex .f32 0 0, .complex .f32 0 0, .slice none 0 0] [.complex .f32 x0 x1, .complex .f32 y0 y1, .complex .f32 z0 z1, .slice (some ⟨gs, 0, none⟩) (n + 1) c] gs c (n + 1) (flat Bs)) := D
        have o0 : wr.cell? ⟨w2.heap.size + 1, 0, none⟩ = some (.complex .f32 x0 x1) := D.out.out.cell 0 (by simp)
        have o1 : wr.cell? ⟨w2.heap.size + 1, 1, none⟩ = some (.complex .f32 y0 y1) := D.out.out.cell 1 (by simp)
        have o2 : wr.cell? ⟨w2.heap.size + 1, 2, none⟩ = some (.complex .f32 z0 z1) := D.out.out.cell 2 (by simp)
        have o3 : wr.cell? ⟨w2.heap.size + 1, 3, none⟩ = some (.slice (some ⟨gs, 0, none⟩) (n + 1) c) := D.out.out.cell 3 (by simp)
        have T0 := Lib.hid D.out
        have t0 : wr.cell? ⟨w.heap.size, 0, none⟩ = some (.complex .f32 0 0) := T0.out.res.cell 0 (by simp)
        have g0 := T0.out.res.frozen 0
        have T1 := Lib.hid (T0.out.setRes 0 (.complex .f32 x0 x1))
        have t1 : (wr.setCell ⟨w.heap.size, 0, none⟩ (.complex .f32 x0 x1)).cell? ⟨w.heap.size, 1, none⟩ = some (.complex .f32 0 0) := T1.out.res.cell 1 (by simp)
        have g1 := T1.out.res.frozen 1
        have T2 := Lib.hid (T1.out.setRes 1 (.complex .f32 y0 y1))
        have t2 : ((wr.setCell ⟨w.heap.size, 0, none⟩ (.complex .f32 x0 x1)).setCell ⟨w.heap.size, 1, none⟩ (.complex .f32 y0 y1)).cell? ⟨w.heap.size, 2, none⟩ = some (.complex .f32 0 0) := T2.out.res.cell 2 (by simp)
        have g2 := T2.out.res.frozen 2
        have T3 := Lib.hid (T2.out.setRes 2 (.complex .f32 z0 z1))
        have t3 : (((wr.setCell ⟨w.heap.size, 0, none⟩ (.complex .f32 x0 x1)).setCell ⟨w.heap.size, 1, none⟩ (.complex .f32 y0 y1)).setCell ⟨w.heap.size, 2, none⟩ (.complex .f32 z0 z1)).cell? ⟨w.heap.size, 3, none⟩ = some (.slice none 0 0) := T3.out.res.cell 3 (by simp)
        have g3 := T3.out.res.frozen 3
        have T4 := Lib.hid (T3.out.setRes 3 (.slice (some ⟨gs, 0, none⟩) (n + 1) c))
        have v0 : ((((wr.setCell ⟨w.heap.size, 0, none⟩ (.complex .f32 x0 x1)).setCell ⟨w.heap.size, 1, none⟩ (.complex .f32 y0 y1)).setCell ⟨w.heap.size, 2, none⟩ (.complex .f32 z0 z1)).setCell ⟨w.heap.size, 3, none⟩ (.slice (some ⟨gs, 0, none⟩) (n + 1) c)).cell? ⟨w.heap.size, 0, none⟩ = some (.complex .f32 x0 x1) := T4.out.res.cell 0 (by simp)
        have v1 : ((((wr.setCell ⟨w.heap.size, 0, none⟩ (.complex .f32 x0 x1)).setCell ⟨w.heap.size, 1, none⟩ (.complex .f32 y0 y1)).setCell ⟨w.heap.size, 2, none⟩ (.complex .f32 z0 z1)).setCell ⟨w.heap.size, 3, none⟩ (.slice (some ⟨gs, 0, none⟩) (n + 1) c)).cell? ⟨w.heap.size, 1, none⟩ = some (.complex .f32 y0 y1) := T4.out.res.cell 1 (by simp)
        have v2 : ((((wr.setCell ⟨w.heap.size, 0, none⟩ (.complex .f32 x0 x1)).setCell ⟨w.heap.size, 1, none⟩ (.complex .f32 y0 y1)).setCell ⟨w.heap.size, 2, none⟩ (.complex .f32 z0 z1)).setCell ⟨w.heap.size, 3, none⟩ (.slice (some ⟨gs, 0, none⟩) (n + 1) c)).cell? ⟨w.heap.size, 2, none⟩ = some (.complex .f32 z0 z1) := T4.out.res.cell 2 (by simp)
        have v3 : ((((wr.setCell ⟨w.heap.size, 0, none⟩ (.complex .f32 x0 x1)).setCell ⟨w.heap.size, 1, none⟩ (.complex .f32 y0 y1)).setCell ⟨w.heap.size, 2, none⟩ (.complex .f32 z0 z1)).setCell ⟨w.heap.size, 3, none⟩ (.slice (some ⟨gs, 0, none⟩) (n + 1) c)).cell? ⟨w.heap.size, 3, none⟩ = some (.slice (some ⟨gs, 0, none⟩) (n + 1) c) := T4.out.res.cell 3 (by simp)
        go_wp2_with fail
        try simp only [Exit.inBlock, Exit.then]
        refine bodyPost_ret (by simp [results, Try.results94, go_sem, v0, v1, v2, v3]; try rfl) rfl ?_
        exact ⟨x0, x1, y0, y1, z0, z1, gs, c, n + 1, Bs, rfl, lx0, lx1, ly0, ly1, lz0, lz1, by omega, by omega, hlen, HG.out, T4.out.own, T4.out.below⟩
end Go.Proofs.Ytbcjgjdkapdihaa
