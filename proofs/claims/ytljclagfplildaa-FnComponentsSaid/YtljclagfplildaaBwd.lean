/-
  slices.Backward over buses: what it hands to a loop's body. No theorem of a claim stands here.
-/
import Derived.RangeFuncNested
import Derived.RangeFuncBound
import Derived.RangeFuncCalls
import Derived.RangeFuncLeaves
import Derived.RangeFuncBox
import Derived.Shelf.Abstract
import Derived.Shelf.RegionOpen
import Derived.WalkKit
import Derived.OwnWalk
import Derived.OwnWalkIn
import Derived.TacticsInMore
import Derived.LoopNIn
import Derived.LoopIn
import Derived.Test.YtljclagfplildaaRowL
set_option linter.unusedVariables false
namespace Go.Proofs.Ytljclagfplildaa
open Go Go.RowKit Go.Shelf

attribute [local go_sem] Oper.semAt_some

/-- What has come when k rounds are over. -/
def upto {α : Type} (f : Nat → α) (k : Nat) : List α := (List.range k).map f
theorem upto_succ {α : Type} (f : Nat → α) (k : Nat) : upto f (k + 1) = upto f k ++ [f k] := by simp [upto, List.range_succ]
theorem upto_length {α : Type} (f : Nat → α) (k : Nat) : (upto f k).length = k := by simp [upto]

/-- An index and the bus there. -/
abbrev IB (n : Nat) := { x : Nat × BusV // x.1 < n ∧ Good x.1 x.2 }
def BusV.agg (B : BusV) : Value := .agg #[.int .i64 B.par, .complex .f32 B.o0 B.o1, .complex .f32 B.s0 B.s1, .int .i64 B.kind, .complex .f32 B.a0 B.a1, .complex .f32 B.b0 B.b1, .complex .f32 B.c0 B.c1, .int .i64 B.cust]
def encB {n : Nat} (x : IB n) : Array Value := #[.int .i64 (x.1.1 : Int), .agg #[.int .i64 x.1.2.par, .complex .f32 x.1.2.o0 x.1.2.o1, .complex .f32 x.1.2.s0 x.1.2.s1, .int .i64 x.1.2.kind, .complex .f32 x.1.2.a0 x.1.2.a1, .complex .f32 x.1.2.b0 x.1.2.b1, .complex .f32 x.1.2.c0 x.1.2.c1, .int .i64 x.1.2.cust]]
/-- The buses of a row, at the addresses behind its first one. -/
def BusRd (w : World) (b : Nat) (Bs : List BusV) : Prop := b < w.heap.size ∧ ∀ k (h : k < Bs.length), ∀ q, q < 8 → w.cell? ⟨b, k * 8 + q, none⟩ = some ((Bs[k]).vals.getD q (.bool false))
theorem BusRd.below {w w' : World} {b B : Nat} {Bs : List BusV} (h : BusRd w b Bs) (hb : Below B w w') (hB : b < B) : BusRd w' b Bs :=
  ⟨Nat.lt_of_lt_of_le h.1 hb.size, fun k hk q hq => (hb.cell (p := ⟨b, k * 8 + q, none⟩) hB).trans (h.2 k hk q hq)⟩
theorem busRd_of {w : World} {base n c g : Nat} {Bs : List BusV} (h : w.ownsRow base 77 8 (.slice (some ⟨g, 0, none⟩) n c) n (flat Bs)) (hn : Bs.length = n) : BusRd w g Bs := by
  refine ⟨(own_lt h).2.1, fun k hk q hq => ?_⟩
  rw [h.cellAt (k * 8 + q) (by omega), flat_get Bs k q hk hq]
  have h8 : (Bs[k]).vals.length = 8 := rfl
  simp [List.getD, h8, hq]

/-- What a round keeps: what lay below n₀, and the block Bx. -/
def KB (n₀ Bx : Nat) (W W' : World) : Prop := Below n₀ W W' ∧ W'.heap[Bx]? = W.heap[Bx]?
theorem KB.refl (n₀ Bx : Nat) (W : World) : KB n₀ Bx W W := ⟨Below.refl _ _, rfl⟩
theorem KB.trans {n₀ Bx : Nat} {A B C : World} (h : KB n₀ Bx A B) (k : KB n₀ Bx B C) : KB n₀ Bx A C := ⟨h.1.trans k.1, k.2.trans h.2⟩
set_option maxRecDepth 100000 in
set_option maxHeartbeats 2000000 in
theorem bwd1_in (F : Fence) (n : Nat) (h8 : F.fn 226) (hro : F.round = none) (hn : 1 ≤ n) (l Bx n₀ b len cap : Nat) (g : Nat → IB len) (hg : ∀ j, j < len → (g j).1.1 + j + 1 = len) (hreach : len ≤ 1000) (hcap : len ≤ cap) (hb : b < n₀) (J Jx : List (IB len) → World → Prop)
    (hY : ∀ pre x W, J pre W → pre.length < len → YieldAt F (n - 1) Try.prog l (encB x) W fun e W' =>
      (e = .returned (.bool true) ∧ J (pre ++ [x]) W' ∧ KB n₀ Bx W W') ∨ (e = .returned (.bool false) ∧ Jx (pre ++ [x]) W'))
    (W : World) (hBs : W.cell? ⟨Bx, 0, none⟩ = some (.slice (some ⟨b, 0, none⟩) len cap)) (hc : ∀ j, j < len → ∀ q, q < 8 → W.cell? ⟨b, (g j).1.1 * 8 + q, none⟩ = some ((g j).1.2.vals.getD q (.bool false))) (h0 : J [] W) :
    CallsIn F n Try.prog 226 #[.func (.yield l) #[] #[], .pointer (some ⟨Bx, 0, none⟩)] W fun e W' => (∃ v, e = .returned v) ∧
      ((∃ ys, ys = upto g len ∧ J ys W') ∨ (∃ pre, (∃ k, k ≤ len ∧ pre = upto g k) ∧ Jx pre W')) := by
  refine callsIn_of_wp Try.func226 rfl h8 ?_ hro
  simp only [Try.ntmps226, List.size_toArray, List.length_cons, List.length_nil, Nat.reduceAdd, Nat.reduceSub, Array.replicate_succ, Array.replicate_zero, List.push_toArray, List.append_toArray, List.nil_append, List.cons_append]
  gi_wp2
  gi_loopw [3] (fun i wr => ∃ k : Nat, k ≤ len ∧ i = .int .i64 ((len : Int) - 1 - k) ∧ J (upto g k) wr ∧ KB n₀ Bx W wr)
    (fun i _ => ((intOf i) + 1).toNat)
  case atStart => exact ⟨0, Nat.zero_le _, by simp, h0, KB.refl _ _ _⟩
  case round =>
    obtain ⟨k, hk, rfl, hJs, hnx⟩ := hrel
    have hbx : wr.cell? ⟨Bx, 0, none⟩ = some (.slice (some ⟨b, 0, none⟩) len cap) := (World.cell?_of_block (w := W) (a := ⟨Bx, 0, none⟩) hnx.2).trans hBs
    by_cases hlt : k < len
    · have hgk := hg k hlt
      have hcw : ∀ q, q < 8 → wr.cell? ⟨b, (g k).1.1 * 8 + q, none⟩ = some ((g k).1.2.vals.getD q (.bool false)) := fun q hq => (hnx.1.cell (p := ⟨b, (g k).1.1 * 8 + q, none⟩) hb).trans (hc k hlt q hq)
      have hJ1 := fun W' (h : J (upto g k ++ [g k]) W') => (by rw [upto_succ]; exact h : J (upto g (k + 1)) W')
      have hJ2 : ∀ W', Jx (upto g k ++ [g k]) W' → Jx (upto g (k + 1)) W' := fun W' h => by rw [upto_succ]; exact h
      obtain ⟨fn, tmps, assign, body, hy, hR⟩ := hY _ (g k) wr hJs (by rw [upto_length]; exact hlt)
      unfold encB at hy
      generalize hm : (g k).1.1 = m at *
      generalize (g k).1.2 = B at *
      have hi : (len : Int) - 1 - (k : Int) = (m : Int) := by omega
      rw [hi]
      have c0 : wr.cell? ⟨b, m * 8, none⟩ = some (.int .i64 B.par) := hcw 0 (by omega)
      have c1 : wr.cell? ⟨b, m * 8 + 1, none⟩ = some (.complex .f32 B.o0 B.o1) := hcw 1 (by omega)
      have c2 : wr.cell? ⟨b, m * 8 + 2, none⟩ = some (.complex .f32 B.s0 B.s1) := hcw 2 (by omega)
      have c3 : wr.cell? ⟨b, m * 8 + 3, none⟩ = some (.int .i64 B.kind) := hcw 3 (by omega)
      have c4 : wr.cell? ⟨b, m * 8 + 4, none⟩ = some (.complex .f32 B.a0 B.a1) := hcw 4 (by omega)
      have c5 : wr.cell? ⟨b, m * 8 + 5, none⟩ = some (.complex .f32 B.b0 B.b1) := hcw 5 (by omega)
      have c6 : wr.cell? ⟨b, m * 8 + 6, none⟩ = some (.complex .f32 B.c0 B.c1) := hcw 6 (by omega)
      have c7 : wr.cell? ⟨b, m * 8 + 7, none⟩ = some (.int .i64 B.cust) := hcw 7 (by omega)
      have d1 : decide ((0 : Int) ≤ (m : Int)) = true := by simp
      have hml : m < len := by omega
      clear hcw
      gi_wp2
      refine hR.mono ?_
      rintro e W3 (⟨rfl, hJ3, hk3⟩ | ⟨rfl, hJx3⟩)
      · gi_wp2
        go_roundw
        case rel => exact ⟨k + 1, by omega, by congr 1; omega, hJ1 _ hJ3, hnx.trans hk3⟩
        case measure => simp [intOf]
      · gi_wp2
        refine bodyPost_ret (results_none rfl _ _ _) rfl ?_
        exact ⟨⟨_, rfl⟩, .inr ⟨_, ⟨k + 1, by omega, rfl⟩, hJ2 _ hJx3⟩⟩
    · obtain rfl : k = len := by omega
      have hi : (k : Int) - 1 - (k : Int) = -1 := by omega
      rw [hi]
      gi_wp2
      go_end0
      exact ⟨⟨_, rfl⟩, .inl ⟨_, rfl, hJs⟩⟩

set_option maxHeartbeats 1000000 in
theorem bwd_in (F : Fence) (n : Nat) (h6 : F.fn 217) (hro : F.round = none) (a : Option Addr) (len cap : Nat) (w : World) :
    CallsIn F n Try.prog 217 #[.slice a len cap] w fun e w' => e = .returned (.func (.func 226) #[] #[.pointer (some ⟨w.heap.size, 0, none⟩)]) ∧ w' = w.alloc (.cells #[.slice a len cap] 38) := by
  refine callsIn_of_wp Try.func217 rfl h6 ?_ hro
  simp only [Try.ntmps217, List.size_toArray, List.length_cons, List.length_nil, Nat.reduceAdd, Nat.reduceSub, Array.replicate_succ, Array.replicate_zero, List.push_toArray, List.append_toArray, List.nil_append, List.cons_append]
  gi_wp2
  go_ret
  exact ⟨rfl, rfl⟩

/-- The index and the bus that come in round j, of buses that are good ones. -/
def gB (Bs : List BusV) (hG : ∀ i (h : i < Bs.length), Good i Bs[i]) (h1 : 0 < Bs.length) (j : Nat) : IB Bs.length :=
  if h : j < Bs.length then ⟨(Bs.length - 1 - j, Bs[Bs.length - 1 - j]), by dsimp; omega, hG _ _⟩ else ⟨(0, Bs[0]), h1, hG _ _⟩
theorem gB_at {Bs : List BusV} {hG : ∀ i (h : i < Bs.length), Good i Bs[i]} {h1 : 0 < Bs.length} {j : Nat} (h : j < Bs.length) : (gB Bs hG h1 j).1 = (Bs.length - 1 - j, Bs[Bs.length - 1 - j]) := by
  unfold gB; rw [dif_pos h]

theorem bwd_stops (F : Fence) (n : Nat) (h8 : F.fn 226) (hro : F.round = none) (hn : 1 ≤ n) (Bx n₀ b cap : Nat) (Bs : List BusV) (hG : ∀ i (h : i < Bs.length), Good i Bs[i]) (h1 : 0 < Bs.length) (hreach : Bs.length ≤ 1000) (hcap : Bs.length ≤ cap) (w : World) (hBx : Bx < w.heap.size) (hn₀ : n₀ ≤ w.heap.size) (hb : b < n₀)
    (hc : w.cell? ⟨Bx, 0, none⟩ = some (.slice (some ⟨b, 0, none⟩) Bs.length cap)) (hI : BusRd w b Bs) :
    SeqStopsK F n Try.prog 226 #[.pointer (some ⟨Bx, 0, none⟩)] (encB (n := Bs.length)) (KB n₀ Bx) (fun ys => ys = upto (gB Bs hG h1) Bs.length)
      (fun pre => ∃ k, k ≤ Bs.length ∧ pre = upto (gB Bs hG h1) k) Bs.length w := fun l J Jx W hW _ _ hY h0 => by
  have hW' := hW.mono hn₀
  refine bwd1_in F n h8 hro hn l Bx n₀ b Bs.length cap (gB Bs hG h1) (fun j hj => ?_) hreach hcap hb J Jx hY W ((hW.cell (p := ⟨Bx, 0, none⟩) hBx).trans hc) (fun j hj q hq => ?_) h0
  · rw [gB_at hj]; dsimp only; omega
  · rw [gB_at hj]
    exact (hI.below hW' hb).2 _ _ q hq
end Go.Proofs.Ytljclagfplildaa
