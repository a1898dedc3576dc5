/-
  The source of the draws: numbers out of bytes. No theorem of a claim stands here.
-/
import Derived.Test.YthkjikennlaelaaRows
import Derived.WalkKit
import Derived.ProofKit
import Derived.OpenShut
import Derived.Below
import Derived.Outline
import Derived.OwnWalk
import Derived.Deep.OwnRows
import Derived.Deep.Draws
import Derived.Deep.Slices
import Derived.Deep.QuietTactic
import Derived.Laws.AppendOwn
import Derived.Lib.Hide
set_option linter.unusedVariables false
namespace Go.Proofs.Ythkjikennlaelaa
open Go Go.RowKit Go.Deep

def srcF (c : Value) (i s : Int) : Nat → Value := fun j => if j = 0 then c else if j = 1 then .int .i64 i else .int .u64 s

/-- The slice (a, len, cap) reads as bytes, all of them below the block p. -/
def BRd (p : Nat) (w : World) (a : Option Addr) (len cap : Nat) : Prop :=
  len ≤ cap ∧ cap ≤ maxLen ∧ len ≤ 1048576 ∧ ∀ k, k < len → ∃ b o v, a = some ⟨b, o, none⟩ ∧ b < p ∧ 0 ≤ v ∧ v ≤ 255 ∧ w.cell? ⟨b, o + k, none⟩ = some (.int .u8 v)

/-- Block p is a source over the bytes, which has given i numbers. -/
def Src (w : World) (p : Nat) (a : Option Addr) (len cap : Nat) (i : Nat) : Prop :=
  BRd p w a len cap ∧ ∃ s : Int, 0 ≤ s ∧ s < 18446744073709551616 ∧ w.rowIs p 94 3 (srcF (.slice a len cap) i s)

theorem BRd.keep {p : Nat} {w w' : World} {a : Option Addr} {len cap : Nat} (h : BRd p w a len cap) (hp : p ≤ w.heap.size) {r : Option Nat} (hg : w.grownBy w' r) (hr : ∀ k, r = some k → p ≤ k) : BRd p w' a len cap := by
  obtain ⟨h1, h2, h3, h4⟩ := h
  refine ⟨h1, h2, h3, fun k hk => ?_⟩
  obtain ⟨b, o, v, e, hb, hv0, hv1, hc⟩ := h4 k hk
  exact ⟨b, o, v, e, hb, hv0, hv1, hg.cell hc (fun e2 => by have := hr b e2.symm; omega)⟩
theorem Src.lt {w : World} {p : Nat} {a : Option Addr} {len cap i : Nat} (h : Src w p a len cap i) : p < w.heap.size := by
  obtain ⟨_, s, _, _, hr⟩ := h
  exact hr.lt
/-- A source stays what it is while another row is written. -/
theorem Src.keep {w w' : World} {p : Nat} {a : Option Addr} {len cap i : Nat} (h : Src w p a len cap i) {r : Option Nat} (hg : w.grownBy w' r) (hr : ∀ k, r = some k → p < k) : Src w' p a len cap i := by
  have hl := h.lt
  obtain ⟨hb, s, h0, h1, hro⟩ := h
  exact ⟨hb.keep (Nat.le_of_lt hl) hg (fun k e => Nat.le_of_lt (hr k e)), s, h0, h1, hro.of_block (hg.block p hl (fun e => by have := hr p e.symm; omega))⟩

theorem gset {w w' : World} {p : Nat} (h : w.grownBy w' (some p)) (i : Nat) (v : Value) : w.grownBy (w'.setCell ⟨p, i, none⟩ v) (some p) :=
  ⟨h.os, h.tape, h.output, by have := h.size; simpa using this, fun k hk hne => (Below.heap_setCell _ _ _ _ (fun e => hne (by rw [e]))).trans (h.block k hk hne)⟩
theorem gdrew {w w' : World} {r : Option Nat} (h : w.grownBy w' r) (n : Nat) : w.grownBy (w'.drewN n) r := ⟨h.os, h.tape, h.output, h.size, h.block⟩
theorem gtrans {a w w' : World} {r : Option Nat} (h : a.grownBy w r) (k : w.grownBy w' r) : a.grownBy w' r :=
  ⟨k.os.trans h.os, k.tape.trans h.tape, k.output.trans h.output, Nat.le_trans h.size k.size, fun j hj hne => (k.block j (Nat.lt_of_lt_of_le hj h.size) hne).trans (h.block j hj hne)⟩

theorem src_row {w : World} {p : Nat} {f : Nat → Value} {c : Value} {i s : Int} (h : w.rowIs p 94 3 f) (h0 : f 0 = c) (h1 : f 1 = .int .i64 i) (h2 : f 2 = .int .u64 s) : w.rowIs p 94 3 (srcF c i s) :=
  h.congr fun j hj => by
    match j, hj with
    | 0, _ => exact h0
    | 1, _ => exact h1
    | 2, _ => exact h2

theorem wrap64 (x : Int) : 0 ≤ IntKind.u64.wrap x ∧ IntKind.u64.wrap x < 18446744073709551616 := by
  simp [IntKind.wrap, IntKind.bits, IntKind.signed]; omega

theorem low8 (x : Int) (h0 : 0 ≤ x) (h1 : x < 18446744073709551616) : 0 ≤ RowKit.wrap64 (bits BinOp.and .u64 x 255) ∧ RowKit.wrap64 (bits BinOp.and .u64 x 255) ≤ 255 := by
  obtain ⟨n, rfl⟩ := Int.eq_ofNat_of_zero_le h0
  have e : n &&& 255 = n % 256 := Nat.and_two_pow_sub_one_eq_mod n 8
  have h := u64_and_nat n 255 (by omega) (by omega)
  rw [e] at h
  rw [show bits BinOp.and .u64 (n : Int) 255 = _ from h]
  unfold RowKit.wrap64
  omega

set_option maxHeartbeats 2000000 in
theorem next_any (w : World) (p : Nat) (a : Option Addr) (len cap i : Nat) (hs : Src w p a len cap i) (hi : i ≤ 1099511627776) :
    Calls Try.prog 74 #[.pointer (some ⟨p, 0, none⟩)] w fun e w' => ∃ v : Int, e = .returned (.int .i64 v) ∧ 0 ≤ v ∧ v ≤ 255 ∧ Src w' p a len cap (i + 1) ∧ w.grownBy w' (some p) := by
  obtain ⟨hb, s, hs0, hs1, hr⟩ := hs
  have c0 : w.cell? ⟨p, 0, none⟩ = some (.slice a len cap) := hr.cell (i := 0) (by omega)
  have c1 : w.cell? ⟨p, 1, none⟩ = some (.int .i64 i) := hr.cell (i := 1) (by omega)
  have c2 : w.cell? ⟨p, 2, none⟩ = some (.int .u64 s) := hr.cell (i := 2) (by omega)
  have f1 := hr.frozen 1
  have f2 := hr.frozen 2
  have hq := fun x => (hr.set 1 (.int .i64 (i + 1))).set 2 x
  have Hq := Lib.hid hq
  have e0 : ∀ x, ((w.setCell ⟨p, 1, none⟩ (.int .i64 (i + 1))).setCell ⟨p, 2, none⟩ x).cell? ⟨p, 0, none⟩ = some (.slice a len cap) := fun x => (hq x).cell (i := 0) (by omega)
  have e1 : ∀ x, ((w.setCell ⟨p, 1, none⟩ (.int .i64 (i + 1))).setCell ⟨p, 2, none⟩ x).cell? ⟨p, 1, none⟩ = some (.int .i64 (i + 1)) := fun x => (hq x).cell (i := 1) (by omega)
  have e2 : ∀ x, ((w.setCell ⟨p, 1, none⟩ (.int .i64 (i + 1))).setCell ⟨p, 2, none⟩ x).cell? ⟨p, 2, none⟩ = some x := fun x => (hq x).cell (i := 2) (by omega)
  have Hb := Lib.hid hb
  have hcap := hb.1
  have Hend : ∀ (x v : Int) (w3 : World), 0 ≤ x ∧ x < 18446744073709551616 → 0 ≤ v → v ≤ 255 → ((w.setCell ⟨p, 1, none⟩ (.int .i64 (i + 1))).setCell ⟨p, 2, none⟩ (.int .u64 x)).grownBy w3 none → ∃ v2 : Int, Ending.returned (.int .i64 v) = .returned (.int .i64 v2) ∧ 0 ≤ v2 ∧ v2 ≤ 255 ∧
      Src w3 p a len cap (i + 1) ∧ w.grownBy w3 (some p) := by
    intro x v w3 hx h0 h1 h3
    have hr3 := (hq (.int .u64 x)).of_block (h3.block p (hq (.int .u64 x)).lt (by simp))
    have hg : w.grownBy w3 (some p) := gtrans (gset (gset (World.grownBy.refl w (some p)) 1 (.int .i64 (i + 1))) 2 (.int .u64 x)) ⟨h3.os, h3.tape, h3.output, h3.size, fun k hk _ => h3.block k hk (by simp)⟩
    refine ⟨v, rfl, h0, h1, ⟨Hb.out.keep (Nat.le_of_lt hr.lt) hg (fun k e => by cases e; exact Nat.le_refl _), x, hx.1, hx.2, ?_⟩, hg⟩
    exact src_row hr3 rfl (by show Value.int .i64 ((i : Int) + 1) = _; simp) rfl
  clear hb hr hq
  by_cases hlt : i < len
  · obtain ⟨b, o, v, rfl, hbp, hv0, hv1, hc⟩ := Hb.out.2.2.2 i hlt
    have d1 : decide ((i : Int) < (len : Int)) = true := by simp; omega
    have d2 : decide ((i : Int) + 1 ≤ (len : Int)) = true := by simp; omega
    go_enter Try.func74, Try.ntmps74
    go_wp2
    go_region
    all_goals go_wp2
    all_goals go_region
    all_goals go_wp2
    all_goals go_region
    all_goals go_wp2
    all_goals go_ret
    all_goals exact Hend _ v _ (wrap64 _) hv0 hv1 ⟨rfl, rfl, rfl, Nat.le_refl _, fun _ _ _ => rfl⟩
  · have d1 : decide ((i : Int) < (len : Int)) = false := by simp; omega
    have d2 : decide ((i : Int) + 1 ≤ (len : Int)) = false := by simp; omega
    go_enter Try.func74, Try.ntmps74
    go_wp2
    go_region
    all_goals go_wp2
    all_goals go_region
    all_goals go_wp2
    all_goals
      generalize hX : IntKind.u64.wrap (IntKind.u64.wrap (IntKind.u64.wrap (s * 6364136223846793005)) + 1442695040888963407) = X
      have hx : 0 ≤ X ∧ X < 18446744073709551616 := hX ▸ wrap64 _
      have hv := low8 (X / 1099511627776) (by omega) (by omega)
      go_ret
      exact Hend X _ _ hx hv.1 hv.2 ⟨rfl, rfl, rfl, Nat.le_refl _, fun _ _ _ => rfl⟩

set_option maxHeartbeats 2000000 in
/-- A pick below n (none of it said but that it lies there); two numbers at most are given. -/
theorem pick_any (w : World) (p : Nat) (a : Option Addr) (len cap i : Nat) (hs : Src w p a len cap i) (hi : i ≤ 1000000000) (n : Int) (hn : 1 ≤ n) (hn2 : n ≤ 1048576) :
    Calls Try.prog 67 #[.pointer (some ⟨p, 0, none⟩), .int .i64 n] w fun e w' => ∃ (v : Int) (j : Nat), e = .returned (.int .i64 v) ∧ 0 ≤ v ∧ v < n ∧ j ≤ i + 2 ∧ Src w' p a len cap j ∧ w.grownBy w' (some p) := by
  have Hs := Lib.hid hs
  clear hs
  by_cases h1 : n ≤ 1
  · go_enter Try.func67, Try.ntmps67
    go_wp2
    go_ret
    exact ⟨0, i, rfl, by omega, by omega, by omega, Hs.out, World.grownBy.refl _ _⟩
  · have d1 : decide (n ≤ 1) = false := by simp; omega
    by_cases h2 : n ≤ 200
    · have d2 : decide (200 < n) = false := by simp; omega
      go_enter Try.func67, Try.ntmps67
      go_wp2_with (go_at_call 74; refine (next_any _ p a len cap i Hs.out (by omega)).mono ?_; rintro e1 w1 ⟨v1, rfl, hv0, hv1, hs1, hg1⟩; have Hs1 := Lib.hid hs1; have Hg1 := Lib.hid hg1; clear hs1 hg1)
      go_ret
      exact ⟨_, i + 1, rfl, Int.emod_nonneg _ (by omega), Int.emod_lt_of_pos _ (by omega), by omega, Hs1.out, Hg1.out⟩
    · have d2 : decide (200 < n) = true := by simp; omega
      go_enter Try.func67, Try.ntmps67
      go_wp2_with (first | (have h_ := Hs; clear h_; go_at_call 74; refine (next_any _ p a len cap i Hs.out (by omega)).mono ?_; rintro e1 w1 ⟨v1, rfl, hv0, hv1, hs1, hg1⟩; have Hs1 := Lib.hid hs1; have Hg1 := Lib.hid hg1; clear hs1 hg1 Hs) | (have h_ := Hs1; clear h_; go_at_call 74; refine (next_any _ p a len cap (i + 1) Hs1.out (by omega)).mono ?_; rintro e2 w2 ⟨v2, rfl, hv2, hv3, hs2, hg2⟩; have Hs2 := Lib.hid hs2; have Hg2 := Lib.hid (gtrans Hg1.out hg2); clear hs2 hg2 Hs1 Hg1))
      go_ret
      exact ⟨_, i + 2, rfl, Int.emod_nonneg _ (by omega), Int.emod_lt_of_pos _ (by omega), by omega, Hs2.out, Hg2.out⟩


theorem from_any (w : World) (a : Option Addr) (len cap : Nat) (hb : BRd w.heap.size w a len cap) :
    Calls Try.prog 45 #[.slice a len cap] w fun e w' => e = .returned (.pointer (some ⟨w.heap.size, 0, none⟩)) ∧ Src w' w.heap.size a len cap 0 ∧ w.grownBy w' none := by
  go_enter Try.func45, Try.ntmps45
  go_wp2
  go_ret
  refine ⟨rfl, ⟨?_, 0, by omega, by omega, ?_⟩, World.grownBy_alloc _ _ _⟩
  · exact hb.keep (Nat.le_refl _) (World.grownBy_alloc _ _ none) (by simp)
  · exact World.rowIs_alloc _ _ _ _ (fun i hi => by
      match i, hi with
      | 0, _ => rfl
      | 1, _ => rfl
      | 2, _ => rfl)
end Go.Proofs.Ythkjikennlaelaa
