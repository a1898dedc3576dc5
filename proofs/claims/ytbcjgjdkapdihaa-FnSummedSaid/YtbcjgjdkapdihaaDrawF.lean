/-
  Numbers that are drawn: which they are is not said. No theorem of a claim stands here.
-/
import Derived.Test.YtbcjgjdkapdihaaSrc
import Derived.Test.YtbcjgjdkapdihaaExt
set_option linter.unusedVariables false
namespace Go.Proofs.Ytbcjgjdkapdihaa
open Go Go.RowKit Go.Deep Go.Proofs.Ytbcjgjdkapdihaa.Fl

/-- A drawn number: some float, and the source has gone on by c numbers at most. -/
def DF (p : Nat) (a : Option Addr) (len cap i c : Nat) (w : World) (e : Ending) (w' : World) : Prop :=
  ∃ (r j : Nat), e = .returned (.float .f32 r) ∧ r < 2 ^ 32 ∧ j ≤ i + c ∧ Src w' p a len cap j ∧ w.grownBy w' (some p)

theorem gdr {w w' : World} {r : Option Nat} (h : w.grownBy w' r) (n : Nat) : w.grownBy (w'.drewN n) r := gdrew h n
theorem Src.drew {w : World} {p : Nat} {a : Option Addr} {len cap i : Nat} (h : Src w p a len cap i) (n : Nat) : Src (w.drewN n) p a len cap i := h

theorem gfresh {w w' : World} {r : Option Nat} (h : w.grownBy w' r) {b : Nat} (hb : w.heap.size ≤ b) (i : Nat) (v : Value) : w.grownBy (w'.setCell ⟨b, i, none⟩ v) r :=
  ⟨h.os, h.tape, h.output, by have := h.size; simpa using this, fun k hk hne => (Below.heap_setCell _ _ _ _ (by show k ≠ b; omega)).trans (h.block k hk hne)⟩
theorem galloc {a w : World} {r : Option Nat} (h : a.grownBy w r) (o : Obj) : a.grownBy (w.alloc o) r := gtrans h (World.grownBy_alloc w o r)
/-- A row stays what it is while the source's row is written. -/
theorem row_keep {w w' : World} {g t n p : Nat} {f : Nat → Value} (h : w.rowIs g t n f) (hg : w.grownBy w' (some p)) (hne : g ≠ p) : w'.rowIs g t n f :=
  h.of_block (hg.block g h.lt (fun e => hne (Option.some.inj e)))
theorem Src.setOther {w : World} {p : Nat} {a : Option Addr} {len cap i : Nat} (h : Src w p a len cap i) {g : Nat} (hg : p < g) (k : Nat) (v : Value) : Src (w.setCell ⟨g, k, none⟩ v) p a len cap i :=
  h.keep (r := some g) (gset (World.grownBy.refl w (some g)) k v) (fun k e => by cases e; exact hg)
theorem Src.allocd {w : World} {p : Nat} {a : Option Addr} {len cap i : Nat} (h : Src w p a len cap i) (o : Obj) : Src (w.alloc o) p a len cap i :=
  h.keep (World.grownBy_alloc w o none) (by simp)

theorem from32_any (n : Int) (h0 : 0 ≤ n) (h1 : n < 4294967296) (w : World) : Calls Try.prog 211 #[.int .i64 n] w fun e w' => e = .returned (.float .f32 n.toNat) ∧ w' = w := by
  have hf := run_f32frombits
  have hw : n % 4294967296 = n := Int.emod_eq_of_lt h0 h1
  go_enter Try.func211, Try.ntmps211
  go_wp2
  go_ret
  exact ⟨rfl, rfl⟩

theorem plain_any (w : World) (p : Nat) (a : Option Addr) (len cap i : Nat) (hs : Src w p a len cap i) (hi : i ≤ 999999000) :
    Calls Try.prog 218 #[.pointer (some ⟨p, 0, none⟩)] w (DF p a len cap i 4 w) := by
  have Hs := Lib.hid hs
  clear hs
  have hq := fun x y (w : World) => run_fov (P := Try.prog) .quo rfl 28 .f32 x y w
  go_enter Try.func218, Try.ntmps218
  go_wp2_with (first | (have h_ := Hs; clear h_; go_at_call 97; refine (pick_any _ p a len cap i Hs.out (by omega) 129 (by omega) (by omega)).mono ?_; rintro e1 w1 ⟨v1, j1, rfl, hv0, hv1, hj1, hs1, hg1⟩; have Hs1 := Lib.hid hs1; have Hg1 := Lib.hid hg1; clear hs1 hg1 Hs) | (have h_ := Hs1; clear h_; go_at_call 96; refine (one_any _ p a len cap j1 Hs1.out (by omega) 4 (by omega) (by omega)).mono ?_; rintro e2 w2 ⟨v2, j2, rfl, hj2, hs2, hg2⟩; have Hs2 := Lib.hid hs2; have Hg2 := Lib.hid (gtrans Hg1.out hg2); clear hs2 hg2 Hs1 Hg1; cases v2))
  all_goals go_ret
  all_goals exact ⟨_, j2, rfl, fov_lt _ _ _ _ _, by omega, Hs2.out.drew _, gdr Hg2.out _⟩

/-- One of n numbers of a row, all of which lie below a bound. -/
theorem among_any (w : World) (p g : Nat) (a : Option Addr) (len cap i n c : Nat) (f : Nat → Int) (hs : Src w p a len cap i) (hi : i ≤ 1000000000) (hn : 1 ≤ n) (hn2 : n ≤ c) (hn3 : n ≤ 200) (hg : p < g) (hr : w.rowIs g 2 n (fun j => .int .i64 (f j))) :
    Calls Try.prog 219 #[.pointer (some ⟨p, 0, none⟩), .slice (some ⟨g, 0, none⟩) n c] w fun e w' => ∃ (k j : Nat), e = .returned (.int .i64 (f k)) ∧ k < n ∧ j ≤ i + 2 ∧ Src w' p a len cap j ∧ w.grownBy w' (some p) := by
  have Hs := Lib.hid hs
  have Hr := Lib.hid hr
  clear hs hr
  go_enter Try.func219, Try.ntmps219
  have hcl : ∀ (v : Int) (w1 : World), 0 ≤ v → v < n → w.grownBy w1 (some p) → ∃ k : Nat, v = k ∧ k < n ∧ w1.cell? ⟨g, k, none⟩ = some (.int .i64 (f k)) := by
    intro v w1 h0 h1 hg1
    obtain ⟨k, rfl⟩ := Int.eq_ofNat_of_zero_le h0
    have hk : k < n := by omega
    exact ⟨k, rfl, hk, hg1.cell (Hr.out.cell hk) (fun e => absurd (Option.some.inj e) (show ¬ g = p by omega))⟩
  go_wp2_with (go_at_call 97; refine (pick_any w p a len cap i Hs.out hi (n : Int) (by omega) (by omega)).mono ?_; rintro e1 w1 ⟨v1, j1, rfl, hv0, hv1, hj1, hs1, hg1⟩; obtain ⟨k, rfl, hk, hc⟩ := hcl v1 w1 hv0 hv1 hg1; have Hs1 := Lib.hid hs1; have Hg1 := Lib.hid hg1; clear hs1 hg1 Hs)
  go_ret
  exact ⟨k, j1, rfl, hk, hj1, Hs1.out, Hg1.out⟩

theorem row_of (w : World) (l : List Int) : (w.alloc (.cells (l.map (Value.int .i64)).toArray 2)).rowIs w.heap.size 2 l.length (fun j => .int .i64 (l.getD j 0)) := by
  have h := World.rowIs_alloc w (l.map (Value.int .i64)).toArray 2 (fun j => .int .i64 (l.getD j 0)) (fun i hi => by
    have hl : i < l.length := by simpa using hi
    simp [List.getD, hl])
  simpa using h

def strange : List Int := [0, 2147483648, 2139095040, 4286578688, 2143289344, 1, 2139095039, 8388608, 8388607, 2147483649]
def steps : List Int := [8388608, 2130706432, 1610612736, 536870912]

set_option maxHeartbeats 4000000 in
theorem drawFloat_any (w : World) (p : Nat) (a : Option Addr) (len cap i : Nat) (hs : Src w p a len cap i) (hi : i ≤ 999990000) :
    Calls Try.prog 198 #[.pointer (some ⟨p, 0, none⟩)] w (DF p a len cap i 10 w) := by
  have Hs := Lib.hid hs
  have Hg := Lib.hid (World.grownBy.refl w (some p))
  clear hs
  have hq := fun x y (w : World) => run_fov (P := Try.prog) .mul rfl 28 .f32 x y w
  have hs1 : ∀ k, k < 10 → 0 ≤ strange.getD k 0 ∧ strange.getD k 0 < 4294967296 := by decide
  have hs2 : ∀ k, k < 4 → 0 ≤ steps.getD k 0 ∧ steps.getD k 0 < 4294967296 := by decide
  go_enter Try.func198, Try.ntmps198
  go_wp2_with (first | (go_at_call 96; refine (one_any _ p a len cap _ Hs.out (by omega) 12 (by omega) (by omega)).mono ?_; rintro e1 w1 ⟨v1, j1, rfl, hj1, gs1, hg1⟩; have Hg1 := Lib.hid (gtrans Hg.out hg1); clear Hs Hg hg1; have Hs := Lib.hid gs1; have Hg := Lib.hid Hg1.out; clear gs1 Hg1; cases v1) | (go_at_call 218; refine (plain_any _ p a len cap _ Hs.out (by omega)).mono ?_; rintro e2 w2 ⟨r, j2, rfl, hr, hj2, gs1, hg1⟩; have Hg1 := Lib.hid (gtrans Hg.out hg1); clear Hs Hg hg1; have Hs := Lib.hid gs1; have Hg := Lib.hid Hg1.out; clear gs1 Hg1))
  · go_ret
    exact ⟨_, _, rfl, hr, by omega, Hs.out, Hg.out⟩
  · go_at_call 97
    refine (pick_any _ p a len cap _ Hs.out (by omega) 4 (by omega) (by omega)).mono ?_
    rintro e2 w2 ⟨v, j, rfl, hv0, hv1, hj, gs1, hg1⟩
    have Hg1 := Lib.hid (gtrans Hg.out hg1)
    clear Hs Hg hg1
    have Hs := Lib.hid gs1
    have Hg := Lib.hid Hg1.out
    clear gs1 Hg1
    obtain rfl | rfl | rfl | rfl : v = 0 ∨ v = 1 ∨ v = 2 ∨ v = 3 := by omega
    · go_wp2_with (first | (go_at_call 219; refine (among_any _ p _ a len cap _ 10 10 (fun j => strange.getD j 0) (Hs.out.keep (World.grownBy_alloc _ _ none) (by simp)) (by omega) (by omega) (by omega) (by omega) Hs.out.lt (row_of _ strange)).mono ?_; rintro e4 w4 ⟨k, j, rfl, hk, hj, gs1, hg2⟩; have hk0 := (hs1 k hk).1; have hk1 := (hs1 k hk).2; have hg1 := gtrans (World.grownBy_alloc _ _ (some p)) hg2; clear hg2; have Hg1 := Lib.hid (gtrans Hg.out hg1); clear Hs Hg hg1; have Hs := Lib.hid gs1; have Hg := Lib.hid Hg1.out; clear gs1 Hg1) | (go_at_call 211; refine (from32_any _ (by first | exact hk0 | omega) (by first | exact hk1 | omega) _).mono ?_; rintro e w' ⟨rfl, rfl⟩))
      go_ret
      exact ⟨_, _, rfl, (show (strange.getD k 0).toNat < 2 ^ 32 by omega), by omega, Hs.out, Hg.out⟩
    · go_wp2_with (first | (go_at_call 97; refine (pick_any _ p a len cap _ Hs.out (by omega) 65536 (by omega) (by omega)).mono ?_; rintro e3 w3 ⟨v, j, rfl, hv0, hv1, hj, gs1, hg1⟩; have Hg1 := Lib.hid (gtrans Hg.out hg1); clear Hs Hg hg1; have Hs := Lib.hid gs1; have Hg := Lib.hid Hg1.out; clear gs1 Hg1) | (go_at_call 211; refine (from32_any _ (by first | exact hk0 | omega) (by first | exact hk1 | omega) _).mono ?_; rintro e w' ⟨rfl, rfl⟩))
      go_ret
      exact ⟨_, _, rfl, by omega, by omega, Hs.out, Hg.out⟩
    · go_wp2_with (first | (go_at_call 97; refine (pick_any _ p a len cap _ Hs.out (by omega) 65536 (by omega) (by omega)).mono ?_; rintro e3 w3 ⟨v, j, rfl, hv0, hv1, hj, gs1, hg1⟩; have Hg1 := Lib.hid (gtrans Hg.out hg1); clear Hs Hg hg1; have Hs := Lib.hid gs1; have Hg := Lib.hid Hg1.out; clear gs1 Hg1) | (go_at_call 211; refine (from32_any _ (by first | exact hk0 | omega) (by first | exact hk1 | omega) _).mono ?_; rintro e w' ⟨rfl, rfl⟩))
      go_ret
      exact ⟨_, _, rfl, by omega, by omega, Hs.out, Hg.out⟩
    · go_wp2_with (first | (go_at_call 218; refine (plain_any _ p a len cap _ Hs.out (by omega)).mono ?_; rintro e2 w2 ⟨r, j2, rfl, hr, hj2, gs1, hg1⟩; have Hg1 := Lib.hid (gtrans Hg.out hg1); clear Hs Hg hg1; have Hs := Lib.hid gs1; have Hg := Lib.hid Hg1.out; clear gs1 Hg1) | (go_at_call 219; refine (among_any _ p _ a len cap _ 4 4 (fun j => steps.getD j 0) (Hs.out.keep (World.grownBy_alloc _ _ none) (by simp)) (by omega) (by omega) (by omega) (by omega) Hs.out.lt (row_of _ steps)).mono ?_; rintro e4 w4 ⟨k, j, rfl, hk, hj, gs1, hg2⟩; have hk0 := (hs2 k hk).1; have hk1 := (hs2 k hk).2; have hg1 := gtrans (World.grownBy_alloc _ _ (some p)) hg2; clear hg2; have Hg1 := Lib.hid (gtrans Hg.out hg1); clear Hs Hg hg1; have Hs := Lib.hid gs1; have Hg := Lib.hid Hg1.out; clear gs1 Hg1) | (go_at_call 211; refine (from32_any _ (by first | exact hk0 | omega) (by first | exact hk1 | omega) _).mono ?_; rintro e w' ⟨rfl, rfl⟩))
      go_ret
      exact ⟨_, _, rfl, fov_lt _ _ _ _ _, by omega, Hs.out.drew _, gdr Hg.out _⟩
end Go.Proofs.Ytbcjgjdkapdihaa
