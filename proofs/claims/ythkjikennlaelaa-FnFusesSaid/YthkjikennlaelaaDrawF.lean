/-
  Numbers that are drawn: which they are is not said. No theorem of a claim stands here.
-/
import Derived.Test.YthkjikennlaelaaSrc
import Derived.Test.YthkjikennlaelaaExt
set_option linter.unusedVariables false
namespace Go.Proofs.Ythkjikennlaelaa
open Go Go.RowKit Go.Deep Go.Proofs.Ythkjikennlaelaa.Fl

/-- A drawn number: some float, and the source has gone on by c numbers at most. -/
def DF (p : Nat) (a : Option Addr) (len cap i c : Nat) (w : World) (e : Ending) (w' : World) : Prop :=
  ∃ (r j : Nat), e = .returned (.float .f32 r) ∧ r < 2 ^ 32 ∧ j ≤ i + c ∧ Src w' p a len cap j ∧ w.grownBy w' (some p)

theorem gdr {w w' : World} {r : Option Nat} (h : w.grownBy w' r) (n : Nat) : w.grownBy (w'.drewN n) r := gdrew h n
theorem Src.drew {w : World} {p : Nat} {a : Option Addr} {len cap i : Nat} (h : Src w p a len cap i) (n : Nat) : Src (w.drewN n) p a len cap i := h

theorem gfresh {w w' : World} {r : Option Nat} (h : w.grownBy w' r) {b : Nat} (hb : w.heap.size ≤ b) (i : Nat) (v : Value) : w.grownBy (w'.setCell ⟨b, i, none⟩ v) r :=
  ⟨h.os, h.tape, h.output, by have := h.size; simpa using this, fun k hk hne => (Below.heap_setCell _ _ _ _ (by show k ≠ b; omega)).trans (h.block k hk hne)⟩
theorem galloc {a w : World} {r : Option Nat} (h : a.grownBy w r) (o : Obj) : a.grownBy (w.alloc o) r := gtrans h (World.grownBy_alloc w o r)
/-- A row stays what it is while the source's row is written. -/
theorem row_keep {w w' : World} {g t n p : Nat} {f : Nat → Value} (h : w.rowIs g t n f) (hg : w.grownBy w' (some p)) (hne : g ≠ p) : w'.rowIs g t n f :=
  h.of_block (hg.block g h.lt (fun e => hne (Option.some.inj e)))
theorem Src.setOther {w : World} {p : Nat} {a : Option Addr} {len cap i : Nat} (h : Src w p a len cap i) {g : Nat} (hg : p < g) (k : Nat) (v : Value) : Src (w.setCell ⟨g, k, none⟩ v) p a len cap i :=
  h.keep (r := some g) (gset (World.grownBy.refl w (some g)) k v) (fun k e => by cases e; exact hg)
theorem Src.allocd {w : World} {p : Nat} {a : Option Addr} {len cap i : Nat} (h : Src w p a len cap i) (o : Obj) : Src (w.alloc o) p a len cap i :=
  h.keep (World.grownBy_alloc w o none) (by simp)




theorem row_of (w : World) (l : List Int) : (w.alloc (.cells (l.map (Value.int .i64)).toArray 2)).rowIs w.heap.size 2 l.length (fun j => .int .i64 (l.getD j 0)) := by
  have h := World.rowIs_alloc w (l.map (Value.int .i64)).toArray 2 (fun j => .int .i64 (l.getD j 0)) (fun i hi => by
    have hl : i < l.length := by simpa using hi
    simp [List.getD, hl])
  simpa using h

def strange : List Int := [0, 2147483648, 2139095040, 4286578688, 2143289344, 1, 2139095039, 8388608, 8388607, 2147483649]
def steps : List Int := [8388608, 2130706432, 1610612736, 536870912]

end Go.Proofs.Ythkjikennlaelaa
