/-
  Lists of integers: read, copied, compared. No theorem of a claim stands here.
-/
import Derived.Test.YtljclagfplildaaRows
import Derived.WalkKit
import Derived.ProofKit
import Derived.OpenShut
import Derived.Below
import Derived.Outline
import Derived.OwnWalk
import Derived.Deep.OwnRows
import Derived.Deep.Draws
import Derived.Deep.Slices
import Derived.Lib.Hide
set_option linter.unusedVariables false
set_option maxRecDepth 8000
namespace Go.Proofs.Ytljclagfplildaa
open Go Go.RowKit Go.Deep Go.ChangeShapes Go.WideShapes

/-- The slice (a, len, cap) reads as l in w. -/
def IRd (w : World) (a : Option Addr) (len cap : Nat) (l : List Int) : Prop :=
  l.length = len ∧ len ≤ cap ∧ cap ≤ maxLen ∧ (∀ k, k < len → ∃ b o, a = some ⟨b, o, none⟩ ∧ w.cell? ⟨b, o + k, none⟩ = some (.int .i64 (l.getD k 0)) ∧ b < w.heap.size) ∧ ∀ n ∈ l, -9223372036854775808 ≤ n ∧ n ≤ 9223372036854775807

theorem iadd_none (b o i : Nat) : (Addr.add ⟨b, o, none⟩ i) = ⟨b, o + i, none⟩ := by
  unfold Addr.add
  by_cases h : i = 0
  · subst h; rfl
  · rw [if_neg h]

theorem IRd.stays {w w' : World} {a : Option Addr} {len cap : Nat} {l : List Int} {B : Nat} (h : IRd w a len cap l) (hb : Below B w w') (hB : w.heap.size ≤ B) : IRd w' a len cap l := by
  obtain ⟨h1, h2, h3, h4, h5⟩ := h
  refine ⟨h1, h2, h3, fun k hk => ?_, h5⟩
  obtain ⟨b, o, e, hc, hl⟩ := h4 k hk
  exact ⟨b, o, e, (hb.cell (show (⟨b, o + k, none⟩ : Addr).block < B from Nat.lt_of_lt_of_le hl hB)).trans hc, Nat.lt_of_lt_of_le hl hb.size⟩
theorem IRd.bound {w : World} {a : Option Addr} {len cap : Nat} {l : List Int} (h : IRd w a len cap l) {k : Nat} (hk : k < len) : -9223372036854775808 ≤ l.getD k 0 ∧ l.getD k 0 ≤ 9223372036854775807 := by
  have hl : k < l.length := by rw [h.1]; exact hk
  have e : l.getD k 0 = l[k] := by simp [List.getD, hl]
  rw [e]; exact h.2.2.2.2 _ (List.getElem_mem hl)

theorem iRd_of {H : Type} {enc : TypeId × Value → H} {P : Program} {w : World} {base : Nat} {held : Bool} {t e : TypeId} {fuel : Nat} {a : Option Addr} {len cap : Nat} {x : DataW H × List MemPlace} (ht : P.underlying t = some (.slice e)) (he : P.underlying e = some (.int .i64)) (hc : P.cellsOf e = 1)
    (h : DataW.trod enc P w base (fun _ => true) held fuel t (Value.slice a len cap).cells.toList = some x) : ∃ l, IRd w a len cap l := by
  rcases open_ints ht he hc h with ⟨hcs, _⟩ | ⟨x, l, c, zs, hcs, _, hl, hm, hz, _, hcell, hwz⟩
  · simp [Value.cells] at hcs
    obtain ⟨rfl, rfl, rfl⟩ := hcs
    exact ⟨[], rfl, Nat.le_refl _, Nat.zero_le _, fun k hk => absurd hk (by omega), fun n hn => by cases hn⟩
  · simp [Value.cells] at hcs
    obtain ⟨rfl, rfl, rfl⟩ := hcs
    have hz : zs.length = cap := by simpa using hz
    refine ⟨zs.take len, by simp; omega, hl, hm, fun k hk => ?_, fun n hn => ?_⟩
    · obtain ⟨b, o, s⟩ := x
      have hx0 := hcell 0 (by omega)
      obtain rfl : s = none := by simpa [Addr.add] using World.cell?_spot hx0
      have h0 := hcell k (by omega)
      rw [iadd_none] at h0
      have e : (zs.take len).getD k 0 = zs.getD k 0 := by simp [List.getD, hk]
      rw [e]
      refine ⟨b, o, rfl, h0, ?_⟩
      unfold World.cell? at h0
      cases hb : w.heap[(⟨b, o + k, none⟩ : Addr).block]? with
      | none => rw [hb] at h0; simp at h0
      | some o' => exact (Array.getElem?_eq_some_iff.1 hb).1
    · have := hwz n (List.mem_of_mem_take hn)
      exact bounds_i64 this

def icells (l : List Int) : Array Value := (l.map fun n => Value.int .i64 n).toArray
/-- A new row of n integers, the first k of l copied. -/
def icp (l : List Int) (n k : Nat) : Array Value := ((List.range n).map fun i => Value.int .i64 (if i < k then l.getD i 0 else 0)).toArray

theorem icp_zero (l : List Int) (n : Nat) : madeCells #[Value.int .i64 0] n = icp l n 0 := by
  unfold madeCells icp
  apply Array.ext
  · simp
  · intro i h1 h2
    simp [Nat.mod_one]
theorem icp_step (l : List Int) (n k : Nat) : (icp l n k).setIfInBounds k (.int .i64 (l.getD k 0)) = icp l n (k + 1) := by
  unfold icp
  apply Array.ext
  · simp
  · intro i h1 h2
    have h3 : i < ((List.range n).map fun i => Value.int .i64 (if i < k then l.getD i 0 else 0)).toArray.size := by simpa using h1
    rw [Array.getElem_setIfInBounds h3]
    by_cases hi : k = i
    · subst hi; simp
    · have e : (i < k + 1) = (i < k) := by rw [eq_iff_iff]; omega
      simp [hi, e]
theorem icp_full (l : List Int) (n : Nat) (hl : l.length = n) : icp l n n = icells l := by
  unfold icp icells
  subst hl
  congr 1
  apply List.ext_getElem
  · simp
  · intro i h1 h2
    simp only [List.length_map, List.length_range] at h1
    simp [h1]
theorem icp_get (l : List Int) (n k : Nat) (hk : k < n) : (icp l n k)[k]? = some (.int .i64 0) := by
  unfold icp
  rw [List.getElem?_toArray, List.getElem?_map, List.getElem?_range hk]
  simp
theorem ifrozen_new (w : World) (c : Array Value) (t : TypeId) (i : Nat) : (w.alloc (.cells c t)).frozen? ⟨w.heap.size, i, none⟩ = false := by
  unfold World.frozen? World.alloc
  simp
theorem infoI : (Try.prog.info? 2).map (fun i => (i.zero, i.size, i.bytes)) = some (some (.int .i64 0), 1, 8) := by kernel_rfl

theorem iRd_new (w : World) (t : TypeId) (l : List Int) (hl : l.length ≤ maxLen) (hw : ∀ n ∈ l, -9223372036854775808 ≤ n ∧ n ≤ 9223372036854775807) : IRd (w.alloc (.cells (icells l) t)) (some ⟨w.heap.size, 0, none⟩) l.length l.length l := by
  refine ⟨rfl, Nat.le_refl _, hl, fun k hk => ⟨w.heap.size, 0, rfl, ?_, by simp⟩, hw⟩
  rw [Nat.zero_add, World.cell?_alloc_new]
  unfold icells
  rw [List.getElem?_toArray, List.getElem?_map, List.getElem?_eq_getElem hk]
  simp [List.getD, hk]

theorem below_al (w : World) (o : Obj) : Below w.heap.size w (w.alloc o) := (Below.refl _ _).alloc (Nat.le_refl _) _
theorem below_dr (w : World) (n : Nat) : Below w.heap.size w (w.drewN n) := ⟨rfl, rfl, rfl, Nat.le_refl _, fun _ _ => rfl⟩
theorem below_th {w w1 w2 : World} (h1 : Below w.heap.size w w1) (h2 : Below w1.heap.size w1 w2) : Below w.heap.size w w2 := h1.trans (h2.mono h1.size)


end Go.Proofs.Ytljclagfplildaa
