/-
  Lists of integers: read, copied, compared. No theorem of a claim stands here.
-/
import Derived.Test.YtbidjhpllnabkaaDoorRows
import Derived.WalkKit
import Derived.ProofKit
import Derived.OpenShut
import Derived.Below
import Derived.Outline
import Derived.OwnWalk
import Derived.Deep.OwnRows
import Derived.Deep.Draws
import Derived.Deep.Slices
import Derived.Lib.Hide
set_option linter.unusedVariables false
namespace Go.Proofs.YtbidjhpllnabkaaDoor
open Go Go.RowKit Go.Deep Go.ChangeShapes Go.WideShapes

/-- The slice (a, len, cap) reads as l in w. -/
def IRd (w : World) (a : Option Addr) (len cap : Nat) (l : List Int) : Prop :=
  l.length = len ∧ len ≤ cap ∧ cap ≤ maxLen ∧ (∀ k, k < len → ∃ b o, a = some ⟨b, o, none⟩ ∧ w.cell? ⟨b, o + k, none⟩ = some (.int .i64 (l.getD k 0)) ∧ b < w.heap.size) ∧ ∀ n ∈ l, -9223372036854775808 ≤ n ∧ n ≤ 9223372036854775807

theorem iadd_none (b o i : Nat) : (Addr.add ⟨b, o, none⟩ i) = ⟨b, o + i, none⟩ := by
  unfold Addr.add
  by_cases h : i = 0
  · subst h; rfl
  · rw [if_neg h]

theorem IRd.stays {w w' : World} {a : Option Addr} {len cap : Nat} {l : List Int} {B : Nat} (h : IRd w a len cap l) (hb : Below B w w') (hB : w.heap.size ≤ B) : IRd w' a len cap l := by
  obtain ⟨h1, h2, h3, h4, h5⟩ := h
  refine ⟨h1, h2, h3, fun k hk => ?_, h5⟩
  obtain ⟨b, o, e, hc, hl⟩ := h4 k hk
  exact ⟨b, o, e, (hb.cell (show (⟨b, o + k, none⟩ : Addr).block < B from Nat.lt_of_lt_of_le hl hB)).trans hc, Nat.lt_of_lt_of_le hl hb.size⟩
theorem IRd.bound {w : World} {a : Option Addr} {len cap : Nat} {l : List Int} (h : IRd w a len cap l) {k : Nat} (hk : k < len) : -9223372036854775808 ≤ l.getD k 0 ∧ l.getD k 0 ≤ 9223372036854775807 := by
  have hl : k < l.length := by rw [h.1]; exact hk
  have e : l.getD k 0 = l[k] := by simp [List.getD, hl]
  rw [e]; exact h.2.2.2.2 _ (List.getElem_mem hl)

theorem iRd_of {H : Type} {enc : TypeId × Value → H} {P : Program} {w : World} {base : Nat} {held : Bool} {t e : TypeId} {fuel : Nat} {a : Option Addr} {len cap : Nat} {x : DataW H × List MemPlace} (ht : P.underlying t = some (.slice e)) (he : P.underlying e = some (.int .i64)) (hc : P.cellsOf e = 1)
    (h : DataW.trod enc P w base (fun _ => true) held fuel t (Value.slice a len cap).cells.toList = some x) : ∃ l, IRd w a len cap l := by
  rcases open_ints ht he hc h with ⟨hcs, _⟩ | ⟨x, l, c, zs, hcs, _, hl, hm, hz, _, hcell, hwz⟩
  · simp [Value.cells] at hcs
    obtain ⟨rfl, rfl, rfl⟩ := hcs
    exact ⟨[], rfl, Nat.le_refl _, Nat.zero_le _, fun k hk => absurd hk (by omega), fun n hn => by cases hn⟩
  · simp [Value.cells] at hcs
    obtain ⟨rfl, rfl, rfl⟩ := hcs
    have hz : zs.length = cap := by simpa using hz
    refine ⟨zs.take len, by simp; omega, hl, hm, fun k hk => ?_, fun n hn => ?_⟩
    · obtain ⟨b, o, s⟩ := x
      have hx0 := hcell 0 (by omega)
      obtain rfl : s = none := by simpa [Addr.add] using World.cell?_spot hx0
      have h0 := hcell k (by omega)
      rw [iadd_none] at h0
      have e : (zs.take len).getD k 0 = zs.getD k 0 := by simp [List.getD, hk]
      rw [e]
      refine ⟨b, o, rfl, h0, ?_⟩
      unfold World.cell? at h0
      cases hb : w.heap[(⟨b, o + k, none⟩ : Addr).block]? with
      | none => rw [hb] at h0; simp at h0
      | some o' => exact (Array.getElem?_eq_some_iff.1 hb).1
    · have := hwz n (List.mem_of_mem_take hn)
      exact bounds_i64 this

def icells (l : List Int) : Array Value := (l.map fun n => Value.int .i64 n).toArray
/-- A new row of n integers, the first k of l copied. -/
def icp (l : List Int) (n k : Nat) : Array Value := ((List.range n).map fun i => Value.int .i64 (if i < k then l.getD i 0 else 0)).toArray

theorem icp_zero (l : List Int) (n : Nat) : madeCells #[Value.int .i64 0] n = icp l n 0 := by
  unfold madeCells icp
  apply Array.ext
  · simp
  · intro i h1 h2
    simp [Nat.mod_one]
theorem icp_step (l : List Int) (n k : Nat) : (icp l n k).setIfInBounds k (.int .i64 (l.getD k 0)) = icp l n (k + 1) := by
  unfold icp
  apply Array.ext
  · simp
  · intro i h1 h2
    have h3 : i < ((List.range n).map fun i => Value.int .i64 (if i < k then l.getD i 0 else 0)).toArray.size := by simpa using h1
    rw [Array.getElem_setIfInBounds h3]
    by_cases hi : k = i
    · subst hi; simp
    · have e : (i < k + 1) = (i < k) := by rw [eq_iff_iff]; omega
      simp [hi, e]
theorem icp_full (l : List Int) (n : Nat) (hl : l.length = n) : icp l n n = icells l := by
  unfold icp icells
  subst hl
  congr 1
  apply List.ext_getElem
  · simp
  · intro i h1 h2
    simp only [List.length_map, List.length_range] at h1
    simp [h1]
theorem icp_get (l : List Int) (n k : Nat) (hk : k < n) : (icp l n k)[k]? = some (.int .i64 0) := by
  unfold icp
  rw [List.getElem?_toArray, List.getElem?_map, List.getElem?_range hk]
  simp
theorem ifrozen_new (w : World) (c : Array Value) (t : TypeId) (i : Nat) : (w.alloc (.cells c t)).frozen? ⟨w.heap.size, i, none⟩ = false := by
  unfold World.frozen? World.alloc
  simp
theorem infoI : (Tryd.prog.info? 2).map (fun i => (i.zero, i.size, i.bytes)) = some (some (.int .i64 0), 1, 8) := by kernel_rfl

theorem iRd_new (w : World) (t : TypeId) (l : List Int) (hl : l.length ≤ maxLen) (hw : ∀ n ∈ l, -9223372036854775808 ≤ n ∧ n ≤ 9223372036854775807) : IRd (w.alloc (.cells (icells l) t)) (some ⟨w.heap.size, 0, none⟩) l.length l.length l := by
  refine ⟨rfl, Nat.le_refl _, hl, fun k hk => ⟨w.heap.size, 0, rfl, ?_, by simp⟩, hw⟩
  rw [Nat.zero_add, World.cell?_alloc_new]
  unfold icells
  rw [List.getElem?_toArray, List.getElem?_map, List.getElem?_eq_getElem hk]
  simp [List.getD, hk]

theorem below_al (w : World) (o : Obj) : Below w.heap.size w (w.alloc o) := (Below.refl _ _).alloc (Nat.le_refl _) _
theorem below_dr (w : World) (n : Nat) : Below w.heap.size w (w.drewN n) := ⟨rfl, rfl, rfl, Nat.le_refl _, fun _ _ => rfl⟩
theorem below_th {w w1 w2 : World} (h1 : Below w.heap.size w w1) (h2 : Below w1.heap.size w1 w2) : Below w.heap.size w w2 := h1.trans (h2.mono h1.size)

theorem toInts_any (w : World) (a : Option Addr) (len cap : Nat) (l : List Int) (ha : IRd w a len cap l) (hl : len ≤ 1048576) :
    Calls Tryd.prog 9 #[.slice a len cap] w fun e w' => e = .returned (.slice (some ⟨w.heap.size, 0, none⟩) len len) ∧ w' = w.alloc (.cells (icells l) 2) := by
  have hmk := run_make_row' (P := Tryd.prog) 25 2 (.int .i64 0) 8 Tryd.underlying25 infoI rfl .i64 .i64 len (by omega) (by omega)
  rw [icp_zero l] at hmk
  have Hfull := Lib.hid (icp_full l len ha.1)
  have hst := fun (a : Addr) (v : Int) (m : Mode) (w : World) => run_store Tryd.prog w a (.int .i64 v) m rfl
  have Ha := Lib.hid ha
  clear ha
  go_enter Tryd.func9, Tryd.ntmps9
  go_wp2
  go_loopw [4] (fun i wr => ∃ k : Nat, k ≤ len ∧ i = .int .i64 k ∧ wr = w.alloc (.cells (icp l len k) 2)) (fun i _ => len - (intOf i).toNat)
  case atStart => exact ⟨0, Nat.zero_le _, rfl, rfl⟩
  case round =>
    obtain ⟨k, hk, rfl, rfl⟩ := hrel
    by_cases hlt : k < len
    · obtain ⟨b, o, rfl, hc, hbs⟩ := Ha.out.2.2.2.1 k hlt
      have hcap := Ha.out.2.1
      have c1 : (w.alloc (.cells (icp l len k) 2)).cell? ⟨b, o + k, none⟩ = some (.int .i64 (l.getD k 0)) := by
        rw [World.cell?_alloc_lt _ _ _ hbs]; exact hc
      have c2 : (w.alloc (.cells (icp l len k) 2)).cell? ⟨w.heap.size, k, none⟩ = some (.int .i64 0) := by
        rw [World.cell?_alloc_new]; exact icp_get _ len k hlt
      have c4 := icp_get l len k hlt
      have c3 := ifrozen_new w (icp l len k) 2 k
      have Hs := Lib.hid (icp_step l len k)
      generalize l.getD k 0 = v at c1 Hs
      clear hc
      go_wp2
      go_roundw
      case rel => exact ⟨k + 1, by omega, by go_num, by rw [← Hs.out]⟩
      case measure => simp [intOf]; omega
    · obtain rfl : k = len := by omega
      go_wp2
      go_ret
      exact ⟨rfl, by rw [← Hfull.out]⟩

/-- The same, the world behind a name: the copy reads as the list, and nothing that was there has changed. -/
theorem copyInts (w : World) (a : Option Addr) (len cap : Nat) (l : List Int) (ha : IRd w a len cap l) (hl : len ≤ 1048576) :
    Calls Tryd.prog 9 #[.slice a len cap] w fun e w' => ∃ x, e = .returned (.slice x len len) ∧ IRd w' x len len l ∧ Below w.heap.size w w' := by
  refine (toInts_any w a len cap l ha hl).mono ?_
  rintro e w' ⟨rfl, rfl⟩
  have h := iRd_new w 2 l (by have := ha.1; unfold maxLen; omega) ha.2.2.2.2
  rw [ha.1] at h
  exact ⟨_, rfl, h, below_al _ _⟩

theorem eqInts_any (w : World) (a b : Option Addr) (len cap cap2 : Nat) (l : List Int) (ha : IRd w a len cap l) (hb : IRd w b len cap2 l) (hl : len ≤ 1048576) :
    Calls Tryd.prog 11 #[.slice a len cap, .slice b len cap2] w fun e w' => e = .returned (.bool true) ∧ Below w.heap.size w w' := by
  have hne : ((len : Int) != (len : Int)) = false := by simp
  have Ha := Lib.hid ha
  have Hb := Lib.hid hb
  clear ha hb
  go_enter Tryd.func11, Tryd.ntmps11
  go_wp2
  go_loopw [5] (fun i wr => ∃ k n : Nat, k ≤ len ∧ i = .int .i64 k ∧ wr = w.drewN n) (fun i _ => len - (intOf i).toNat)
  case atStart => exact ⟨0, 0, Nat.zero_le _, rfl, rfl⟩
  case round =>
    obtain ⟨k, n, hk, rfl, rfl⟩ := hrel
    by_cases hlt : k < len
    · obtain ⟨b1, o1, rfl, c1, hbs1⟩ := Ha.out.2.2.2.1 k hlt
      obtain ⟨b2, o2, rfl, c2, hbs2⟩ := Hb.out.2.2.2.1 k hlt
      have hc1 := Ha.out.2.1
      have hc2 := Hb.out.2.1
      generalize l.getD k 0 = v at c1 c2
      have hv : (v != v) = false := by simp
      go_wp2
      go_region
      all_goals go_wp2
      all_goals (go_roundw; (case rel => exact ⟨k + 1, _, by omega, by go_num, rfl⟩); (case measure => simp [intOf]; omega))
    · obtain rfl : k = len := by omega
      go_wp2
      go_ret
      exact ⟨rfl, below_dr _ _⟩
end Go.Proofs.YtbidjhpllnabkaaDoor
