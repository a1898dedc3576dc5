/-
  Lists of integers that a call owns: marked, held against the marks. No theorem of a claim stands here.
-/
import Derived.Test.YtbidjhpllnabkaaDoorInts
import Derived.Laws.AppendOwn
set_option linter.unusedVariables false
namespace Go.Proofs.YtbidjhpllnabkaaDoor
open Go Go.RowKit Go.Deep

def ivals (l : List Int) : List Value := l.map fun n => Value.int .i64 n
theorem ivals_snoc (l : List Int) (n : Int) : ivals (l ++ [n]) = ivals l ++ [.int .i64 n] := by simp [ivals]
theorem ivals_len (l : List Int) : (ivals l).length = l.length := by simp [ivals]

/-- The slice is the call's own, from the block 'base' on, and holds l. -/
def OwnI (base : Nat) (w : World) (a : Option Addr) (cap : Nat) (l : List Int) : Prop :=
  w.ownsRow base 2 1 (.slice a l.length cap) l.length (ivals l)

theorem OwnI.nil (base : Nat) (w : World) : OwnI base w none 0 [] := ⟨rfl, .inl ⟨rfl, rfl⟩⟩
theorem OwnI.below {base : Nat} {w w' : World} {a : Option Addr} {cap : Nat} {l : List Int} {B : Nat} (h : OwnI base w a cap l) (hb : Below B w w') (hB : w.heap.size ≤ B) : OwnI base w' a cap l := by
  refine ⟨h.1, ?_⟩
  rcases h.2 with h2 | ⟨g, c, cur, e1, h1, h2, h3⟩
  · exact .inl h2
  · have := (Array.getElem?_eq_some_iff.1 h2).1
    exact .inr ⟨g, c, cur, e1, h1, by rw [hb.block g (by omega)]; exact h2, h3⟩
theorem OwnI.base {b1 b2 : Nat} {w : World} {a : Option Addr} {cap : Nat} {l : List Int} (h : OwnI b1 w a cap l) (hb : b2 ≤ b1) : OwnI b2 w a cap l := by
  refine ⟨h.1, ?_⟩
  rcases h.2 with h2 | ⟨g, c, cur, e1, h1, h2, h3⟩
  · exact .inl h2
  · exact .inr ⟨g, c, cur, e1, by omega, h2, h3⟩
theorem OwnI.cell {base : Nat} {w : World} {a : Option Addr} {cap : Nat} {l : List Int} (h : OwnI base w a cap l) {k : Nat} (hk : k < l.length) :
    ∃ g, a = some ⟨g, 0, none⟩ ∧ base ≤ g ∧ g < w.heap.size ∧ l.length ≤ cap ∧ w.cell? ⟨g, k, none⟩ = some (.int .i64 (l.getD k 0)) := by
  rcases h.2 with ⟨_, h2⟩ | ⟨g, c, cur, e1, h1, h2, h3, h4, h5, h6⟩
  · omega
  · simp at e1
    obtain ⟨rfl, rfl⟩ := e1
    refine ⟨g, rfl, h1, (Array.getElem?_eq_some_iff.1 h2).1, h3, ?_⟩
    have := h.cells (g := g) rfl k (.int .i64 (l.getD k 0)) (by unfold ivals; rw [List.getElem?_map, List.getElem?_eq_getElem hk]; simp [List.getD, hk])
    rwa [iadd_none, Nat.zero_add] at this
theorem OwnI.reads {base : Nat} {w : World} {a : Option Addr} {cap : Nat} {l : List Int} (h : OwnI base w a cap l) (hw : ∀ n ∈ l, -9223372036854775808 ≤ n ∧ n ≤ 9223372036854775807) : IRd w a l.length cap l := by
  refine ⟨rfl, ?_, ?_, fun k hk => ?_, hw⟩
  · rcases h.2 with ⟨e, h2⟩ | ⟨g, c, cur, e1, h1, h2, h3, _⟩
    · simp at e; omega
    · simp at e1; omega
  · rcases h.2 with ⟨e, h2⟩ | ⟨g, c, cur, e1, h1, h2, h3, h4, _⟩
    · simp at e; unfold maxLen; omega
    · simp at e1; omega
  · obtain ⟨g, e, _, hl, _, hc⟩ := h.cell hk
    exact ⟨g, 0, e, by rw [Nat.zero_add]; exact hc, hl⟩

def marksOf (m : Int) (n : Nat) : List Int := (List.range n).map fun (j : Nat) => m + (j : Int)
theorem marksOf_len (m : Int) (n : Nat) : (marksOf m n).length = n := by simp [marksOf]
theorem marksOf_get (m : Int) {n k : Nat} (hk : k < n) : (marksOf m n).getD k 0 = m + k := by simp [marksOf, List.getD, hk]
theorem marksOf_in {m : Int} {n : Nat} (h0 : 0 ≤ m) (h1 : m + n ≤ 9223372036854775807) : ∀ x ∈ marksOf m n, -9223372036854775808 ≤ x ∧ x ≤ 9223372036854775807 := by
  intro x hx
  unfold marksOf at hx
  simp at hx
  obtain ⟨j, hj, rfl⟩ := hx
  omega

theorem OwnI.row {base : Nat} {w : World} {a : Option Addr} {cap : Nat} {l : List Int} (h : OwnI base w a cap l) (hl : l ≠ []) :
    ∃ (g : Nat) (f : Nat → Value), a = some ⟨g, 0, none⟩ ∧ base ≤ g ∧ g < w.heap.size ∧ l.length ≤ cap ∧ cap ≤ maxLen ∧ w.rowIs g 2 cap f := by
  rcases h.2 with ⟨_, h2⟩ | ⟨g, c, cur, e1, h1, h2, h3, h4, h5, h6⟩
  · exact absurd (List.length_eq_zero_iff.1 h2) hl
  · simp at e1
    obtain ⟨rfl, rfl⟩ := e1
    exact ⟨g, fun i => cur.getD i (.bool false), rfl, h1, (Array.getElem?_eq_some_iff.1 h2).1, h3, h4, cur, h2, by omega, fun i hi => by
      have : i < cur.size := by omega
      simp [Array.getD, this]⟩
theorem own_of_row {base g cap : Nat} {w : World} {f : Nat → Value} {l : List Int} (h : w.rowIs g 2 cap f) (hb : base ≤ g) (hc : l.length ≤ cap) (hm : cap ≤ maxLen) (hf : ∀ i, i < l.length → f i = .int .i64 (l.getD i 0)) : OwnI base w (some ⟨g, 0, none⟩) cap l := by
  obtain ⟨cur, h2, h3, h4⟩ := h
  refine ⟨by simp [ivals], .inr ⟨g, cap, cur, rfl, hb, h2, hc, hm, by omega, ?_⟩⟩
  apply List.ext_getElem?
  intro j
  rw [List.getElem?_take, Nat.mul_one]
  unfold ivals
  rw [List.getElem?_map]
  by_cases hj : j < l.length
  · rw [if_pos hj, Array.getElem?_toList, h4 j (by omega), hf j hj, List.getElem?_eq_getElem hj]
    simp [List.getD, hj]
  · rw [if_neg hj, List.getElem?_eq_none (by omega)]
    rfl

theorem mark_any (w : World) (base : Nat) (a : Option Addr) (cap : Nat) (l : List Int) (m : Int) (ha : OwnI base w a cap l) (hl : l.length ≤ 1048576) (h0 : 0 ≤ m) (h1 : m ≤ 1048576) (hb : base ≤ w.heap.size) :
    Calls Tryd.prog 14 #[.slice a l.length cap, .int .i64 m] w fun e w' => e = .returned (.int .i64 (m + l.length)) ∧ OwnI base w' a cap (marksOf m l.length) ∧ Below base w w' := by
  by_cases hz : l = []
  · subst hz
    go_enter Tryd.func14, Tryd.ntmps14
    go_wp2
    go_loopw [1, 5] (fun M i wr => M = .int .i64 m ∧ i = .int .i64 0 ∧ wr = w) (fun _ i _ => 0)
    case atStart => exact ⟨rfl, rfl, rfl⟩
    case round =>
      obtain ⟨rfl, rfl, rfl⟩ := hrel
      go_wp2
      go_ret
      exact ⟨by simp, ha, Below.refl _ _⟩
  obtain ⟨g, f, rfl, hg, hgs, hc, hcm, hrow⟩ := ha.row hz
  have hst := fun (a : Addr) (v : Int) (m : Mode) (w : World) => run_store Tryd.prog w a (.int .i64 v) m rfl
  generalize hn : l.length = n at *
  clear ha hz
  go_enter Tryd.func14, Tryd.ntmps14
  go_wp2
  go_loopw [1, 5] (fun M i wr => ∃ k : Nat, k ≤ n ∧ M = .int .i64 (m + k) ∧ i = .int .i64 k ∧ Hid (wr.rowIs g 2 cap (fun j => if j < k then .int .i64 (m + j) else f j)) ∧ Hid (Below base w wr)) (fun _ i _ => n - (intOf i).toNat)
  case atStart => exact ⟨0, Nat.zero_le _, by simp, rfl, Lib.hid (by simpa using hrow), Lib.hid (Below.refl _ _)⟩
  case round =>
    obtain ⟨k, hk, rfl, rfl, Hr, Hw⟩ := hrel
    by_cases hlt : k < n
    · have c1 := Hr.out.cell (i := k) (by omega)
      have c3 := Hr.out.frozen k
      rw [if_neg (Nat.lt_irrefl k)] at c1
      have Hr2 := Lib.hid (Hr.out.set k (.int .i64 (m + k)))
      have Hw2 := Lib.hid (Hw.out.setCell (p := ⟨g, k, none⟩) hg (.int .i64 (m + k)))
      generalize f k = fv at c1
      go_wp2
      go_roundw
      case rel =>
        refine ⟨k + 1, by omega, by go_num, by go_num, Lib.hid ?_, Hw2⟩
        refine Hr2.out.congr fun j hj => ?_
        by_cases e : j = k
        · subst e; simp
        · by_cases e2 : j < k
          · rw [if_neg e, if_pos e2, if_pos (by omega)]
          · rw [if_neg e, if_neg e2, if_neg (by omega)]
      case measure => simp [intOf]; omega
    · obtain rfl : k = n := by omega
      go_wp2
      go_ret
      refine ⟨rfl, own_of_row Hr.out hg (by rw [marksOf_len]; exact hc) hcm (fun i hi => ?_), Hw.out⟩
      rw [marksOf_len] at hi
      rw [if_pos hi, marksOf_get m hi]

theorem held_any (w : World) (a : Option Addr) (cap : Nat) (n : Nat) (m : Int) (ha : IRd w a n cap (marksOf m n)) (hl : n ≤ 1048576) (h0 : 0 ≤ m) (h1 : m ≤ 1048576) :
    Calls Tryd.prog 15 #[.slice a n cap, .int .i64 m] w fun e w' => e = .returned (.int .i64 (m + n)) ∧ w' = w := by
  have Ha := Lib.hid ha
  clear ha
  go_enter Tryd.func15, Tryd.ntmps15
  go_wp2
  go_loop [1, 5] (fun M i => ∃ k : Nat, k ≤ n ∧ M = .int .i64 (m + k) ∧ i = .int .i64 k) (fun _ i => n - (intOf i).toNat)
  case atStart => exact ⟨0, Nat.zero_le _, by simp, rfl⟩
  case round =>
    obtain ⟨k, hk, rfl, rfl⟩ := hrel
    by_cases hlt : k < n
    · obtain ⟨b, o, rfl, hc, hbs⟩ := Ha.out.2.2.2.1 k hlt
      have hcap := Ha.out.2.1
      rw [marksOf_get m hlt] at hc
      have hne : ((m + (k : Int)) != (m + (k : Int))) = false := by simp
      go_wp2
      go_round
      case rel => exact ⟨k + 1, by omega, by go_num, by go_num⟩
      case measure => simp [intOf]; omega
    · obtain rfl : k = n := by omega
      go_wp2
      go_ret
      exact ⟨rfl, rfl⟩
end Go.Proofs.YtbidjhpllnabkaaDoor
