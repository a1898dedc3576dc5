/-
  The buses with a given parent, in the program. No theorem of a claim stands here.
-/
import Derived.Test.YtbcjgjdkapdihaaFdr
import Derived.Test.YtbcjgjdkapdihaaInts
set_option linter.unusedVariables false
set_option linter.unusedSimpArgs false
set_option maxRecDepth 8000
namespace Go.Proofs.Ytbcjgjdkapdihaa
open Go Go.RowKit Go.Shelf Go.Deep Go.Proofs.Ytbcjgjdkapdihaa.Fl

def iv (l : List Int) : List Value := l.map fun n => Value.int .i64 n
theorem iv_snoc (l : List Int) (n : Int) : iv (l ++ [n]) = iv l ++ [.int .i64 n] := by simp [iv]
theorem iv_len (l : List Int) : (iv l).length = l.length := by simp [iv]
/-- The slice v is the call's own, from the block 'base' on, and holds l. -/
def IL (base : Nat) (w : World) (v : Value) (l : List Int) : Prop := w.ownsRow base 2 1 v l.length (iv l)
theorem IL.nil (base : Nat) (w : World) : IL base w (.slice none 0 0) [] := ⟨rfl, .inl ⟨rfl, rfl⟩⟩
theorem IL.below {base : Nat} {w w' : World} {v : Value} {l : List Int} {B : Nat} (h : IL base w v l) (hb : Below B w w') (hB : w.heap.size ≤ B) : IL base w' v l := by
  refine ⟨h.1, ?_⟩
  rcases h.2 with h2 | ⟨g, cap, cur, e1, h1, h2, h3⟩
  · exact .inl h2
  · exact .inr ⟨g, cap, cur, e1, h1, (hb.block g (Nat.lt_of_lt_of_le (Array.getElem?_eq_some_iff.1 h2).1 hB)).trans h2, h3⟩
theorem IL.alloc {base : Nat} {w : World} {v : Value} {l : List Int} (h : IL base w v l) (o : Obj) : IL base (w.alloc o) v l := World.ownsRow.alloc h o
theorem IL.form {base : Nat} {w : World} {v : Value} {l : List Int} (h : IL base w v l) : ∃ a cap, v = .slice a l.length cap := by
  rcases h.2 with ⟨h2, h3⟩ | ⟨g, c, cur, e1, _⟩
  · exact ⟨none, 0, by rw [h2, h3]⟩
  · exact ⟨_, _, e1⟩
theorem IL.rd {base : Nat} {w : World} {a : Option Addr} {n cap : Nat} {l : List Int} (h : IL base w (.slice a n cap) l) (hb : ∀ n ∈ l, -9223372036854775808 ≤ n ∧ n ≤ 9223372036854775807) : IRd w a n cap l := by
  rcases h.2 with ⟨h2, h3⟩ | ⟨g, c, cur, e1, h1, h2, h3, h4, h5, h6⟩
  · simp at h2
    obtain ⟨rfl, rfl, rfl⟩ := h2
    exact ⟨h3, Nat.le_refl _, Nat.zero_le _, fun k hk => absurd hk (Nat.not_lt_zero _), hb⟩
  · simp at e1
    obtain ⟨rfl, rfl, rfl⟩ := e1
    refine ⟨rfl, h3, h4, fun k hk => ⟨g, 0, rfl, ?_, (Array.getElem?_eq_some_iff.1 h2).1⟩, hb⟩
    have hc := World.ownsRow.cellAt h k (by omega)
    rw [Nat.zero_add, hc]
    simp [iv, List.getD, hk]
theorem form_il {w : World} {base n : Nat} {e : TypeId} {v : Value} {xs : List Value} (h : w.ownsRow base e 1 v (n + 1) xs) : ∃ g cap, v = .slice (some ⟨g, 0, none⟩) (n + 1) cap ∧ base ≤ g ∧ g < w.heap.size ∧ n + 1 ≤ cap := by
  rcases h.2 with ⟨_, h⟩ | ⟨g, cap, cur, h, hb, hg, hc, _⟩
  · omega
  · exact ⟨g, cap, h, hb, (Array.getElem?_eq_some_iff.1 hg).1, hc⟩
theorem int_one' (n : Int) : ∀ u ∈ [Value.int .i64 n], u.oneCell' = true := by
  intro u hu
  simp at hu
  subst hu
  rfl

theorem IL.ob {base : Nat} {w : World} {v : Value} {l : List Int} (h : IL base w v l) : ∀ k, v.ownBlock = some k → base ≤ k ∧ k < w.heap.size := by
  intro k hk
  rcases h.2 with ⟨h2, h3⟩ | ⟨g, c, cur, e1, h1, h2, _⟩
  · rw [h2] at hk; cases hk
  · rw [e1] at hk
    simp [Value.ownBlock] at hk
    subst hk
    exact ⟨h1, (Array.getElem?_eq_some_iff.1 h2).1⟩
theorem IL.snoc {base : Nat} {w : World} {v : Value} {l : List Int} {n : Int} (h : w.ownsRow base 2 1 v (l.length + 1) (iv l ++ [.int .i64 n])) : IL base w v (l ++ [n]) := by
  unfold IL
  rw [List.length_append, iv_snoc]
  exact h
theorem news1 (w : World) (o : Obj) (v : Value) (t : TypeId) : ∀ j u, [v][j]? = some u → ((w.alloc o).alloc (.cells #[v] t)).cell? ((⟨w.heap.size + 1, 0, none⟩ : Addr).add j) = some u := by
  have h := RL.news (RL.new (w.alloc o) [v] t)
  rw [World.size_alloc] at h
  exact h
theorem news0 (w : World) (v : Value) (t : TypeId) : ∀ j u, [v][j]? = some u → (w.alloc (.cells #[v] t)).cell? ((⟨w.heap.size, 0, none⟩ : Addr).add j) = some u := RL.news (RL.new w [v] t)

/-- The parent of bus i. -/
def parAt (Bs : List BusV) (i : Nat) : Int := ((Bs[i]?).map BusV.par).getD (-1)
theorem parAt_get {Bs : List BusV} {i : Nat} (h : i < Bs.length) : parAt Bs i = Bs[i].par := by simp [parAt, h]
/-- The buses below k whose parent is b. -/
def kids (Bs : List BusV) (b : Int) (k : Nat) : List Int := ((List.range k).filter fun i => parAt Bs i = b).map fun (i : Nat) => (i : Int)
theorem kids_yes {Bs : List BusV} {b : Int} {k : Nat} (h : parAt Bs k = b) : kids Bs b (k + 1) = kids Bs b k ++ [(k : Int)] := by simp [kids, List.range_succ, List.filter_append, h]
theorem kids_no {Bs : List BusV} {b : Int} {k : Nat} (h : parAt Bs k ≠ b) : kids Bs b (k + 1) = kids Bs b k := by simp [kids, List.range_succ, List.filter_append, h]
theorem kids_len (Bs : List BusV) (b : Int) (k : Nat) : (kids Bs b k).length ≤ k := by
  unfold kids
  rw [List.length_map]
  exact Nat.le_trans (List.length_filter_le _ _) (by simp)

end Go.Proofs.Ytbcjgjdkapdihaa
