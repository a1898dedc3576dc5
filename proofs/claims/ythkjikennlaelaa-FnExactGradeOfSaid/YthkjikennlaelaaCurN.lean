/-
  What the laws on two curves need. No theorem of a claim stands here.
-/
import Derived.Test.YthkjikennlaelaaCurM
import Derived.Test.YthkjikennlaelaaCurL
set_option linter.unusedVariables false
set_option linter.unusedSimpArgs false
set_option maxRecDepth 8000
namespace Go.Proofs.Ythkjikennlaelaa
open Go Go.RowKit Go.Deep Go.Proofs.Ythkjikennlaelaa.Fl

/-- A curve's copy at the block g and the next one. -/
def CK.cp (K : CK) (g : Nat) : CK := ⟨some ⟨g, 0, none⟩, K.n, K.n, K.C, some ⟨g + 1, 0, none⟩, K.m, K.m, K.T⟩
/-- The boxes of the law's two curves. -/
structure D2 (w wr : World) (K L : CK) : Prop where
  one : RL wr w.heap.size 45 [.slice K.a K.n K.c, .slice K.b K.m K.e]
  two : RL wr (w.heap.size + 1) 45 [.slice L.a L.n L.c, .slice L.b L.m L.e]
  below : Below w.heap.size w wr
theorem D2.call {w wr w' : World} {K L : CK} (s : D2 w wr K L) (hb : Below wr.heap.size wr w') : D2 w w' K L := ⟨s.one.below hb s.one.lt, s.two.below hb s.two.lt, s.below.trans (hb.mono s.below.size)⟩
theorem D2.drew {w wr : World} {K L : CK} (s : D2 w wr K L) (n : Nat) : D2 w (wr.drewN n) K L := s.call (below_drawn wr n)
theorem D2.new (w : World) (K L : CK) : D2 w ((w.alloc (.cells #[.slice K.a K.n K.c, .slice K.b K.m K.e] 45)).alloc (.cells #[.slice L.a L.n L.c, .slice L.b L.m L.e] 45)) K L := by
  have h := bx2 w [.slice K.a K.n K.c, .slice K.b K.m K.e] [.slice L.a L.n L.c, .slice L.b L.m L.e] 45 45
  exact ⟨h.1, h.2.1, h.2.2⟩
theorem D2.cells {w wr : World} {K L : CK} (s : D2 w wr K L) : (wr.cell? ⟨w.heap.size, 0, none⟩ = some (.slice K.a K.n K.c) ∧ wr.cell? ⟨w.heap.size, 1, none⟩ = some (.slice K.b K.m K.e)) ∧ wr.cell? ⟨w.heap.size + 1, 0, none⟩ = some (.slice L.a L.n L.c) ∧ wr.cell? ⟨w.heap.size + 1, 1, none⟩ = some (.slice L.b L.m L.e) :=
  ⟨⟨s.one.cell 0 (by simp), s.one.cell 1 (by simp)⟩, s.two.cell 0 (by simp), s.two.cell 1 (by simp)⟩
theorem copyK {w : World} (K : CK) (hK : K.rd w) (hn : K.n ≤ 1048576) (hm : K.m ≤ 1048576) (w' : World) (hB : Below w.heap.size w w') :
    Calls Try.prog 29 #[.agg #[.slice K.a K.n K.c, .slice K.b K.m K.e]] w' fun en w'' => ∃ g, en = .returned (.agg #[.slice (some ⟨g, 0, none⟩) K.n K.n, .slice (some ⟨g + 1, 0, none⟩) K.m K.m]) ∧ w'.heap.size ≤ g ∧ (K.cp g).rd w'' ∧ Below w'.heap.size w' w'' :=
  (toC_any K.a K.n K.c K.C K.b K.m K.e K.T w' (hK.stays hB).1 (hK.stays hB).2 hn hm).mono fun en w'' h => by
    obtain ⟨g, h1, h2, _, h4, h5, h6⟩ := h.out hK.1.1 hK.2.1 hK.1.2.2.2 hK.2.2.2.2
    exact ⟨g, h1, h2, ⟨h4, h5⟩, h6⟩
theorem eqK {w : World} (K : CK) (g h : Nat) (h1 : (K.cp g).rd w) (h2 : (K.cp h).rd w) (hn : K.n ≤ 1048576) (hm : K.m ≤ 1048576) :
    Calls Try.prog 30 #[.agg #[.slice (some ⟨g, 0, none⟩) K.n K.n, .slice (some ⟨g + 1, 0, none⟩) K.m K.m], .agg #[.slice (some ⟨h, 0, none⟩) K.n K.n, .slice (some ⟨h + 1, 0, none⟩) K.m K.m]] w (RB7 (.bool true) w) :=
  eqC_any _ _ K.n K.n K.n K.C _ _ K.m K.m K.m K.T w h1.1 h2.1 h1.2 h2.2 hn hm
/-- The law's boxes, and the two copies in their boxes at p and q. -/
structure E2 (w wr : World) (K L : CK) (p q g h : Nat) : Prop where
  d : D2 w wr K L
  one : RL wr p 26 [.slice (some ⟨g, 0, none⟩) K.n K.n, .slice (some ⟨g + 1, 0, none⟩) K.m K.m]
  two : RL wr q 26 [.slice (some ⟨h, 0, none⟩) L.n L.n, .slice (some ⟨h + 1, 0, none⟩) L.m L.m]
  rk : (K.cp g).rd wr
  rl : (L.cp h).rd wr
theorem E2.call {w wr w' : World} {K L : CK} {p q g h : Nat} (s : E2 w wr K L p q g h) (hb : Below wr.heap.size wr w') : E2 w w' K L p q g h :=
  ⟨s.d.call hb, s.one.below hb s.one.lt, s.two.below hb s.two.lt, s.rk.stays hb, s.rl.stays hb⟩
theorem E2.drew {w wr : World} {K L : CK} {p q g h : Nat} (s : E2 w wr K L p q g h) (n : Nat) : E2 w (wr.drewN n) K L p q g h := s.call (below_drawn wr n)
theorem E2.cells {w wr : World} {K L : CK} {p q g h : Nat} (s : E2 w wr K L p q g h) : (wr.cell? ⟨p, 0, none⟩ = some (.slice (some ⟨g, 0, none⟩) K.n K.n) ∧ wr.cell? ⟨p, 1, none⟩ = some (.slice (some ⟨g + 1, 0, none⟩) K.m K.m)) ∧ wr.cell? ⟨q, 0, none⟩ = some (.slice (some ⟨h, 0, none⟩) L.n L.n) ∧ wr.cell? ⟨q, 1, none⟩ = some (.slice (some ⟨h + 1, 0, none⟩) L.m L.m) :=
  ⟨⟨s.one.cell 0 (by simp), s.one.cell 1 (by simp)⟩, s.two.cell 0 (by simp), s.two.cell 1 (by simp)⟩
end Go.Proofs.Ythkjikennlaelaa
