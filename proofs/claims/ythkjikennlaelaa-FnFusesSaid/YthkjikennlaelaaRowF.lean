/-
  Lists of floats: read, owned, marked, held against the marks (no text of a number). No theorem of a claim stands here.
-/
import Derived.Test.YthkjikennlaelaaRows
import Derived.Test.YthkjikennlaelaaCv
import Derived.Outline
import Derived.OwnWalk
import Derived.Deep.OwnRows
import Derived.Deep.Slices
import Derived.Laws.AppendOwn
import Derived.Lib.Hide
import Derived.Deep.RegionWith
set_option linter.unusedVariables false
set_option maxRecDepth 8000
namespace Go.Proofs.Ythkjikennlaelaa
open Go Go.RowKit Go.Deep Go.Proofs.Ythkjikennlaelaa.Fl

theorem infoF32 : (Try.prog.info? 28).map (fun i => (i.zero, i.size, i.bytes)) = some (some (.float .f32 0), 1, 4) := by kernel_rfl
theorem cell_newrowB (w : World) (v : Value) (t : TypeId) : ∀ j u, [v][j]? = some u → (w.alloc (.cells #[v] t)).cell? ((⟨w.heap.size, 0, none⟩ : Addr).add j) = some u := by
  intro j u hu
  have hj : j = 0 := by
    cases j with
    | zero => rfl
    | succ j => simp at hu
  subst hj
  simp at hu
  subst hu
  rw [add_none, Nat.zero_add, World.cell?_alloc_new]
  rfl
/-- The slice (a, len, cap) reads as the floats l in w. -/
def FRd (w : World) (a : Option Addr) (len cap : Nat) (l : List Nat) : Prop :=
  l.length = len ∧ len ≤ cap ∧ (∀ k, k < len → ∃ b o, a = some ⟨b, o, none⟩ ∧ w.cell? ⟨b, o + k, none⟩ = some (.float .f32 (l.getD k 0)) ∧ b < w.heap.size) ∧ ∀ n ∈ l, n < 2 ^ 32

theorem FRd.stays {w w' : World} {a : Option Addr} {len cap : Nat} {l : List Nat} {B : Nat} (h : FRd w a len cap l) (hb : Below B w w') (hB : w.heap.size ≤ B) : FRd w' a len cap l := by
  obtain ⟨h1, h2, h4, h5⟩ := h
  refine ⟨h1, h2, fun k hk => ?_, h5⟩
  obtain ⟨b, o, e, hc, hl⟩ := h4 k hk
  exact ⟨b, o, e, (hb.cell (show (⟨b, o + k, none⟩ : Addr).block < B from Nat.lt_of_lt_of_le hl hB)).trans hc, Nat.lt_of_lt_of_le hl hb.size⟩
theorem FRd.bound {w : World} {a : Option Addr} {len cap : Nat} {l : List Nat} (h : FRd w a len cap l) {k : Nat} (hk : k < len) : l.getD k 0 < 2 ^ 32 := by
  have hl : k < l.length := by rw [h.1]; exact hk
  have e : l.getD k 0 = l[k] := by simp [List.getD, hl]
  rw [e]; exact h.2.2.2 _ (List.getElem_mem hl)
theorem _root_.Go.World.ownsRow.below {w w' : World} {base g n c B : Nat} {e : TypeId} {xs : List Value} (h : w.ownsRow base e 1 (.slice (some ⟨g, 0, none⟩) n c) n xs) (hb : Below B w w') (hg : g < B) : w'.ownsRow base e 1 (.slice (some ⟨g, 0, none⟩) n c) n xs := by
  refine ⟨h.1, ?_⟩
  rcases h.2 with ⟨h, _⟩ | ⟨g', cap, cur, e1, h1, h2, h3⟩
  · cases h
  · have e2 : g' = g := by simp at e1; exact e1.1.symm
    exact .inr ⟨g', cap, cur, e1, h1, by rw [hb.block g' (by omega)]; exact h2, h3⟩
theorem form_own {w : World} {base n : Nat} {e : TypeId} {v : Value} {xs : List Value} (h : w.ownsRow base e 1 v (n + 1) xs) : ∃ g cap, v = .slice (some ⟨g, 0, none⟩) (n + 1) cap ∧ base ≤ g ∧ g < w.heap.size ∧ n + 1 ≤ cap := by
  rcases h.2 with ⟨_, h⟩ | ⟨g, cap, cur, h, hb, hg, hc, _⟩
  · omega
  · exact ⟨g, cap, h, hb, (Array.getElem?_eq_some_iff.1 hg).1, hc⟩
def fvals (l : List Nat) : List Value := l.map fun n => Value.float .f32 n
theorem fvals_snoc (l : List Nat) (n : Nat) : fvals (l ++ [n]) = fvals l ++ [.float .f32 n] := by simp [fvals]
theorem f_one (n : Nat) : ∀ u ∈ [Value.float .f32 n], u.oneCell' = true := by
  intro u hu
  simp at hu
  subst hu
  rfl
/-- The slice is the call's own, from the block 'base' on, and holds the floats l. -/
def OwnF (base : Nat) (w : World) (a : Option Addr) (cap : Nat) (l : List Nat) : Prop :=
  w.ownsRow base 28 1 (.slice a l.length cap) l.length (fvals l)
theorem OwnF.nil (base : Nat) (w : World) : OwnF base w none 0 [] := ⟨rfl, .inl ⟨rfl, rfl⟩⟩
theorem OwnF.below {base : Nat} {w w' : World} {a : Option Addr} {cap : Nat} {l : List Nat} {B : Nat} (h : OwnF base w a cap l) (hb : Below B w w') (hB : w.heap.size ≤ B) : OwnF base w' a cap l := by
  refine ⟨h.1, ?_⟩
  rcases h.2 with h2 | ⟨g, c, cur, e1, h1, h2, h3⟩
  · exact .inl h2
  · have := (Array.getElem?_eq_some_iff.1 h2).1
    exact .inr ⟨g, c, cur, e1, h1, by rw [hb.block g (by omega)]; exact h2, h3⟩
theorem OwnF.base {b1 b2 : Nat} {w : World} {a : Option Addr} {cap : Nat} {l : List Nat} (h : OwnF b1 w a cap l) (hb : b2 ≤ b1) : OwnF b2 w a cap l := by
  refine ⟨h.1, ?_⟩
  rcases h.2 with h2 | ⟨g, c, cur, e1, h1, h2, h3⟩
  · exact .inl h2
  · exact .inr ⟨g, c, cur, e1, by omega, h2, h3⟩
theorem OwnF.cell {base : Nat} {w : World} {a : Option Addr} {cap : Nat} {l : List Nat} (h : OwnF base w a cap l) {k : Nat} (hk : k < l.length) :
    ∃ g, a = some ⟨g, 0, none⟩ ∧ base ≤ g ∧ g < w.heap.size ∧ l.length ≤ cap ∧ w.cell? ⟨g, k, none⟩ = some (.float .f32 (l.getD k 0)) := by
  rcases h.2 with ⟨_, h2⟩ | ⟨g, c, cur, e1, h1, h2, h3, h4, h5, h6⟩
  · omega
  · simp at e1
    obtain ⟨rfl, rfl⟩ := e1
    refine ⟨g, rfl, h1, (Array.getElem?_eq_some_iff.1 h2).1, h3, ?_⟩
    have := h.cells (g := g) rfl k (.float .f32 (l.getD k 0)) (by unfold fvals; rw [List.getElem?_map, List.getElem?_eq_getElem hk]; simp [List.getD, hk])
    rwa [add_none, Nat.zero_add] at this
theorem OwnF.row {base : Nat} {w : World} {a : Option Addr} {cap : Nat} {l : List Nat} (h : OwnF base w a cap l) (hl : l ≠ []) :
    ∃ (g : Nat) (f : Nat → Value), a = some ⟨g, 0, none⟩ ∧ base ≤ g ∧ g < w.heap.size ∧ l.length ≤ cap ∧ cap ≤ maxLen ∧ w.rowIs g 28 cap f := by
  rcases h.2 with ⟨_, h2⟩ | ⟨g, c, cur, e1, h1, h2, h3, h4, h5, h6⟩
  · exact absurd (List.length_eq_zero_iff.1 h2) hl
  · simp at e1
    obtain ⟨rfl, rfl⟩ := e1
    exact ⟨g, fun i => cur.getD i (.bool false), rfl, h1, (Array.getElem?_eq_some_iff.1 h2).1, h3, h4, cur, h2, by omega, fun i hi => by
      have : i < cur.size := by omega
      simp [Array.getD, this]⟩
theorem own_of_row {base g cap : Nat} {w : World} {f : Nat → Value} {l : List Nat} (h : w.rowIs g 28 cap f) (hb : base ≤ g) (hc : l.length ≤ cap) (hm : cap ≤ maxLen) (hf : ∀ i, i < l.length → f i = .float .f32 (l.getD i 0)) : OwnF base w (some ⟨g, 0, none⟩) cap l := by
  obtain ⟨cur, h2, h3, h4⟩ := h
  refine ⟨by simp [fvals], .inr ⟨g, cap, cur, rfl, hb, h2, hc, hm, by omega, ?_⟩⟩
  apply List.ext_getElem?
  intro j
  rw [List.getElem?_take, Nat.mul_one]
  unfold fvals
  rw [List.getElem?_map]
  by_cases hj : j < l.length
  · rw [if_pos hj, Array.getElem?_toList, h4 j (by omega), hf j hj, List.getElem?_eq_getElem hj]
    simp [List.getD, hj]
  · rw [if_neg hj, List.getElem?_eq_none (by omega)]
    rfl

theorem OwnF.reads {base : Nat} {w : World} {a : Option Addr} {cap : Nat} {l : List Nat} (h : OwnF base w a cap l) (hw : ∀ n ∈ l, n < 2 ^ 32) : FRd w a l.length cap l := by
  refine ⟨rfl, ?_, fun k hk => ?_, hw⟩
  · rcases h.2 with ⟨e, h2⟩ | ⟨g, c, cur, e1, h1, h2, h3, _⟩
    · simp at e; omega
    · simp at e1; omega
  · obtain ⟨g, e, _, hl, _, hc⟩ := h.cell hk
    exact ⟨g, 0, e, by rw [Nat.zero_add]; exact hc, hl⟩

/-- The number that a mark is, as a float. -/
def fm (m : Nat) : Nat := floatOfInt .f32 (m : Int)
theorem fm_good : ∀ m : Nat, m < 300 → (vl .f32 (fm m)).isSome = true ∧ fm m < 4294967296 := by decide +kernel
theorem fm_some {m : Nat} (h : m < 300) : ∃ c, vl .f32 (fm m) = some c := Option.isSome_iff_exists.1 (fm_good m h).1
def fmarks (n : Nat) : List Nat := (List.range n).map fun j => fm (1 + j)
theorem fmarks_len (n : Nat) : (fmarks n).length = n := by simp [fmarks]
theorem fmarks_in (n : Nat) (hn : n ≤ 256) : ∀ x ∈ fmarks n, x < 2 ^ 32 := by
  intro x hx
  unfold fmarks at hx
  simp at hx
  obtain ⟨j, hj, rfl⟩ := hx
  exact (fm_good (1 + j) (by omega)).2
theorem fmarks_get {n k : Nat} (hk : k < n) : (fmarks n).getD k 0 = fm (1 + k) := by simp [fmarks, List.getD, hk]

set_option maxHeartbeats 4000000 in
theorem eqF_any (w : World) (a b : Option Addr) (len cap cap2 : Nat) (l : List Nat) (ha : FRd w a len cap l) (hb : FRd w b len cap2 l) (hl : len ≤ 1048576) :
    Calls Try.prog 44 #[.slice a len cap, .slice b len cap2] w (VRet (.bool true) w) := by
  have hne : ((len : Int) != (len : Int)) = false := by simp
  have hcv := run_cv
  have Ha := Lib.hid ha
  have Hb := Lib.hid hb
  clear ha hb
  go_enter Try.func44, Try.ntmps44
  go_wp2
  go_loopw [5] (fun i wr => ∃ k n : Nat, k ≤ len ∧ i = .int .i64 k ∧ wr = w.drewN n) (fun i _ => len - (intOf i).toNat)
  case atStart => exact ⟨0, 0, Nat.zero_le _, rfl, rfl⟩
  case round =>
    obtain ⟨k, n, hk, rfl, rfl⟩ := hrel
    by_cases hlt : k < len
    · obtain ⟨b1, o1, rfl, c1, hbs1⟩ := Ha.out.2.2.1 k hlt
      obtain ⟨b2, o2, rfl, c2, hbs2⟩ := Hb.out.2.2.1 k hlt
      have hc1 := Ha.out.2.1
      have hc2 := Hb.out.2.1
      generalize l.getD k 0 = v at c1 c2
      go_wp2
      go_region_with (go_at_call 33; refine (sameFloat_any _ _ (same_cvv _ _ _) _).mono ?_; rintro e w' ⟨m, rfl, rfl⟩)
      all_goals go_wp2
      all_goals (go_roundw; (case rel => exact ⟨k + 1, _, by omega, by go_num, rfl⟩); (case measure => simp [intOf]; omega))
    · obtain rfl : k = len := by omega
      go_wp2
      go_ret
      exact ⟨n, rfl, rfl⟩

theorem markF_any (w : World) (base : Nat) (a : Option Addr) (cap : Nat) (l : List Nat) (ha : OwnF base w a cap l) (hl : l.length ≤ 256) (hb : base ≤ w.heap.size) :
    Calls Try.prog 61 #[.slice a l.length cap, .int .i64 1] w fun e w' => e = .returned (.int .i64 (1 + l.length)) ∧ OwnF base w' a cap (fmarks l.length) ∧ Below base w w' := by
  by_cases hz : l = []
  · subst hz
    go_enter Try.func61, Try.ntmps61
    go_wp2
    go_loopw [1, 5] (fun M i wr => M = .int .i64 1 ∧ i = .int .i64 0 ∧ wr = w) (fun _ i _ => 0)
    case atStart => exact ⟨rfl, rfl, rfl⟩
    case round =>
      obtain ⟨rfl, rfl, rfl⟩ := hrel
      go_wp2
      go_ret
      exact ⟨by simp, ha, Below.refl _ _⟩
  obtain ⟨g, f, rfl, hg, hgs, hc, hcm, hrow⟩ := ha.row hz
  have hst := fun (a : Addr) (v : Nat) (m : Mode) (w : World) => run_store Try.prog w a (.float .f32 v) m rfl
  generalize hn : l.length = n at *
  clear ha hz
  go_enter Try.func61, Try.ntmps61
  go_wp2
  go_loopw [1, 5] (fun M i wr => ∃ k : Nat, k ≤ n ∧ M = .int .i64 (1 + k) ∧ i = .int .i64 k ∧ Hid (wr.rowIs g 28 cap (fun j => if j < k then .float .f32 (fm (1 + j)) else f j)) ∧ Hid (Below base w wr)) (fun _ i _ => n - (intOf i).toNat)
  case atStart => exact ⟨0, Nat.zero_le _, by simp, rfl, Lib.hid (by simpa using hrow), Lib.hid (Below.refl _ _)⟩
  case round =>
    obtain ⟨k, hk, rfl, rfl, Hr, Hw⟩ := hrel
    by_cases hlt : k < n
    · have c1 := Hr.out.cell (i := k) (by omega)
      have c3 := Hr.out.frozen k
      rw [if_neg (Nat.lt_irrefl k)] at c1
      have hfm : floatOfInt .f32 (1 + (k : Int)) = fm (1 + k) := by unfold fm; congr 1
      have Hr2 := Lib.hid (Hr.out.set k (.float .f32 (fm (1 + k))))
      have Hw2 := Lib.hid (Hw.out.setCell (p := ⟨g, k, none⟩) hg (.float .f32 (fm (1 + k))))
      generalize f k = fv at c1
      generalize hF : fm (1 + k) = F at hfm Hr2 Hw2
      go_wp2
      go_roundw
      case rel =>
        refine ⟨k + 1, by omega, by go_num, by go_num, Lib.hid ?_, Hw2⟩
        refine Hr2.out.congr fun j hj => ?_
        by_cases e : j = k
        · subst e; simp [hF]
        · by_cases e2 : j < k
          · rw [if_neg e, if_pos e2, if_pos (by omega)]
          · rw [if_neg e, if_neg e2, if_neg (by omega)]
      case measure => simp [intOf]; omega
    · obtain rfl : k = n := by omega
      go_wp2
      go_ret
      refine ⟨rfl, own_of_row Hr.out hg (by rw [fmarks_len]; exact hc) hcm (fun i hi => ?_), Hw.out⟩
      rw [fmarks_len] at hi
      rw [if_pos hi, fmarks_get hi]

theorem heldF_any (w : World) (a : Option Addr) (cap : Nat) (n : Nat) (ha : FRd w a n cap (fmarks n)) (hl : n ≤ 256) :
    Calls Try.prog 62 #[.slice a n cap, .int .i64 1] w fun e w' => e = .returned (.int .i64 (1 + n)) ∧ w' = w := by
  have Ha := Lib.hid ha
  clear ha
  go_enter Try.func62, Try.ntmps62
  go_wp2
  go_loop [1, 5] (fun M i => ∃ k : Nat, k ≤ n ∧ M = .int .i64 (1 + k) ∧ i = .int .i64 k) (fun _ i => n - (intOf i).toNat)
  case atStart => exact ⟨0, Nat.zero_le _, by simp, rfl⟩
  case round =>
    obtain ⟨k, hk, rfl, rfl⟩ := hrel
    by_cases hlt : k < n
    · obtain ⟨b, o, rfl, hc, hbs⟩ := Ha.out.2.2.1 k hlt
      have hcap := Ha.out.2.1
      rw [fmarks_get hlt] at hc
      have hfm : floatOfInt .f32 (1 + (k : Int)) = fm (1 + k) := by unfold fm; congr 1
      obtain ⟨c, hcs⟩ := fm_some (m := 1 + k) (by omega)
      have hne := order_self_num hcs
      generalize fm (1 + k) = F at hc hfm hne
      clear hcs
      go_wp2
      go_round
      case rel => exact ⟨k + 1, by omega, by go_num, by go_num⟩
      case measure => simp [intOf]; omega
    · obtain rfl : k = n := by omega
      go_wp2
      go_ret
      exact ⟨rfl, rfl⟩
end Go.Proofs.Ythkjikennlaelaa
