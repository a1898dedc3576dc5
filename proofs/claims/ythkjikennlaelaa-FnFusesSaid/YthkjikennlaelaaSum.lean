/-
  Walks: a slice of floats copied; sums from left to right. No theorem of a claim stands here.
-/
import Derived.Test.YthkjikennlaelaaCv
import Derived.Deep.OwnRows
set_option linter.unusedVariables false
namespace Go.Proofs.Ythkjikennlaelaa.Fl
open Go Go.RowKit Go.Deep

/-- A new row of n floats, the first k of l copied. -/
def cpA (l : List Nat) (n k : Nat) : Array Value := ((List.range n).map fun i => Value.float .f32 (if i < k then l.getD i 0 else 0)).toArray

theorem cpA_zero (l : List Nat) (n : Nat) : madeCells #[Value.float .f32 0] n = cpA l n 0 := by
  unfold madeCells cpA
  apply Array.ext
  · simp
  · intro i h1 h2
    simp [Nat.mod_one]

theorem cpA_step (l : List Nat) (n k : Nat) : (cpA l n k).setIfInBounds k (.float .f32 (l.getD k 0)) = cpA l n (k + 1) := by
  unfold cpA
  apply Array.ext
  · simp
  · intro i h1 h2
    have h3 : i < ((List.range n).map fun i => Value.float .f32 (if i < k then l.getD i 0 else 0)).toArray.size := by simpa using h1
    rw [Array.getElem_setIfInBounds h3]
    by_cases hi : k = i
    · subst hi; simp
    · have e : (i < k + 1) = (i < k) := by rw [eq_iff_iff]; omega
      simp [hi, e]

theorem cpA_full (l : List Nat) (n : Nat) (hl : l.length = n) : cpA l n n = fcells l := by
  unfold cpA fcells
  subst hl
  congr 1
  apply List.ext_getElem
  · simp
  · intro i h1 h2
    simp only [List.length_map, List.length_range] at h1
    simp [h1]

theorem cpA_get (l : List Nat) (n k : Nat) (hk : k < n) : (cpA l n k)[k]? = some (.float .f32 0) := by
  unfold cpA
  rw [List.getElem?_toArray, List.getElem?_map, List.getElem?_range hk]
  simp

theorem frozen_new (w : World) (c : Array Value) (t : TypeId) (i : Nat) : (w.alloc (.cells c t)).frozen? ⟨w.heap.size, i, none⟩ = false := by
  unfold World.frozen? World.alloc
  simp

theorem infoF : (Try.prog.info? 28).map (fun i => (i.zero, i.size, i.bytes)) = some (some (.float .f32 0), 1, 4) := by kernel_rfl

theorem row_len {w : World} {a : Option Addr} {len cap : Nat} {zs : List Nat} (ha : IsRowF .f32 w a len cap zs) : (zs.take len).length = len := by
  rcases ha with ⟨_, rfl, _, rfl⟩ | ⟨x, _, h2, _, h4, _⟩
  · rfl
  · simp; omega

theorem rowF_cell {w : World} {a : Option Addr} {len cap : Nat} {zs : List Nat} (h : IsRowF .f32 w a len cap zs) {k : Nat} (hk : k < len) : ∃ b o, a = some ⟨b, o, none⟩ ∧ len ≤ cap ∧ w.cell? ⟨b, o + k, none⟩ = some (.float .f32 ((zs.take len).getD k 0)) ∧ b < w.heap.size := by
  rcases h with ⟨_, rfl, _, _⟩ | ⟨x, rfl, h2, h3, h4, h5, h6⟩
  · omega
  · obtain ⟨b, o, s⟩ := x
    have hx0 := h5 0 (by omega)
    obtain rfl : s = none := by simpa [Addr.add] using World.cell?_spot hx0
    have hc := h5 k (by omega)
    rw [add_none] at hc
    have e : (zs.take len).getD k 0 = zs.getD k 0 := by simp [List.getD, hk]
    rw [e]
    refine ⟨b, o, rfl, h2, hc, ?_⟩
    unfold World.cell? at hc
    cases hb : w.heap[(⟨b, o + k, none⟩ : Addr).block]? with
    | none => rw [hb] at hc; simp at hc
    | some o' => exact (Array.getElem?_eq_some_iff.1 hb).1

theorem toFloats_any (w : World) (a : Option Addr) (len cap : Nat) (zs : List Nat) (ha : IsRowF .f32 w a len cap zs) (hl : len ≤ 1048576) :
    Calls Try.prog 43 #[.slice a len cap] w fun e w' => e = .returned (.slice (some ⟨w.heap.size, 0, none⟩) len len) ∧ w' = w.alloc (.cells (fcells (zs.take len)) 28) := by
  have hlen := row_len ha
  have hmk := run_make_row' (P := Try.prog) 24 28 (.float .f32 0) 4 Try.underlying24 infoF rfl .i64 .i64 len (by omega) (by omega)
  rw [cpA_zero (zs.take len)] at hmk
  have Hfull := Lib.hid (cpA_full (zs.take len) len hlen)
  have hst := fun (a : Addr) (v : Nat) (m : Mode) (w : World) => run_store Try.prog w a (.float .f32 v) m rfl
  have Ha := Lib.hid ha
  clear ha
  go_enter Try.func43, Try.ntmps43
  go_wp2
  go_loopw [4] (fun i wr => ∃ k : Nat, k ≤ len ∧ i = .int .i64 k ∧ wr = w.alloc (.cells (cpA (zs.take len) len k) 28)) (fun i _ => len - (intOf i).toNat)
  case atStart => exact ⟨0, Nat.zero_le _, rfl, rfl⟩
  case round =>
    obtain ⟨k, hk, rfl, rfl⟩ := hrel
    by_cases hlt : k < len
    · obtain ⟨b, o, rfl, hcap, hc, hbs⟩ := rowF_cell Ha.out hlt
      have c1 : (w.alloc (.cells (cpA (zs.take len) len k) 28)).cell? ⟨b, o + k, none⟩ = some (.float .f32 ((zs.take len).getD k 0)) := by
        rw [World.cell?_alloc_lt _ _ _ hbs]; exact hc
      have c2 : (w.alloc (.cells (cpA (zs.take len) len k) 28)).cell? ⟨w.heap.size, k, none⟩ = some (.float .f32 0) := by
        rw [World.cell?_alloc_new]; exact cpA_get _ len k hlt
      have c4 := cpA_get (zs.take len) len k hlt
      have c3 := frozen_new w (cpA (zs.take len) len k) 28 k
      have Hs := Lib.hid (cpA_step (zs.take len) len k)
      generalize (zs.take len).getD k 0 = v at c1 Hs
      clear hlen hc
      go_wp2
      go_roundw
      case rel => exact ⟨k + 1, by omega, by go_num, by rw [← Hs.out]⟩
      case measure => simp [intOf]; omega
    · obtain rfl : k = len := by omega
      clear hlen
      go_wp2
      go_ret
      exact ⟨rfl, by rw [← Hfull.out]⟩

theorem below_then {w w1 w2 : World} (h1 : Below w.heap.size w w1) (h2 : Below w1.heap.size w1 w2) : Below w.heap.size w w2 := h1.trans (h2.mono h1.size)
theorem below_alloc (w : World) (o : Obj) : Below w.heap.size w (w.alloc o) := (Below.refl _ _).alloc (Nat.le_refl _) _

/-- The same, the world behind a name: the copy reads as the row, all rows stay, nothing that was there has changed. -/
theorem copyFloats (w : World) (a : Option Addr) (len cap : Nat) (zs : List Nat) (ha : IsRowF .f32 w a len cap zs) (hl : len ≤ 1048576) (hn : ∀ n ∈ zs, n < 2 ^ 32) :
    Calls Try.prog 43 #[.slice a len cap] w fun e w' => ∃ x, e = .returned (.slice x len len) ∧ IsRowF .f32 w' x len len (zs.take len) ∧
      (∀ a l c z, IsRowF .f32 w a l c z → IsRowF .f32 w' a l c z) ∧ Below w.heap.size w w' := by
  refine (toFloats_any w a len cap zs ha hl).mono ?_
  rintro e w' ⟨rfl, rfl⟩
  have hlen := row_len ha
  have h := isRowF_new w 28 (zs.take len) (by unfold maxLen; omega) (fun n hn' => hn n (List.mem_of_mem_take hn'))
  rw [hlen] at h
  exact ⟨_, rfl, h, fun a l c z hz => isRowF_alloc hz _, below_alloc _ _⟩

theorem row_lt {w : World} {a : Option Addr} {len cap : Nat} {zs : List Nat} (h : IsRowF .f32 w a len cap zs) : ∀ n ∈ zs, n < 2 ^ 32 := by
  rcases h with ⟨_, _, _, rfl⟩ | ⟨x, _, _, _, _, _, h6⟩
  · intro n hn; cases hn
  · exact h6

/-- The sum from left to right. -/
def fsum (l : List Nat) : Option Nat := l.foldl (fun acc b => fop .add .f32 acc (vl .f32 b)) (some 0)
theorem fsum_snoc {l : List Nat} {k : Nat} (h : k < l.length) : fsum (l.take (k + 1)) = fop .add .f32 (fsum (l.take k)) (vl .f32 (l.getD k 0)) := by
  unfold fsum
  rw [List.take_succ_eq_append_getElem h, List.foldl_append]
  simp [List.getD, h]



/-- A float and whether there is one. -/
def SRet (v : Option Nat) (ok : Bool) (w : World) (e : Ending) (w' : World) : Prop := ∃ r n, e = .returned (.tuple #[.float .f32 r, .bool ok]) ∧ vl .f32 r = v ∧ r < 2 ^ 32 ∧ w' = w.drewN n
def sumV (l : List Nat) : Option Nat := if l.length ≤ 256 then fsum l else some 0
def sumOk (n : Nat) : Bool := decide (n ≤ 256)


end Go.Proofs.Ythkjikennlaelaa.Fl
