/-
  Walks: a slice of floats copied; sums from left to right. No theorem of a claim stands here.
-/
import Derived.Test.YtcjkcoibeieeeaaGreatDoorCv
import Derived.Deep.OwnRows
set_option linter.unusedVariables false
namespace Go.Proofs.YtcjkcoibeieeeaaGreatDoor.Fl
open Go Go.RowKit Go.Deep

/-- A new row of n floats, the first k of l copied. -/
def cpA (l : List Nat) (n k : Nat) : Array Value := ((List.range n).map fun i => Value.float .f32 (if i < k then l.getD i 0 else 0)).toArray

theorem cpA_zero (l : List Nat) (n : Nat) : madeCells #[Value.float .f32 0] n = cpA l n 0 := by
  unfold madeCells cpA
  apply Array.ext
  · simp
  · intro i h1 h2
    simp [Nat.mod_one]

theorem cpA_step (l : List Nat) (n k : Nat) : (cpA l n k).setIfInBounds k (.float .f32 (l.getD k 0)) = cpA l n (k + 1) := by
  unfold cpA
  apply Array.ext
  · simp
  · intro i h1 h2
    have h3 : i < ((List.range n).map fun i => Value.float .f32 (if i < k then l.getD i 0 else 0)).toArray.size := by simpa using h1
    rw [Array.getElem_setIfInBounds h3]
    by_cases hi : k = i
    · subst hi; simp
    · have e : (i < k + 1) = (i < k) := by rw [eq_iff_iff]; omega
      simp [hi, e]

theorem cpA_full (l : List Nat) (n : Nat) (hl : l.length = n) : cpA l n n = fcells l := by
  unfold cpA fcells
  subst hl
  congr 1
  apply List.ext_getElem
  · simp
  · intro i h1 h2
    simp only [List.length_map, List.length_range] at h1
    simp [h1]

theorem cpA_get (l : List Nat) (n k : Nat) (hk : k < n) : (cpA l n k)[k]? = some (.float .f32 0) := by
  unfold cpA
  rw [List.getElem?_toArray, List.getElem?_map, List.getElem?_range hk]
  simp

theorem frozen_new (w : World) (c : Array Value) (t : TypeId) (i : Nat) : (w.alloc (.cells c t)).frozen? ⟨w.heap.size, i, none⟩ = false := by
  unfold World.frozen? World.alloc
  simp

theorem infoF : (Tryz.prog.info? 24).map (fun i => (i.zero, i.size, i.bytes)) = some (some (.float .f32 0), 1, 4) := by kernel_rfl

theorem row_len {w : World} {a : Option Addr} {len cap : Nat} {zs : List Nat} (ha : IsRowF .f32 w a len cap zs) : (zs.take len).length = len := by
  rcases ha with ⟨_, rfl, _, rfl⟩ | ⟨x, _, h2, _, h4, _⟩
  · rfl
  · simp; omega

theorem rowF_cell {w : World} {a : Option Addr} {len cap : Nat} {zs : List Nat} (h : IsRowF .f32 w a len cap zs) {k : Nat} (hk : k < len) : ∃ b o, a = some ⟨b, o, none⟩ ∧ len ≤ cap ∧ w.cell? ⟨b, o + k, none⟩ = some (.float .f32 ((zs.take len).getD k 0)) ∧ b < w.heap.size := by
  rcases h with ⟨_, rfl, _, _⟩ | ⟨x, rfl, h2, h3, h4, h5, h6⟩
  · omega
  · obtain ⟨b, o, s⟩ := x
    have hx0 := h5 0 (by omega)
    obtain rfl : s = none := by simpa [Addr.add] using World.cell?_spot hx0
    have hc := h5 k (by omega)
    rw [add_none] at hc
    have e : (zs.take len).getD k 0 = zs.getD k 0 := by simp [List.getD, hk]
    rw [e]
    refine ⟨b, o, rfl, h2, hc, ?_⟩
    unfold World.cell? at hc
    cases hb : w.heap[(⟨b, o + k, none⟩ : Addr).block]? with
    | none => rw [hb] at hc; simp at hc
    | some o' => exact (Array.getElem?_eq_some_iff.1 hb).1


theorem below_then {w w1 w2 : World} (h1 : Below w.heap.size w w1) (h2 : Below w1.heap.size w1 w2) : Below w.heap.size w w2 := h1.trans (h2.mono h1.size)
theorem below_alloc (w : World) (o : Obj) : Below w.heap.size w (w.alloc o) := (Below.refl _ _).alloc (Nat.le_refl _) _


theorem row_lt {w : World} {a : Option Addr} {len cap : Nat} {zs : List Nat} (h : IsRowF .f32 w a len cap zs) : ∀ n ∈ zs, n < 2 ^ 32 := by
  rcases h with ⟨_, _, _, rfl⟩ | ⟨x, _, _, _, _, _, h6⟩
  · intro n hn; cases hn
  · exact h6

/-- The sum from left to right. -/
def fsum (l : List Nat) : Option Nat := l.foldl (fun acc b => fop .add .f32 acc (vl .f32 b)) (some 0)
theorem fsum_snoc {l : List Nat} {k : Nat} (h : k < l.length) : fsum (l.take (k + 1)) = fop .add .f32 (fsum (l.take k)) (vl .f32 (l.getD k 0)) := by
  unfold fsum
  rw [List.take_succ_eq_append_getElem h, List.foldl_append]
  simp [List.getD, h]


theorem sumOf_any (w : World) (a : Option Addr) (len cap : Nat) (zs : List Nat) (ha : IsRowF .f32 w a len cap zs) (hl : len ≤ 256) :
    Calls Tryz.prog 48 #[.slice a len cap] w fun e w' => ∃ r n, e = .returned (.tuple #[.float .f32 r, .bool true]) ∧ vl .f32 r = fsum (zs.take len) ∧ r < 2 ^ 32 ∧ w' = w.drewN n := by
  have hadd := fun x y w => run_fov (P := Tryz.prog) .add rfl 24 .f32 x y w
  have hlen := row_len ha
  have Ha := Lib.hid ha
  clear ha
  go_enter Tryz.func48, Tryz.ntmps48
  go_wp2
  go_loopw [4, 13] (fun v i wr => ∃ k r n : Nat, k ≤ len ∧ v = .float .f32 r ∧ i = .int .i64 k ∧ r < 2 ^ 32 ∧ Hid (vl .f32 r = fsum ((zs.take len).take k)) ∧ wr = w.drewN n) (fun _ i _ => len - (intOf i).toNat)
  case atStart => exact ⟨0, 0, 0, Nat.zero_le _, rfl, rfl, by decide, by show vl .f32 0 = _; rw [vl_zero]; rfl, rfl⟩
  case round =>
    obtain ⟨k, r, n, hk, rfl, rfl, hr, hv, rfl⟩ := hrel
    by_cases hlt : k < len
    · obtain ⟨b, o, rfl, hcap, c1, _⟩ := rowF_cell Ha.out hlt
      have Hs := Lib.hid (fsum_snoc (l := zs.take len) (k := k) (by omega))
      generalize (zs.take len).getD k 0 = v at c1 Hs
      clear hlen
      go_wp2
      go_roundw
      case rel => exact ⟨k + 1, _, _, by omega, rfl, by go_num, fov_lt _ _ _ _ _, by show vl .f32 _ = _; rw [vl_fov, hv.out, Hs.out], rfl⟩
      case measure => simp [intOf]; omega
    · obtain rfl : k = len := by omega
      have Hv : Hid (vl .f32 r = fsum (zs.take k)) := by
        have := hv.out; rw [List.take_of_length_le (Nat.le_of_eq hlen)] at this; exact this
      clear hlen
      go_wp2
      go_ret2
      exact ⟨r, n, rfl, Hv.out, hr, rfl⟩

/-- A float and whether there is one. -/
def SRet (v : Option Nat) (ok : Bool) (w : World) (e : Ending) (w' : World) : Prop := ∃ r n, e = .returned (.tuple #[.float .f32 r, .bool ok]) ∧ vl .f32 r = v ∧ r < 2 ^ 32 ∧ w' = w.drewN n
def sumV (l : List Nat) : Option Nat := if l.length ≤ 256 then fsum l else some 0
def sumOk (n : Nat) : Bool := decide (n ≤ 256)


theorem sumOf_great (w : World) (a : Option Addr) (len cap : Nat) (hl : len ≤ 1048576) (h : 256 < len) :
    Calls Tryz.prog 48 #[.slice a len cap] w fun e w' => e = .returned (.tuple #[.float .f32 0, .bool false]) ∧ w = w' := by
  have d1 : (256 : Int) < len := by omega
  go_enter Tryz.func48, Tryz.ntmps48
  go_wp2
  go_ret2
  exact ⟨rfl, rfl⟩

theorem implSum_any (w : World) (a : Option Addr) (len cap : Nat) (zs : List Nat) (ha : IsRowF .f32 w a len cap zs) (hl : len ≤ 1048576) :
    Calls Tryz.prog 12 #[.slice a len cap] w (SRet (sumV (zs.take len)) (sumOk len) w) := by
  have hlen := row_len ha
  by_cases h : len ≤ 256
  · have Hv := Lib.hid (show sumV (zs.take len) = fsum (zs.take len) by unfold sumV; rw [if_pos (by omega)])
    have Ho := Lib.hid (show sumOk len = true by unfold sumOk; simp [h])
    clear hlen
    go_enter Tryz.func12, Tryz.ntmps12
    go_wp2_with (go_at_call 48; refine (sumOf_any _ _ _ _ _ ha h).mono ?_; rintro e w' ⟨r, n, rfl, hr, hr2, rfl⟩; have Hr := Lib.hid hr; clear hr)
    go_ret2
    exact ⟨r, _, by rw [Ho.out]; rfl, by rw [Hv.out, Hr.out], hr2, rfl⟩
  · have Hv := Lib.hid (show sumV (zs.take len) = some 0 by unfold sumV; rw [if_neg (by omega)])
    have Ho := Lib.hid (show sumOk len = false by unfold sumOk; simp; omega)
    clear hlen
    go_enter Tryz.func12, Tryz.ntmps12
    go_wp2_with (go_at_call 48; refine (sumOf_great _ _ _ _ hl (by omega)).mono ?_; rintro e w' ⟨rfl, rfl⟩)
    go_ret2
    exact ⟨0, 0, by rw [Ho.out]; rfl, by rw [Hv.out, vl_zero], by decide, rfl⟩
end Go.Proofs.YtcjkcoibeieeeaaGreatDoor.Fl
