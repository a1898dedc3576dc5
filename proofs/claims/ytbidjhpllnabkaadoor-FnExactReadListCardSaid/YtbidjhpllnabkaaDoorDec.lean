/-
  The decimal text of an integer: the walk in the model. No theorem of a claim stands here.
-/
import Derived.Test.YtbidjhpllnabkaaDoorRows
import Derived.WalkKit
import Derived.Deep.DeepCutAuto
import Derived.Laws.AppendOwn
import Derived.Lib.ItoaLen
import Derived.Lib.ItoaMem
import Derived.Lib.Hide
import Derived.Laws.IdiomStrings
set_option linter.unusedVariables false
namespace Go.Proofs.YtbidjhpllnabkaaDoor
open Go Go.RowKit

def by_ (b : UInt8) : Value := .int .u8 (b.toNat : Int)
def emptyOf : Value → Nat
  | .slice _ l _ => if l = 0 then 1 else 0
  | _ => 0

theorem dec_split (r : Int) : Lib.decDigits r.natAbs = (if r.tdiv 10 = 0 then [] else Lib.decDigits (r.tdiv 10).natAbs) ++ [UInt8.ofNat (48 + r.natAbs % 10)] := by
  have e : (r.tdiv 10).natAbs = r.natAbs / 10 := by rw [Int.natAbs_tdiv]; rfl
  rw [Lib.decDigits]
  by_cases h : r.natAbs < 10
  · rw [dif_pos h, if_pos (by omega), Nat.mod_eq_of_lt h]; rfl
  · rw [dif_neg h, if_neg (by omega), e]

/-- What is still to come (r) and what is told already (l). -/
def DecInv (n r : Int) (l : List UInt8) : Prop := (l = [] ∧ r = n) ∨ (l ≠ [] ∧ Lib.decDigits n.natAbs = (if r = 0 then [] else Lib.decDigits r.natAbs) ++ l)

theorem DecInv.step {n r : Int} {l : List UInt8} (h : DecInv n r l) (hg : l = [] ∨ r ≠ 0) : DecInv n (r.tdiv 10) (UInt8.ofNat (48 + r.natAbs % 10) :: l) := by
  right
  refine ⟨by simp, ?_⟩
  rcases h with ⟨rfl, rfl⟩ | ⟨h1, h2⟩
  · exact dec_split r
  · rw [h2, if_neg (hg.resolve_left h1), dec_split r, List.append_assoc]; rfl

theorem DecInv.len {n r : Int} {l : List UInt8} (h : DecInv n r l) (h0 : -9223372036854775808 ≤ n) (h1 : n ≤ 9223372036854775807) : l.length ≤ 20 := by
  rcases h with ⟨rfl, _⟩ | ⟨_, h2⟩
  · simp
  · have h3 := Lib.decDigits_length n.natAbs
    have h4 := Lib.nDigits_le20 n.natAbs (by omega)
    rw [h2, List.length_append] at h3
    omega

theorem own_new (w : World) (base : Nat) (e : TypeId) (x : Value) (hb : base ≤ w.heap.size) : (w.alloc (.cells #[x] e)).ownsRow base e 1 (.slice (some ⟨w.heap.size, 0, none⟩) 1 1) 1 [x] := by
  refine ⟨rfl, .inr ⟨w.heap.size, 1, #[x], rfl, hb, ?_, by omega, by simp [maxLen], rfl, rfl⟩⟩
  show (w.heap.push _)[w.heap.size]? = _
  simp

theorem byte_info : (Tryd.prog.info? 5).map (fun i => (i.zero, i.size, i.bytes)) = some (some (.int .u8 0), 1, 1) := by kernel_rfl

theorem cells_alloc {wr : World} {base g cap : Nat} {l : List UInt8} {e : TypeId} (h : wr.ownsRow base e 1 (.slice (some ⟨g, 0, none⟩) l.length cap) l.length (l.map by_)) (o : Obj) :
    ∀ j u, (l.map by_)[j]? = some u → (wr.alloc o).cell? (Addr.add ⟨g, 0, none⟩ j) = some u := (h.alloc o).cells (g := g) rfl
theorem by_one {l : List UInt8} : ∀ u ∈ l.map by_, u.oneCell' = true := by
  intro u hu
  obtain ⟨b, _, rfl⟩ := List.mem_map.1 hu
  rfl
theorem own_form {w : World} {base n : Nat} {e : TypeId} {v : Value} {xs : List Value} (h : w.ownsRow base e 1 v (1 + n) xs) : ∃ g cap, v = .slice (some ⟨g, 0, none⟩) (n + 1) cap := by
  rcases h.2 with ⟨_, h⟩ | ⟨g, cap, cur, h, _⟩
  · omega
  · exact ⟨g, cap, by rw [h, Nat.add_comm]⟩

theorem digit_neg {r : Int} (h : r.tmod 10 < 0) : wrap64 (48 + wrap64 (-r.tmod 10)) % 256 = ((UInt8.ofNat (48 + r.natAbs % 10)).toNat : Int) := by
  have e : (r.tmod 10).natAbs = r.natAbs % 10 := by rw [Int.natAbs_tmod]; rfl
  have e2 : (UInt8.ofNat (48 + r.natAbs % 10)).toNat = 48 + r.natAbs % 10 := by
    rw [UInt8.toNat_ofNat']; omega
  have w1 : wrap64 (-r.tmod 10) = ((r.natAbs % 10 : Nat) : Int) := by simp only [wrap64]; omega
  rw [e2, w1]
  simp only [wrap64]; omega
theorem digit_pos {r : Int} (h : ¬ r.tmod 10 < 0) : wrap64 (48 + r.tmod 10) % 256 = ((UInt8.ofNat (48 + r.natAbs % 10)).toNat : Int) := by
  have e : (r.tmod 10).natAbs = r.natAbs % 10 := by rw [Int.natAbs_tmod]; rfl
  have e2 : (UInt8.ofNat (48 + r.natAbs % 10)).toNat = 48 + r.natAbs % 10 := by
    rw [UInt8.toNat_ofNat']; omega
  rw [e2]
  simp only [wrap64]; omega

theorem own_at {w wr : World} (h : w.heap.size ≤ wr.heap.size) : ∀ k, (Value.slice (some ⟨wr.heap.size, 0, none⟩) 1 1).ownBlock = some k → w.heap.size ≤ k := by
  intro k hk
  simp [Value.ownBlock] at hk
  omega
theorem tdiv_in {r : Int} (r0 : -9223372036854775808 ≤ r) (r1 : r ≤ 9223372036854775807) : -9223372036854775808 ≤ r.tdiv 10 ∧ r.tdiv 10 ≤ 9223372036854775807 := by
  have e : (r.tdiv 10).natAbs = r.natAbs / 10 := by rw [Int.natAbs_tdiv]; rfl
  omega
theorem dec_meas (r : Int) (l : List UInt8) {a b : Option Addr} {c d : Nat} (h : l = [] ∨ r ≠ 0) : (intOf (.int .i64 (r.tdiv 10))).natAbs + emptyOf (.slice a (l.length + 1) c) < (intOf (.int .i64 r)).natAbs + emptyOf (.slice b l.length d) := by
  have e : (r.tdiv 10).natAbs = r.natAbs / 10 := by rw [Int.natAbs_tdiv]; rfl
  simp only [intOf, emptyOf]
  rw [e, if_neg (by omega)]
  rcases h with rfl | h
  · simp; omega
  · have : 0 < r.natAbs := by omega
    omega
theorem conv_cells {w : World} {base g cap m : Nat} {l : List UInt8} {e : TypeId} {v : Value} (hv : v = .slice (some ⟨g, 0, none⟩) m cap) (h : w.ownsRow base e 1 v l.length (l.map by_)) :
    ∀ j (hj : j < l.length), w.cell? (Addr.add ⟨g, 0, none⟩ j) = some (.int .u8 (l[j].toNat : Int)) := by
  intro j hj
  subst hv
  refine h.cells (g := g) rfl j _ ?_
  rw [List.getElem?_map, List.getElem?_eq_getElem hj]
  rfl
theorem itoa_of {n : Int} {l : List UInt8} (hl : l ≠ []) (h : DecInv n 0 l) : Lib.itoa n = if n < 0 then 45 :: l else l := by
  rcases h with ⟨h, _⟩ | ⟨_, h⟩
  · exact absurd h hl
  · rw [if_pos rfl, List.nil_append] at h
    unfold Lib.itoa
    by_cases hn : n < 0
    · rw [if_pos hn, if_pos hn, h]
    · rw [if_neg hn, if_neg hn, ← h]
      congr 1
      omega

set_option maxRecDepth 8000 in
set_option maxHeartbeats 2000000 in
theorem l01Dec_any (n : Int) (h0 : -9223372036854775808 ≤ n) (h1 : n ≤ 9223372036854775807) (w : World) :
    Calls Tryd.prog 27 #[.int .i64 n] w fun e w' => e = .returned (.string ⟨(Lib.itoa n).toArray⟩) ∧ Below w.heap.size w w' := by
  obtain ⟨i0, hi, hz0, hz1, hz2⟩ := info_parts byte_info
  go_enter Tryd.func27, Tryd.ntmps27
  go_wp2
  go_loopw [3, 4] (fun O R wr => ∃ (l : List UInt8) (g cap : Nat) (r : Int), O = .slice (some ⟨g, 0, none⟩) l.length cap ∧ R = .int .i64 r ∧ -9223372036854775808 ≤ r ∧ r ≤ 9223372036854775807 ∧
    Hid (wr.ownsRow w.heap.size 5 1 (.slice (some ⟨g, 0, none⟩) l.length cap) l.length (l.map by_)) ∧ Hid (Below w.heap.size w wr) ∧ Hid (DecInv n r l)) (fun O R _ => (intOf R).natAbs + emptyOf O)
  case atStart =>
    exact ⟨[], w.heap.size, 0, n, rfl, rfl, h0, h1, Lib.hid ⟨rfl, .inr ⟨w.heap.size, 0, #[], rfl, Nat.le_refl _, by show (w.heap.push _)[w.heap.size]? = _; simp, Nat.le_refl _, by simp [maxLen], rfl, rfl⟩⟩, Lib.hid ((Below.refl _ _).alloc (Nat.le_refl _) _), Lib.hid (.inl ⟨rfl, rfl⟩)⟩
  case round =>
    obtain ⟨l, g, cap, r, rfl, rfl, r0, r1, Ho, Hb, Hd⟩ := hrel
    by_cases hl : l = []
    · have hl2 : ((l.length : Int) == 0) = true := by subst hl; rfl
      have hle := Lib.hid hl
      clear hl
      by_cases hneg : r.tmod 10 < 0
      · have hneg2 : decide (r.tmod 10 < 0) = true := by simpa using hneg
        go_wp2_with (at_builtin; refine wpList_append_own _ rfl (.tmp 24) (.tmp 25) 51 rfl w.heap.size 5 i0 (.int .u8 0) 1 1 Tryd.underlying51 hi hz0 hz1 hz2 rfl (by decide) (.slice (some ⟨wr.heap.size, 0, none⟩) 1 1) 1 _ rfl (own_new wr w.heap.size 5 _ Hb.out.size) ⟨g, 0, none⟩ l.length cap (l.map by_) rfl (by simp) (cells_alloc Ho.out _) by_one (by have := Hd.out.len h0 h1; unfold maxLen; omega) (by have := Hd.out.len h0 h1; omega) (by have := Hb.out.size; simp; omega) ?_; intro v' w3 hown' hgrow3 hnil3; obtain ⟨g', cap', rfl⟩ := own_form hown'; have Hb3 := Lib.hid ((Hb.out.alloc Hb.out.size _).grown hgrow3 (by have := Hb.out.size; simp; omega) (own_at Hb.out.size)); have Ho3 := Lib.hid hown'; clear hown' hgrow3 hnil3)
        go_roundw
        case rel =>
          refine ⟨UInt8.ofNat (48 + r.natAbs % 10) :: l, g', cap', r.tdiv 10, rfl, rfl, (tdiv_in r0 r1).1, (tdiv_in r0 r1).2, Lib.hid ?_, Hb3, Lib.hid (Hd.out.step (.inl hle.out))⟩
          have h := Ho3.out
          rw [digit_neg hneg, Nat.add_comm 1 l.length] at h
          exact h
        case measure => exact dec_meas r l (.inl hle.out)
      · have hneg2 : decide (r.tmod 10 < 0) = false := by simpa using hneg
        go_wp2_with (at_builtin; refine wpList_append_own _ rfl (.tmp 24) (.tmp 25) 51 rfl w.heap.size 5 i0 (.int .u8 0) 1 1 Tryd.underlying51 hi hz0 hz1 hz2 rfl (by decide) (.slice (some ⟨wr.heap.size, 0, none⟩) 1 1) 1 _ rfl (own_new wr w.heap.size 5 _ Hb.out.size) ⟨g, 0, none⟩ l.length cap (l.map by_) rfl (by simp) (cells_alloc Ho.out _) by_one (by have := Hd.out.len h0 h1; unfold maxLen; omega) (by have := Hd.out.len h0 h1; omega) (by have := Hb.out.size; simp; omega) ?_; intro v' w3 hown' hgrow3 hnil3; obtain ⟨g', cap', rfl⟩ := own_form hown'; have Hb3 := Lib.hid ((Hb.out.alloc Hb.out.size _).grown hgrow3 (by have := Hb.out.size; simp; omega) (own_at Hb.out.size)); have Ho3 := Lib.hid hown'; clear hown' hgrow3 hnil3)
        go_roundw
        case rel =>
          refine ⟨UInt8.ofNat (48 + r.natAbs % 10) :: l, g', cap', r.tdiv 10, rfl, rfl, (tdiv_in r0 r1).1, (tdiv_in r0 r1).2, Lib.hid ?_, Hb3, Lib.hid (Hd.out.step (.inl hle.out))⟩
          have h := Ho3.out
          rw [digit_pos hneg, Nat.add_comm 1 l.length] at h
          exact h
        case measure => exact dec_meas r l (.inl hle.out)
    · have hl2 : ((l.length : Int) == 0) = false := by
        have : l.length ≠ 0 := by simpa using hl
        rw [beq_eq_false_iff_ne]; omega
      by_cases hr : r = 0
      · have hr2 : (r != 0) = false := by simp [hr]
        have hit := Lib.hid (itoa_of hl (hr ▸ Hd.out))
        by_cases hn : n < 0
        · have hn2 : decide (n < 0) = true := by simpa using hn
          rw [if_pos hn] at hit
          go_wp2_with (at_builtin; refine wpList_append_own _ rfl (.tmp 31) (.tmp 32) 51 rfl w.heap.size 5 i0 (.int .u8 0) 1 1 Tryd.underlying51 hi hz0 hz1 hz2 rfl (by decide) (.slice (some ⟨wr.heap.size, 0, none⟩) 1 1) 1 _ rfl (own_new wr w.heap.size 5 _ Hb.out.size) ⟨g, 0, none⟩ l.length cap (l.map by_) rfl (by simp) (cells_alloc Ho.out _) by_one (by have := Hd.out.len h0 h1; unfold maxLen; omega) (by have := Hd.out.len h0 h1; omega) (by have := Hb.out.size; simp; omega) ?_; intro v' w3 hown' hgrow3 hnil3; obtain ⟨g', cap', rfl⟩ := own_form hown'; have Hb3 := Lib.hid ((Hb.out.alloc Hb.out.size _).grown hgrow3 (by have := Hb.out.size; simp; omega) (own_at Hb.out.size)); have Ho3 := Lib.hid hown'; clear hown' hgrow3 hnil3; have hconv := run_convert_bytes_back (P := Tryd.prog) w3 51 9 5 ⟨g', 0, none⟩ cap' (45 :: l) Tryd.underlying51 Tryd.underlying5 Tryd.underlying9 (conv_cells rfl (by have h := Ho3.out; rw [Nat.add_comm 1 l.length] at h; exact h)); simp only [List.length_cons] at hconv)
          go_ret
          exact ⟨by (rw [hit.out]; first | done | rfl), Hb3.out⟩
        · have hn2 : decide (n < 0) = false := by simpa using hn
          rw [if_neg hn] at hit
          have hconv := run_convert_bytes_back (P := Tryd.prog) wr 51 9 5 ⟨g, 0, none⟩ cap l Tryd.underlying51 Tryd.underlying5 Tryd.underlying9 (conv_cells rfl Ho.out)
          go_wp2
          go_ret
          exact ⟨by (rw [hit.out]; first | done | rfl), Hb.out⟩
      · have hr2 : (r != 0) = true := by simp [hr]
        by_cases hneg : r.tmod 10 < 0
        · have hneg2 : decide (r.tmod 10 < 0) = true := by simpa using hneg
          go_wp2_with (at_builtin; refine wpList_append_own _ rfl (.tmp 24) (.tmp 25) 51 rfl w.heap.size 5 i0 (.int .u8 0) 1 1 Tryd.underlying51 hi hz0 hz1 hz2 rfl (by decide) (.slice (some ⟨wr.heap.size, 0, none⟩) 1 1) 1 _ rfl (own_new wr w.heap.size 5 _ Hb.out.size) ⟨g, 0, none⟩ l.length cap (l.map by_) rfl (by simp) (cells_alloc Ho.out _) by_one (by have := Hd.out.len h0 h1; unfold maxLen; omega) (by have := Hd.out.len h0 h1; omega) (by have := Hb.out.size; simp; omega) ?_; intro v' w3 hown' hgrow3 hnil3; obtain ⟨g', cap', rfl⟩ := own_form hown'; have Hb3 := Lib.hid ((Hb.out.alloc Hb.out.size _).grown hgrow3 (by have := Hb.out.size; simp; omega) (own_at Hb.out.size)); have Ho3 := Lib.hid hown'; clear hown' hgrow3 hnil3)
          go_roundw
          case rel =>
            refine ⟨UInt8.ofNat (48 + r.natAbs % 10) :: l, g', cap', r.tdiv 10, rfl, rfl, (tdiv_in r0 r1).1, (tdiv_in r0 r1).2, Lib.hid ?_, Hb3, Lib.hid (Hd.out.step (.inr hr))⟩
            have h := Ho3.out
            rw [digit_neg hneg, Nat.add_comm 1 l.length] at h
            exact h
          case measure => exact dec_meas r l (.inr hr)
        · have hneg2 : decide (r.tmod 10 < 0) = false := by simpa using hneg
          go_wp2_with (at_builtin; refine wpList_append_own _ rfl (.tmp 24) (.tmp 25) 51 rfl w.heap.size 5 i0 (.int .u8 0) 1 1 Tryd.underlying51 hi hz0 hz1 hz2 rfl (by decide) (.slice (some ⟨wr.heap.size, 0, none⟩) 1 1) 1 _ rfl (own_new wr w.heap.size 5 _ Hb.out.size) ⟨g, 0, none⟩ l.length cap (l.map by_) rfl (by simp) (cells_alloc Ho.out _) by_one (by have := Hd.out.len h0 h1; unfold maxLen; omega) (by have := Hd.out.len h0 h1; omega) (by have := Hb.out.size; simp; omega) ?_; intro v' w3 hown' hgrow3 hnil3; obtain ⟨g', cap', rfl⟩ := own_form hown'; have Hb3 := Lib.hid ((Hb.out.alloc Hb.out.size _).grown hgrow3 (by have := Hb.out.size; simp; omega) (own_at Hb.out.size)); have Ho3 := Lib.hid hown'; clear hown' hgrow3 hnil3)
          go_roundw
          case rel =>
            refine ⟨UInt8.ofNat (48 + r.natAbs % 10) :: l, g', cap', r.tdiv 10, rfl, rfl, (tdiv_in r0 r1).1, (tdiv_in r0 r1).2, Lib.hid ?_, Hb3, Lib.hid (Hd.out.step (.inr hr))⟩
            have h := Ho3.out
            rw [digit_pos hneg, Nat.add_comm 1 l.length] at h
            exact h
          case measure => exact dec_meas r l (.inr hr)
end Go.Proofs.YtbidjhpllnabkaaDoor
