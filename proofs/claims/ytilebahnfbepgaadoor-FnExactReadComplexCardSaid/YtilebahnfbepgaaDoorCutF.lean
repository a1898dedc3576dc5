/-
  A text cut at its commas: the walk in the model. No theorem of a claim stands here.
-/
import Derived.Test.YtilebahnfbepgaaDoorCut0
import Derived.Test.YtilebahnfbepgaaDoorNumT
import Derived.Laws.Strings
import Derived.Lib.Strings
import Derived.Laws.Strings2
set_option linter.unusedVariables false
namespace Go.Proofs.YtilebahnfbepgaaDoor
open Go Go.RowKit Go.Deep Go.Proofs.YtilebahnfbepgaaDoor.Fl

def svals (D : List ByteArray) : List Value := D.map Value.string
theorem svals_snoc (D : List ByteArray) (x : ByteArray) : svals (D ++ [x]) = svals D ++ [.string x] := by simp [svals]

/-- Where the cutting stands: D is cut already, the piece that begins at f goes on at i. -/
def CutAt (s : ByteArray) (D : List ByteArray) (f i : Nat) : Prop :=
  (i ≤ s.size ∧ f ≤ i ∧ (∀ c ∈ (s.data.toList.drop f).take (i - f), c ≠ 44) ∧ D.map (·.data.toList) ++ cuts (s.data.toList.drop f) = cuts s.data.toList) ∨
  (i = s.size + 1 ∧ D.map (·.data.toList) = cuts s.data.toList)

theorem ext_list (s : ByteArray) (a b : Nat) : (s.extract a b).data.toList = (s.data.toList.drop a).take (b - a) := by
  rw [← ByteArray.toList_eq]; exact Lib.extract_toList s a b
theorem CutAt.start (s : ByteArray) : CutAt s [] 0 0 := .inl ⟨Nat.zero_le _, Nat.le_refl _, fun c hc => by simp at hc, by simp⟩
theorem drop_split {l : List UInt8} {f i : Nat} (h1 : f ≤ i) (h2 : i < l.length) : l.drop f = (l.drop f).take (i - f) ++ l[i] :: l.drop (i + 1) := by
  have h3 : (l.drop f).drop (i - f) = l[i] :: l.drop (i + 1) := by
    rw [List.drop_drop, show f + (i - f) = i by omega, List.drop_eq_getElem_cons h2]
  rw [← h3, List.take_append_drop]
theorem CutAt.next {s : ByteArray} {D : List ByteArray} {f i : Nat} (h : CutAt s D f i) (hi : i < s.size) (hc : s[i] ≠ 44) : CutAt s D f (i + 1) := by
  rcases h with ⟨h1, h2, h3, h4⟩ | ⟨h1, _⟩
  · refine .inl ⟨by omega, by omega, ?_, h4⟩
    have hl : i < s.data.toList.length := by simpa using hi
    intro c hcm
    have e : (s.data.toList.drop f).take (i + 1 - f) = (s.data.toList.drop f).take (i - f) ++ [s.data.toList[i]] := by
      rw [show i + 1 - f = (i - f) + 1 by omega]
      have hlt : i - f < (s.data.toList.drop f).length := by rw [List.length_drop]; omega
      rw [List.take_succ_eq_append_getElem hlt]
      congr 2
      rw [List.getElem_drop]
      congr 1
      omega
    rw [e] at hcm
    rcases List.mem_append.1 hcm with hm | hm
    · exact h3 c hm
    · simp at hm
      subst hm
      exact hc
  · omega
theorem CutAt.cut {s : ByteArray} {D : List ByteArray} {f i : Nat} (h : CutAt s D f i) (hi : i < s.size) (hc : s[i] = 44) : CutAt s (D ++ [s.extract f i]) (i + 1) (i + 1) := by
  rcases h with ⟨h1, h2, h3, h4⟩ | ⟨h1, _⟩
  · have hl : i < s.data.toList.length := by simpa using hi
    refine .inl ⟨by omega, Nat.le_refl _, fun c hc => by simp at hc, ?_⟩
    have e := drop_split h2 hl
    have e2 : s.data.toList[i] = 44 := hc
    rw [e2] at e
    rw [← h4, e, cuts_seg h3]
    simp
  · omega
theorem CutAt.last {s : ByteArray} {D : List ByteArray} {f i : Nat} (h : CutAt s D f i) (hi : i = s.size) : CutAt s (D ++ [s.extract f i]) (i + 1) (i + 1) := by
  rcases h with ⟨h1, h2, h3, h4⟩ | ⟨h1, _⟩
  · refine .inr ⟨by omega, ?_⟩
    have e : (s.data.toList.drop f).take (i - f) = s.data.toList.drop f := List.take_of_length_le (by rw [List.length_drop, Array.length_toList]; have : s.data.size = s.size := rfl; omega)
    rw [e] at h3
    rw [← h4, cuts_none h3]
    simp [e]
  · omega
theorem CutAt.done {s : ByteArray} {D : List ByteArray} {f i : Nat} (h : CutAt s D f i) (hi : s.size < i) : D.map (·.data.toList) = cuts s.data.toList := by
  rcases h with ⟨h1, _⟩ | ⟨_, h⟩
  · omega
  · exact h

set_option maxRecDepth 8000 in
set_option maxHeartbeats 2000000 in
theorem l01Cut_any (s : ByteArray) (hs : s.size ≤ 1048576) (w : World) :
    Calls Tryd.prog 31 #[.string s, .int .u8 44] w fun e w' => ∃ (D : List ByteArray) (g c : Nat), e = .returned (.slice (some ⟨g, 0, none⟩) D.length c) ∧ D.map (·.data.toList) = cuts s.data.toList ∧ w.heap.size ≤ g ∧ g < w'.heap.size ∧
      w'.ownsRow w.heap.size 9 1 (.slice (some ⟨g, 0, none⟩) D.length c) D.length (svals D) ∧ Below w.heap.size w w' := by
  obtain ⟨i0, hi, hz0, hz1, hz2⟩ := info_parts infoS
  go_enter Tryd.func31, Tryd.ntmps31
  go_wp2
  go_loopw [5, 6, 7] (fun O F I wr => ∃ (D : List ByteArray) (g c f i : Nat), O = .slice (some ⟨g, 0, none⟩) D.length c ∧ F = .int .i64 f ∧ I = .int .i64 i ∧ i ≤ s.size + 1 ∧ f ≤ i ∧ D.length ≤ i ∧ w.heap.size ≤ g ∧ g < wr.heap.size ∧
    Hid (CutAt s D f i) ∧ Hid (wr.ownsRow w.heap.size 9 1 (.slice (some ⟨g, 0, none⟩) D.length c) D.length (svals D)) ∧ Hid (Below w.heap.size w wr)) (fun _ _ I _ => s.size + 1 - (intOf I).toNat)
  case atStart =>
    refine ⟨[], w.heap.size, 0, 0, 0, rfl, rfl, rfl, by omega, Nat.le_refl _, Nat.le_refl _, Nat.le_refl _, by simp, Lib.hid (CutAt.start s), Lib.hid ?_, Lib.hid ((Below.refl _ _).alloc (Nat.le_refl _) _)⟩
    exact ⟨rfl, .inr ⟨w.heap.size, 0, #[], rfl, Nat.le_refl _, by show (w.heap.push _)[w.heap.size]? = _; simp, Nat.le_refl _, by simp [maxLen], rfl, rfl⟩⟩
  case round =>
    obtain ⟨D, g, c, f, i, rfl, rfl, rfl, hi1, hf, hD, hg0, hgs, Hc, Ho, Hw⟩ := hrel
    by_cases hgt : s.size < i
    · have hd := Hc.out.done hgt
      have Hd := Lib.hid hd
      clear hd
      have d1 : decide ((i : Int) ≤ (s.size : Int)) = false := by simp; omega
      go_wp2
      go_ret
      exact ⟨D, g, c, rfl, Hd.out, hg0, hgs, Ho.out, Hw.out⟩
    · have d1 : decide ((i : Int) ≤ (s.size : Int)) = true := by simp; omega
      by_cases hlast : i = s.size
      · have Hc2 := Lib.hid (Hc.out.last hlast)
        subst hlast
        have hsl := fun w => run_slice_string (P := Tryd.prog) (w := w) 9 s .i64 .i64 f s.size Tryd.underlying9 (by omega) (by omega) (by omega)
        go_wp2_with (at_builtin; refine wpList_append_own _ rfl (.tmp 26) (.tmp 31) 50 rfl w.heap.size 9 i0 (.string ByteArray.empty) 1 16 Tryd.underlying50 hi hz0 hz1 hz2 rfl (by decide) (.slice (some ⟨g, 0, none⟩) D.length c) D.length _ rfl (Ho.out.alloc _) ⟨wr.heap.size, 0, none⟩ 1 1 [.string (s.extract f s.size)] rfl (by simp) (cell_newrowB _ _ _) (str_one _) (by unfold maxLen; omega) (by omega) (by have := Hw.out.size; simp; omega) ?_; intro v' w3 hown' hgrow3 hnil3; obtain ⟨g', c', rfl, hg0', hgs', hc'⟩ := form_own hown'; have Hb3 := Lib.hid ((Hw.out.alloc Hw.out.size _).grown hgrow3 (by have := Hw.out.size; simp; omega) (by intro x hx; simp [Value.ownBlock] at hx; omega)); have Ho3 := Lib.hid hown'; clear hown' hgrow3 hnil3)
        go_roundw
        case rel => exact ⟨D ++ [s.extract f s.size], g', c', s.size + 1, s.size + 1, by simp, by go_num, by go_num, by omega, Nat.le_refl _, by simp; omega, hg0', hgs', Hc2, Lib.hid (by rw [svals_snoc, List.length_append, List.length_singleton]; exact Ho3.out), Hb3⟩
        case measure => simp [intOf]
      · have hlt : i < s.size := by omega
        have d2 : ((i : Int) == (s.size : Int)) = false := by rw [beq_eq_false_iff_ne]; omega
        by_cases hcm : (s[i].toNat : Int) = 44
        · have e44 : s[i] = 44 := UInt8.toNat_inj.1 (by show s[i].toNat = 44; omega)
          have Hc2 := Lib.hid (Hc.out.cut hlt e44)
          clear e44
          have hsl := fun w => run_slice_string (P := Tryd.prog) (w := w) 9 s .i64 .i64 f i Tryd.underlying9 (by omega) (by omega) (by omega)
          go_wp2_with (at_builtin; refine wpList_append_own _ rfl (.tmp 26) (.tmp 31) 50 rfl w.heap.size 9 i0 (.string ByteArray.empty) 1 16 Tryd.underlying50 hi hz0 hz1 hz2 rfl (by decide) (.slice (some ⟨g, 0, none⟩) D.length c) D.length _ rfl (Ho.out.alloc _) ⟨wr.heap.size, 0, none⟩ 1 1 [.string (s.extract f i)] rfl (by simp) (cell_newrowB _ _ _) (str_one _) (by unfold maxLen; omega) (by omega) (by have := Hw.out.size; simp; omega) ?_; intro v' w3 hown' hgrow3 hnil3; obtain ⟨g', c', rfl, hg0', hgs', hc'⟩ := form_own hown'; have Hb3 := Lib.hid ((Hw.out.alloc Hw.out.size _).grown hgrow3 (by have := Hw.out.size; simp; omega) (by intro x hx; simp [Value.ownBlock] at hx; omega)); have Ho3 := Lib.hid hown'; clear hown' hgrow3 hnil3)
          go_roundw
          case rel => exact ⟨D ++ [s.extract f i], g', c', i + 1, i + 1, by simp, by go_num, by go_num, by omega, Nat.le_refl _, by simp; omega, hg0', hgs', Hc2, Lib.hid (by rw [svals_snoc, List.length_append, List.length_singleton]; exact Ho3.out), Hb3⟩
          case measure => simp [intOf]; omega
        · have Hc2 := Lib.hid (Hc.out.next hlt (fun e => hcm (by rw [e]; rfl)))
          have d3 : ((s[i].toNat : Int) == 44) = false := by rw [beq_eq_false_iff_ne]; exact hcm
          go_wp2
          go_roundw
          case rel => exact ⟨D, g, c, f, i + 1, rfl, rfl, by go_num, by omega, by omega, by omega, hg0, hgs, Hc2, Ho, Hw⟩
          case measure => simp [intOf]; omega
end Go.Proofs.YtilebahnfbepgaaDoor
