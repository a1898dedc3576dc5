/-
  The reading of lists of integers: the walks in the model and in the program. No theorem of a claim stands here.
-/
import Derived.Test.YtbidjhpllnabkaaDoorCutW
import Derived.Test.YtbidjhpllnabkaaDoorMarks
import Derived.Test.YtbidjhpllnabkaaDoorDecRead
set_option linter.unusedVariables false
namespace Go.Proofs.YtbidjhpllnabkaaDoor
open Go Go.RowKit Go.Deep

def listVal (s : List UInt8) : List Int := (readList s).getD []
def listGood (s : List UInt8) : Bool := (readList s).isSome

theorem cuts_short : ∀ (l : List UInt8), ∀ p ∈ cuts l, p.length ≤ l.length := by
  intro l
  induction l with
  | nil => intro p hp; simp [cuts] at hp; subst hp; simp
  | cons c r ih =>
    intro p hp
    unfold cuts at hp
    split at hp
    · rcases List.mem_cons.1 hp with rfl | hp
      · simp
      · have := ih p hp; simp; omega
    · cases hc : cuts r with
      | nil => exact absurd hc (cuts_ne r)
      | cons q qs =>
        rw [hc] at hp ih
        simp only at hp
        rcases List.mem_cons.1 hp with rfl | hp
        · have := ih q (by simp); simp; omega
        · have := ih p (List.mem_cons_of_mem _ hp); simp; omega

theorem own_ne {w : World} {b1 b2 g g2 n n2 c c2 : Nat} {t1 t2 : TypeId} {xs ys : List Value} (h : w.ownsRow b1 t1 1 (.slice (some ⟨g, 0, none⟩) n c) n xs) (h2 : w.ownsRow b2 t2 1 (.slice (some ⟨g2, 0, none⟩) n2 c2) n2 ys) (ht : t1 ≠ t2) : g ≠ g2 := by
  intro e
  subst e
  rcases h.2 with ⟨h, _⟩ | ⟨x, cap, cur, e1, _, hh, _⟩
  · cases h
  · rcases h2.2 with ⟨h2, _⟩ | ⟨y, cap2, cur2, e2, _, hh2, _⟩
    · cases h2
    · simp at e1 e2
      rw [← e1.1] at hh
      rw [← e2.1] at hh2
      rw [hh] at hh2
      simp at hh2
      exact ht hh2.2

/-- The pieces of a text lie in a row of the call's own. -/
structure Pieces (base : Nat) (w : World) (s : ByteArray) (D : List ByteArray) (g c : Nat) : Prop where
  cut : D.map (·.data.toList) = cuts s.data.toList
  low : base ≤ g
  lt : g < w.heap.size
  own : w.ownsRow base 9 1 (.slice (some ⟨g, 0, none⟩) D.length c) D.length (svals D)

theorem Pieces.below {base : Nat} {w w' : World} {s : ByteArray} {D : List ByteArray} {g c B : Nat} (h : Pieces base w s D g c) (hb : Below B w w') (hB : w.heap.size ≤ B) : Pieces base w' s D g c :=
  ⟨h.cut, h.low, Nat.lt_of_lt_of_le h.lt hb.size, h.own.below hb (Nat.lt_of_lt_of_le h.lt hB)⟩
theorem Pieces.grown {base : Nat} {w w' : World} {s : ByteArray} {D : List ByteArray} {g c : Nat} {row : Option Nat} (h : Pieces base w s D g c) (hg : w.grownBy w' row) (hne : row ≠ some g) : Pieces base w' s D g c :=
  ⟨h.cut, h.low, Nat.lt_of_lt_of_le h.lt hg.size, h.own.kept hg (.inr fun e => hne e.symm)⟩
theorem Pieces.cell {base : Nat} {w : World} {s : ByteArray} {D : List ByteArray} {g c k : Nat} (h : Pieces base w s D g c) (hk : k < D.length) : w.cell? ⟨g, k, none⟩ = some (.string D[k]) ∧ D.length ≤ c := by
  refine ⟨?_, ?_⟩
  · have := h.own.cells (g := g) rfl k (.string D[k]) (by unfold svals; rw [List.getElem?_map, List.getElem?_eq_getElem hk]; rfl)
    rwa [iadd_none, Nat.zero_add] at this
  · rcases h.own.2 with ⟨h, _⟩ | ⟨x, cap, cur, e1, _, _, h3, _⟩
    · cases h
    · simp at e1; omega
theorem Pieces.get {base : Nat} {w : World} {s : ByteArray} {D : List ByteArray} {g c k : Nat} (h : Pieces base w s D g c) (hk : k < D.length) : ∃ hk2 : k < (cuts s.data.toList).length, (cuts s.data.toList)[k] = D[k].data.toList ∧ D[k].size ≤ s.size := by
  have hl : (cuts s.data.toList).length = D.length := by rw [← h.cut, List.length_map]
  refine ⟨by omega, ?_, ?_⟩
  · simp only [← h.cut, List.getElem_map]
  · have h1 : D[k].data.toList ∈ cuts s.data.toList := by rw [← h.cut]; exact List.mem_map.2 ⟨D[k], List.getElem_mem hk, rfl⟩
    have h2 := cuts_short _ _ h1
    simpa using h2

theorem readList_few {s : ByteArray} (hn : s.data.toList ≠ [110, 111, 110, 101]) (hl : (cuts s.data.toList).length ≤ 64) : readList s.data.toList = readAll (cuts s.data.toList) := by
  unfold readList; rw [if_neg hn, if_pos hl]
theorem readList_many {s : ByteArray} (hn : s.data.toList ≠ [110, 111, 110, 101]) (hl : 64 < (cuts s.data.toList).length) : readList s.data.toList = none := by
  unfold readList; rw [if_neg hn, if_neg (by omega)]
theorem int_one (n : Int) : ∀ u ∈ [Value.int .i64 n], u.oneCell' = true := by
  intro u hu
  simp at hu
  subst hu
  rfl
theorem readAll_take_nil (ps : List (List UInt8)) : readAll (ps.take 0) = some [] := rfl

set_option maxRecDepth 8000 in
set_option maxHeartbeats 2000000 in
theorem l01Numbers_any (s : ByteArray) (hs : s.size ≤ 1048576) (w : World) :
    Calls Tryd.prog 24 #[.string s] w fun e w' => ∃ a cap, e = .returned (.tuple #[.slice a (listVal s.data.toList).length cap, .bool (listGood s.data.toList)]) ∧ OwnI w.heap.size w' a cap (listVal s.data.toList) ∧ Below w.heap.size w w' := by
  have hel : s.toList = s.data.toList := ByteArray.toList_eq s
  by_cases hn : s.data.toList = [110, 111, 110, 101]
  · have Hv := Lib.hid (show listVal s.data.toList = [] ∧ listGood s.data.toList = true by unfold listVal listGood readList; rw [if_pos hn]; exact ⟨rfl, rfl⟩)
    have hn2 : (s.toList == [110, 111, 110, 101]) = true := by rw [hel, hn]; rfl
    clear hn hel
    go_enter Tryd.func24, Tryd.ntmps24
    go_wp2
    go_ret2
    refine ⟨some ⟨w.heap.size, 0, none⟩, 0, ?_, ?_, below_al _ _⟩
    · rw [Hv.out.1, Hv.out.2]; rfl
    · rw [Hv.out.1]
      exact ⟨rfl, .inr ⟨w.heap.size, 0, #[], rfl, Nat.le_refl _, by show (w.heap.push _)[w.heap.size]? = _; simp, Nat.le_refl _, by simp [maxLen], rfl, rfl⟩⟩
  · obtain ⟨i0, hi, hz0, hz1, hz2⟩ := info_parts infoI
    have hn2 : (s.toList == [110, 111, 110, 101]) = false := by rw [hel, beq_eq_false_iff_ne]; exact hn
    clear hel
    go_enter Tryd.func24, Tryd.ntmps24
    go_wp2_with fail
    refine (l01Cut_any s hs _).mono ?_
    rintro e w1 ⟨D, g, c, rfl, hcut, hg0, hgs, hown, hb⟩
    have Hw1 := Lib.hid ((below_al w _).trans (hb.mono (by simp)) : Below w.heap.size w w1)
    have Hp1 := Lib.hid (show Pieces (w.heap.size + 1) w1 s D g c from ⟨hcut, by simpa using hg0, hgs, by have := hown; simpa using this⟩)
    have Ho1 := Lib.hid (show w1.ownsRow w.heap.size 2 1 (.slice (some ⟨w.heap.size, 0, none⟩) 0 0) 0 (ivals []) by
      refine World.ownsRow.below (B := (w.alloc (.cells #[] 2)).heap.size) ?_ hb (by simp)
      exact ⟨rfl, .inr ⟨w.heap.size, 0, #[], rfl, Nat.le_refl _, by show (w.heap.push _)[w.heap.size]? = _; simp, Nat.le_refl _, by simp [maxLen], rfl, rfl⟩⟩)
    have hlc : (cuts s.data.toList).length = D.length := by rw [← hcut, List.length_map]
    have hDl : D.length ≤ s.size + 1 := by have := cuts_len s.data.toList; rw [hlc] at this; simpa using this
    clear hb hcut hown hg0
    by_cases hmany : 64 < D.length
    · have hr := readList_many hn (by omega)
      have Hv := Lib.hid (show listVal s.data.toList = [] ∧ listGood s.data.toList = false by unfold listVal listGood; rw [hr]; exact ⟨rfl, rfl⟩)
      have d1 : decide (64 < (D.length : Int)) = true := by simp; omega
      clear hr hn hlc
      go_wp2
      go_ret2
      refine ⟨none, 0, ?_, ?_, Hw1.out⟩
      · rw [Hv.out.1, Hv.out.2]; rfl
      · rw [Hv.out.1]; exact OwnI.nil _ _
    · have Hr := Lib.hid (readList_few hn (by omega))
      have d1 : decide (64 < (D.length : Int)) = false := by simp; omega
      have Hlc := Lib.hid hlc
      clear hn hlc
      go_wp2_with fail
      go_loopw [4, 6] (fun O I wr => ∃ (k g2 c2 : Nat) (l : List Int), k ≤ D.length ∧ I = .int .i64 k ∧ O = .slice (some ⟨g2, 0, none⟩) k c2 ∧ l.length = k ∧ w.heap.size ≤ g2 ∧ g2 < wr.heap.size ∧ Hid (g2 ≠ g) ∧
        Hid (readAll ((cuts s.data.toList).take k) = some l) ∧ Hid (Pieces (w.heap.size + 1) wr s D g c) ∧ Hid (wr.ownsRow w.heap.size 2 1 (.slice (some ⟨g2, 0, none⟩) k c2) k (ivals l)) ∧ Hid (Below w.heap.size w wr)) (fun _ I _ => D.length - (intOf I).toNat)
      case atStart => exact ⟨0, w.heap.size, 0, [], Nat.zero_le _, rfl, rfl, rfl, Nat.le_refl _, by have := Hw1.out.size; have := Hp1.out.low; omega, Lib.hid (by have := Hp1.out.low; omega), Lib.hid rfl, Hp1, Ho1, Hw1⟩
      case round =>
        obtain ⟨k, g2, c2, l, hk, rfl, rfl, hlk, hg2, hgs2, Hne, Hl, Hp, Ho, Hw⟩ := hrel
        by_cases hlt : k < D.length
        · obtain ⟨hc1, hDc⟩ := Hp.out.cell hlt
          obtain ⟨hk2, hget, hsz⟩ := Hp.out.get hlt
          have hpv := fun w' => l01Value_any D[k] (by omega) w'
          cases hrd : readDec D[k].data.toList with
          | none =>
            have hbad := readAll_bad hk2 (by rw [hget]; exact hrd)
            have Hv := Lib.hid (show listVal s.data.toList = [] ∧ listGood s.data.toList = false by unfold listVal listGood; rw [Hr.out, hbad]; exact ⟨rfl, rfl⟩)
            simp only [hrd, resInt] at hpv
            clear hget hbad hrd
            generalize D[k] = pc at hc1 hpv hsz
            go_wp2_with (go_at_call 16; refine (hpv _).mono ?_; rintro e w2 ⟨rfl, hb⟩; have Hb := Lib.hid (Hw.out.trans (hb.mono Hw.out.size)); clear hb)
            go_ret2
            refine ⟨none, 0, ?_, ?_, Hb.out⟩
            · rw [Hv.out.1, Hv.out.2]; rfl
            · rw [Hv.out.1]; exact OwnI.nil _ _
          | some n =>
            have Hl2 := Lib.hid (readAll_snoc hk2 Hl.out (by rw [hget]; exact hrd))
            simp only [hrd, resInt] at hpv
            clear hget hrd
            generalize D[k] = pc at hc1 hpv hsz
            go_wp2_with (first | (go_at_call 16; refine (hpv _).mono ?_; rintro e w2 ⟨rfl, hb⟩; have Hb := Lib.hid (Hw.out.trans (hb.mono Hw.out.size)); have Ho2 := Lib.hid (Ho.out.below hb hgs2); have Hp2 := Lib.hid (Hp.out.below hb (Nat.le_refl _)); have hgs3 : g2 < w2.heap.size := Nat.lt_of_lt_of_le hgs2 hb.size; clear hb) | (at_builtin; refine wpList_append_own _ rfl (.tmp 34) (.tmp 36) 25 rfl w.heap.size 2 i0 (.int .i64 0) 1 8 Tryd.underlying25 hi hz0 hz1 hz2 rfl (by decide) (.slice (some ⟨g2, 0, none⟩) k c2) k _ rfl (Ho2.out.alloc _) ⟨w2.heap.size, 0, none⟩ 1 1 [.int .i64 n] rfl (by simp) (cell_newrow _ _ _) (int_one _) (by unfold maxLen; omega) (by omega) (by have := Hb.out.size; simp; omega) ?_; intro v' w3 hown' hgrow3 hnil3; obtain ⟨g', c', rfl, hg0', hgs', hc'⟩ := form_own hown'; have Hb3 := Lib.hid ((Hb.out.alloc Hb.out.size _).grown hgrow3 (by have := Hb.out.size; simp; omega) (by intro x hx; simp [Value.ownBlock] at hx; omega)); have Hp3 := Lib.hid ((Hp2.out.below (below_al w2 _) (Nat.le_refl _)).grown hgrow3 (by intro e; simp [Value.ownBlock] at e; exact Hne.out e)); have Hne3 := Lib.hid (own_ne hown' Hp3.out.own (by decide)); have Ho3 := Lib.hid hown'; clear hown' hgrow3 hnil3))
            go_roundw
            case rel => exact ⟨k + 1, g', c', l ++ [n], by omega, by go_num, rfl, by simp [hlk], hg0', hgs', Hne3, Hl2, Hp3, Lib.hid (by rw [ivals_snoc]; exact Ho3.out), Hb3⟩
            case measure => simp [intOf]; omega
        · obtain rfl : k = D.length := by omega
          have Hv := Lib.hid (show listVal s.data.toList = l ∧ listGood s.data.toList = true by
            have h1 := Hl.out
            rw [List.take_of_length_le (by rw [Hlc.out]; exact Nat.le_refl _)] at h1
            unfold listVal listGood
            rw [Hr.out, h1]; exact ⟨rfl, rfl⟩)
          go_wp2
          go_ret2
          refine ⟨some ⟨g2, 0, none⟩, c2, ?_, ?_, Hw.out⟩
          · rw [Hv.out.1, Hv.out.2, hlk]; rfl
          · rw [Hv.out.1]; unfold OwnI; rw [hlk]; exact Ho.out
end Go.Proofs.YtbidjhpllnabkaaDoor
