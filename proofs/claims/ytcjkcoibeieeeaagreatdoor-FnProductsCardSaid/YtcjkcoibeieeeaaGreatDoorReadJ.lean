/-
  The reading of lists of numbers: the walk in the program. No theorem of a claim stands here.
-/
import Derived.Test.YtcjkcoibeieeeaaGreatDoorReadS
set_option linter.unusedVariables false
namespace Go.Proofs.YtcjkcoibeieeeaaGreatDoor
open Go Go.RowKit Go.Deep Go.Proofs.YtcjkcoibeieeeaaGreatDoor.Fl

/-- What a row's list gives for a reading by pieces. -/
structure VarsN (w : World) : Prop where
  vars : VarsH w
  mlen : ∃ m, w.cell? ⟨4, 0, none⟩ = some (.int .i64 m)
theorem VarsN.stays {w w' : World} {B : Nat} (h : VarsN w) (hb : Below B w w') (hB : w.heap.size ≤ B) : VarsN w' := by
  obtain ⟨m, hm⟩ := h.mlen
  have hl : 4 < w.heap.size := World.block_lt_of_cell? w _ hm
  exact ⟨h.vars.stays hb hB, m, (hb.cell (show (⟨4, 0, none⟩ : Addr).block < B from Nat.lt_of_lt_of_le hl hB)).trans hm⟩

abbrev comma : ByteArray := ⟨#[44]⟩
def splitP (s : ByteArray) : List ByteArray := Lib.splitB comma 0 (min 257 (s.size + 1) - 1) s
theorem splitP_data (s : ByteArray) : (splitP s).map (·.data.toList) = Lib.splitK [44] 0 (min 257 (s.size + 1) - 1) s.data.toList := Lib.splitB_data comma 0 _ s
theorem splitP_few {s : ByteArray} (h : (cuts s.data.toList).length ≤ 256) : (splitP s).map (·.data.toList) = cuts s.data.toList := by
  rw [splitP_data]
  have h2 := cuts_len s.data.toList
  have e : s.data.toList.length = s.size := by simp
  exact (splitK_cuts _ _).1 (by omega)
theorem splitP_many {s : ByteArray} (h : 256 < (cuts s.data.toList).length) : 256 < (splitP s).length := by
  have h2 := cuts_len s.data.toList
  have e : s.data.toList.length = s.size := by simp
  have h3 : ((splitP s).map (·.data.toList)).length = (splitP s).length := List.length_map ..
  rw [← h3, splitP_data]
  by_cases hc : (cuts s.data.toList).length ≤ min 257 (s.size + 1) - 1 + 1
  · rw [(splitK_cuts _ _).1 hc]; exact h
  · rw [(splitK_cuts _ _).2 (by omega)]; omega
theorem splitP_le (s : ByteArray) : (splitP s).length ≤ min 257 (s.size + 1) := by
  have := Lib.splitB_length_le comma 0 (min 257 (s.size + 1) - 1) s
  unfold splitP; omega
theorem splitP_own (s : ByteArray) (w : World) : (w.alloc (.cells (Lib.cellsOf (splitP s) (min 257 (s.size + 1))) 9)).ownsRow w.heap.size 9 1 (.slice (some ⟨w.heap.size, 0, none⟩) (splitP s).length (min 257 (s.size + 1))) (splitP s).length (svals (splitP s)) := by
  have hl := splitP_le s
  refine ⟨by simp [svals], .inr ⟨w.heap.size, min 257 (s.size + 1), Lib.cellsOf (splitP s) (min 257 (s.size + 1)), rfl, Nat.le_refl _, by show (w.heap.push _)[w.heap.size]? = _; simp, hl, by unfold maxLen; omega, by rw [Lib.cellsOf_size hl, Nat.mul_one], ?_⟩⟩
  unfold Lib.cellsOf svals
  rw [Nat.mul_one, List.take_append_of_le_length (by simp)]
  exact List.take_of_length_le (by simp)

set_option maxRecDepth 8000 in
set_option maxHeartbeats 2000000 in
theorem splitItemsF_any (s : ByteArray) (hs : s.size ≤ 1048576) (w : World) (hv : VarsN w) :
    Calls Tryz.prog 51 #[.string s, .int .i64 256, .func (.func 52) #[] #[]] w fun e w' => ∃ a cap, e = .returned (.tuple #[.slice a (nlistVal s.data.toList).length cap, .bool (nlistGood s.data.toList)]) ∧ OwnF w.heap.size w' a cap (nlistVal s.data.toList) ∧ Below w.heap.size w w' := by
  have hel : s.toList = s.data.toList := ByteArray.toList_eq s
  by_cases hn : s.data.toList = [110, 111, 110, 101]
  · have Hv := Lib.hid (show nlistVal s.data.toList = [] ∧ nlistGood s.data.toList = true by unfold nlistVal nlistGood readNList; rw [if_pos hn]; exact ⟨rfl, rfl⟩)
    have hn2 : (s.toList == [110, 111, 110, 101]) = true := by rw [hel, hn]; rfl
    clear hn hel
    go_enter Tryz.func51, Tryz.ntmps51
    go_wp2
    go_ret2
    refine ⟨none, 0, ?_, ?_, Below.refl _ _⟩
    · rw [Hv.out.1, Hv.out.2]; rfl
    · rw [Hv.out.1]; exact OwnF.nil _ _
  · obtain ⟨i0, hi, hz0, hz1, hz2⟩ := info_parts infoF32
    have hn2 : (s.toList == [110, 111, 110, 101]) = false := by rw [hel, beq_eq_false_iff_ne]; exact hn
    clear hel
    obtain ⟨m, hm⟩ := hv.mlen
    have hS := Tryz.strings_SplitN s comma 257 m w (by omega) hm (by decide) (by decide) (by decide)
    have hle := splitP_le s
    have hown := splitP_own s w
    have hS : Calls Tryz.prog 83 #[.string s, .string comma, .int .i64 257] w fun e w' => e = .returned (.slice (some ⟨w.heap.size, 0, none⟩) (splitP s).length (min 257 (s.size + 1))) ∧ Below w.heap.size w w' ∧ w.heap.size < w'.heap.size ∧ w'.ownsRow w.heap.size 9 1 (.slice (some ⟨w.heap.size, 0, none⟩) (splitP s).length (min 257 (s.size + 1))) (splitP s).length (svals (splitP s)) :=
      hS.mono fun e w' ⟨he, hw⟩ => by subst hw; exact ⟨he, (Below.refl _ _).alloc (Nat.le_refl _) _, by simp, hown⟩
    generalize hD : splitP s = D at hS hle hown
    generalize min 257 (s.size + 1) = c at hS hle hown
    by_cases hmany : 256 < (cuts s.data.toList).length
    · have hr := readN_many hn hmany
      have Hv := Lib.hid (show nlistVal s.data.toList = [] ∧ nlistGood s.data.toList = false by unfold nlistVal nlistGood; rw [hr]; exact ⟨rfl, rfl⟩)
      have hm2 := splitP_many hmany
      rw [hD] at hm2
      have d1 : decide (256 < (D.length : Int)) = true := by simp; omega
      clear hr hn hown hD
      go_enter Tryz.func51, Tryz.ntmps51
      go_wp2_with (go_at_call 83; refine hS.mono ?_; rintro e w1 ⟨rfl, hb, hlt, hown⟩; have Hb := Lib.hid hb; clear hb hown)
      go_ret2
      refine ⟨none, 0, ?_, ?_, Hb.out⟩
      · rw [Hv.out.1, Hv.out.2]; rfl
      · rw [Hv.out.1]; exact OwnF.nil _ _
    · have hcut := splitP_few (s := s) (by omega)
      rw [hD] at hcut
      have hlc : (cuts s.data.toList).length = D.length := by rw [← hcut, List.length_map]
      have Hr := Lib.hid (readN_few hn (by omega))
      have d1 : decide (256 < (D.length : Int)) = false := by simp; omega
      have hD64 : D.length ≤ 256 := by omega
      have Hlc := Lib.hid hlc
      have Hcut := Lib.hid hcut
      clear hn hown hD hlc hcut hmany
      have hmk := fun w => run_make (P := Tryz.prog) w 30 24 i0 (.float .f32 0) Tryz.underlying30 hi hz0 .i64 .i64 0 D.length (Int.le_refl _) (by omega) (by rw [hz2]; omega) (by omega)
      go_enter Tryz.func51, Tryz.ntmps51
      go_wp2_with (go_at_call 83; refine hS.mono ?_; rintro e w1 ⟨rfl, hb, hlt, hown⟩; have Hw1 := Lib.hid hb; have Hp1 := Lib.hid (show Pieces w.heap.size w1 s D w.heap.size c from ⟨Hcut.out, Nat.le_refl _, hlt, hown⟩); clear hb hown)
      go_loopw [9, 29] (fun O I wr => ∃ (k g2 c2 : Nat) (l : List Nat), k ≤ D.length ∧ I = .int .i64 k ∧ O = .slice (some ⟨g2, 0, none⟩) k c2 ∧ l.length = k ∧ w.heap.size ≤ g2 ∧ g2 < wr.heap.size ∧ Hid (g2 ≠ w.heap.size) ∧
        Hid (readNums ((cuts s.data.toList).take k) = some l) ∧ Hid (Pieces w.heap.size wr s D w.heap.size c) ∧ Hid (wr.ownsRow w.heap.size 24 1 (.slice (some ⟨g2, 0, none⟩) k c2) k (fvals l)) ∧ Hid (Below w.heap.size w wr)) (fun _ I _ => D.length - (intOf I).toNat)
      case atStart =>
        refine ⟨0, w1.heap.size, D.length, [], Nat.zero_le _, rfl, rfl, rfl, Hw1.out.size, by simp, Lib.hid (by omega), Lib.hid rfl, Lib.hid (Hp1.out.below ((Below.refl _ _).alloc (Nat.le_refl _) _ : Below w1.heap.size w1 _) (Nat.le_refl _)), Lib.hid ?_, Lib.hid (Hw1.out.alloc Hw1.out.size _)⟩
        have := World.ownsRow_made (w := w1) (base := w.heap.size) (e := 24) (size := 1) (madeCells (Value.float .f32 0).cells ((D.length : Int).toNat * i0.size)) D.length Hw1.out.size (by unfold maxLen; omega) (by simp [madeCells, Value.cells, hz1])
        have e : madeCells (Value.float .f32 0).cells ((D.length : Int).toNat * i0.size) = madeCells #[Value.float .f32 0] D.length := by rw [hz1, Nat.mul_one]; rfl
        rw [e] at this
        simpa [fvals, hz1] using this
      case round =>
        obtain ⟨k, g2, c2, l, hk, rfl, rfl, hlk, hg2, hgs2, Hne, Hl, Hp, Ho, Hw⟩ := hrel
        by_cases hlt2 : k < D.length
        · obtain ⟨hc1, hDc⟩ := Hp.out.cell hlt2
          obtain ⟨hk2, hget, hsz⟩ := Hp.out.get hlt2
          have hpv := fun w' (h : Below w.heap.size w w') => readNumber_any D[k] (by omega) w' (hv.vars.stays h (Nat.le_refl _))
          cases hrd : readNum D[k].data.toList with
          | none =>
            have hbad := readNums_bad hk2 (by rw [hget]; exact hrd)
            have Hv := Lib.hid (show nlistVal s.data.toList = [] ∧ nlistGood s.data.toList = false by unfold nlistVal nlistGood; rw [Hr.out, hbad]; exact ⟨rfl, rfl⟩)
            simp only [hrd, resNum] at hpv
            clear hget hbad hrd
            generalize D[k] = pc at hc1 hpv hsz
            go_wp2_with (go_at_call 52; refine (hpv _ Hw.out).mono ?_; rintro e w2 ⟨rfl, hb⟩; have Hb := Lib.hid (Hw.out.trans (hb.mono Hw.out.size)); clear hb)
            go_ret2
            refine ⟨none, 0, ?_, ?_, Hb.out⟩
            · rw [Hv.out.1, Hv.out.2]; rfl
            · rw [Hv.out.1]; exact OwnF.nil _ _
          | some n =>
            have Hl2 := Lib.hid (readNums_snoc hk2 Hl.out (by rw [hget]; exact hrd))
            simp only [hrd, resNum] at hpv
            clear hget hrd
            generalize D[k] = pc at hc1 hpv hsz
            go_wp2_with (first | (go_at_call 52; refine (hpv _ Hw.out).mono ?_; rintro e w2 ⟨rfl, hb⟩; have Hb := Lib.hid (Hw.out.trans (hb.mono Hw.out.size)); have Ho2 := Lib.hid (Ho.out.below hb hgs2); have Hp2 := Lib.hid (Hp.out.below hb (Nat.le_refl _)); have hgs3 : g2 < w2.heap.size := Nat.lt_of_lt_of_le hgs2 hb.size; clear hb) | (at_builtin; refine wpList_append_own _ rfl (.tmp 41) (.tmp 43) 30 rfl w.heap.size 24 i0 (.float .f32 0) 1 4 Tryz.underlying30 hi hz0 hz1 hz2 rfl (by decide) (.slice (some ⟨g2, 0, none⟩) k c2) k _ rfl (Ho2.out.alloc _) ⟨w2.heap.size, 0, none⟩ 1 1 [.float .f32 n] rfl (by simp) (cell_newrowB _ _ _) (f_one _) (by unfold maxLen; omega) (by omega) (by have := Hb.out.size; simp; omega) ?_; intro v' w3 hown' hgrow3 hnil3; obtain ⟨g', c', rfl, hg0', hgs', hc'⟩ := form_own hown'; have Hb3 := Lib.hid ((Hb.out.alloc Hb.out.size _).grown hgrow3 (by have := Hb.out.size; simp; omega) (by intro x hx; simp [Value.ownBlock] at hx; omega)); have Hp3 := Lib.hid ((Hp2.out.below ((Below.refl _ _).alloc (Nat.le_refl _) _ : Below w2.heap.size w2 _) (Nat.le_refl _)).grown hgrow3 (by intro e; simp [Value.ownBlock] at e; exact Hne.out e)); have Hne3 := Lib.hid (own_ne hown' Hp3.out.own (by decide)); have Ho3 := Lib.hid hown'; clear hown' hgrow3 hnil3))
            go_roundw
            case rel => exact ⟨k + 1, g', c', l ++ [n], by omega, by go_num, rfl, by simp [hlk], hg0', hgs', Hne3, Hl2, Hp3, Lib.hid (by rw [fvals_snoc]; exact Ho3.out), Hb3⟩
            case measure => simp [intOf]; omega
        · obtain rfl : k = D.length := by omega
          have Hv := Lib.hid (show nlistVal s.data.toList = l ∧ nlistGood s.data.toList = true by
            have h1 := Hl.out
            rw [List.take_of_length_le (by rw [Hlc.out]; exact Nat.le_refl _)] at h1
            unfold nlistVal nlistGood
            rw [Hr.out, h1]; exact ⟨rfl, rfl⟩)
          go_wp2
          go_ret2
          refine ⟨some ⟨g2, 0, none⟩, c2, ?_, ?_, Hw.out⟩
          · rw [Hv.out.1, Hv.out.2, hlk]; rfl
          · rw [Hv.out.1]; unfold OwnF; rw [hlk]; exact Ho.out

theorem implReadN (s : ByteArray) (hs : s.size ≤ 1048576) (w : World) (hv : VarsN w) :
    Calls Tryz.prog 14 #[.string s] w fun e w' => ∃ a cap, e = .returned (.tuple #[.slice a (nlistVal s.data.toList).length cap, .bool (nlistGood s.data.toList)]) ∧ OwnF w.heap.size w' a cap (nlistVal s.data.toList) ∧ Below w.heap.size w w' := by
  go_enter Tryz.func14, Tryz.ntmps14
  go_wp2_with (go_at_call 51; refine (splitItemsF_any s hs w hv).mono ?_; rintro e w1 ⟨a, cap, rfl, ho, hb⟩; have Ho := Lib.hid ho; have Hb := Lib.hid hb; clear ho hb)
  go_ret2
  exact ⟨a, cap, rfl, Ho.out, Hb.out⟩
end Go.Proofs.YtcjkcoibeieeeaaGreatDoor
