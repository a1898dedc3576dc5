/-
  The reading of lists of complex numbers: the walk in the model. No theorem of a claim stands here.
-/
import Derived.Test.YtilebahnfbepgaaDoorCplxI
set_option linter.unusedVariables false
namespace Go.Proofs.YtilebahnfbepgaaDoor
open Go Go.RowKit Go.Deep Go.Proofs.YtilebahnfbepgaaDoor.Fl

set_option maxRecDepth 8000 in
set_option maxHeartbeats 4000000 in
theorem l01CRead_any (s : ByteArray) (hs : s.size ≤ 1048576) (w : World) :
    Calls Tryd.prog 19 #[.string s] w fun e w' => ∃ a cap, e = .returned (.tuple #[.slice a (clistVal s.data.toList).length cap, .bool (clistGood s.data.toList)]) ∧ OwnC w.heap.size w' a cap (clistVal s.data.toList) ∧ Below w.heap.size w w' := by
  have hel : s.toList = s.data.toList := ByteArray.toList_eq s
  by_cases hn : s.data.toList = [110, 111, 110, 101]
  · have Hv := Lib.hid (show clistVal s.data.toList = [] ∧ clistGood s.data.toList = true by unfold clistVal clistGood readCList; rw [if_pos hn]; exact ⟨rfl, rfl⟩)
    have hn2 : (s.toList == [110, 111, 110, 101]) = true := by rw [hel, hn]; rfl
    clear hn hel
    go_enter Tryd.func19, Tryd.ntmps19
    go_wp2
    go_ret2
    refine ⟨some ⟨w.heap.size, 0, none⟩, 0, ?_, ?_, (Below.refl _ _).alloc (Nat.le_refl _) _⟩
    · rw [Hv.out.1, Hv.out.2]; rfl
    · rw [Hv.out.1]
      exact ⟨rfl, .inr ⟨w.heap.size, 0, #[], rfl, Nat.le_refl _, by show (w.heap.push _)[w.heap.size]? = _; simp, Nat.le_refl _, by simp [maxLen], rfl, rfl⟩⟩
  · obtain ⟨i0, hi, hz0, hz1, hz2⟩ := info_parts infoC64
    have hn2 : (s.toList == [110, 111, 110, 101]) = false := by rw [hel, beq_eq_false_iff_ne]; exact hn
    clear hel
    go_enter Tryd.func19, Tryd.ntmps19
    go_wp2_with fail
    refine (l01Cut_any s hs _).mono ?_
    rintro e w1 ⟨D, g, c, rfl, hcut, hg0, hgs, hown, hb⟩
    have Hw1 := Lib.hid (((Below.refl _ _).alloc (Nat.le_refl _) _).trans (hb.mono (by simp)) : Below w.heap.size w w1)
    have Hp1 := Lib.hid (show Pieces (w.heap.size + 1) w1 s D g c from ⟨hcut, by simpa using hg0, hgs, by have := hown; simpa using this⟩)
    have Ho1 := Lib.hid (show w1.ownsRow w.heap.size 38 1 (.slice (some ⟨w.heap.size, 0, none⟩) 0 0) 0 (cvals []) by
      refine World.ownsRow.below (B := (w.alloc (.cells #[] 38)).heap.size) ?_ hb (by simp)
      exact ⟨rfl, .inr ⟨w.heap.size, 0, #[], rfl, Nat.le_refl _, by show (w.heap.push _)[w.heap.size]? = _; simp, Nat.le_refl _, by simp [maxLen], rfl, rfl⟩⟩)
    have hlc : (cuts s.data.toList).length = D.length := by rw [← hcut, List.length_map]
    have hDl : D.length ≤ s.size + 1 := by have := cuts_len s.data.toList; rw [hlc] at this; simpa using this
    clear hb hcut hown hg0
    by_cases hmany : 256 < D.length
    · have hr := readC_many hn (by omega)
      have Hv := Lib.hid (show clistVal s.data.toList = [] ∧ clistGood s.data.toList = false by unfold clistVal clistGood; rw [hr]; exact ⟨rfl, rfl⟩)
      have d1 : decide (256 < (D.length : Int)) = true := by simp; omega
      clear hr hn hlc
      go_wp2
      go_ret2
      refine ⟨none, 0, ?_, ?_, Hw1.out⟩
      · rw [Hv.out.1, Hv.out.2]; rfl
      · rw [Hv.out.1]; exact OwnC.nil _ _
    · have Hr := Lib.hid (readC_few hn (by omega))
      have d1 : decide (256 < (D.length : Int)) = false := by simp; omega
      have Hlc := Lib.hid hlc
      clear hn hlc
      go_wp2_with fail
      go_loopw [4, 6] (fun O I wr => ∃ (k g2 c2 : Nat) (l : List (Nat × Nat)), k ≤ D.length ∧ I = .int .i64 k ∧ O = .slice (some ⟨g2, 0, none⟩) k c2 ∧ l.length = k ∧ w.heap.size ≤ g2 ∧ g2 < wr.heap.size ∧ Hid (g2 ≠ g) ∧
        Hid (readPrs ((cuts s.data.toList).take k) = some l) ∧ Hid (Pieces (w.heap.size + 1) wr s D g c) ∧ Hid (wr.ownsRow w.heap.size 38 1 (.slice (some ⟨g2, 0, none⟩) k c2) k (cvals l)) ∧ Hid (Below w.heap.size w wr)) (fun _ I _ => D.length - (intOf I).toNat)
      case atStart => exact ⟨0, w.heap.size, 0, [], Nat.zero_le _, rfl, rfl, rfl, Nat.le_refl _, by have := Hw1.out.size; have := Hp1.out.low; omega, Lib.hid (by have := Hp1.out.low; omega), Lib.hid rfl, Hp1, Ho1, Hw1⟩
      case round =>
        obtain ⟨k, g2, c2, l, hk, rfl, rfl, hlk, hg2, hgs2, Hne, Hl, Hp, Ho, Hw⟩ := hrel
        by_cases hlt : k < D.length
        · obtain ⟨hc1, hDc⟩ := Hp.out.cell hlt
          obtain ⟨hk2, hget, hsz⟩ := Hp.out.get hlt
          have HBad := Lib.hid (fun h => show clistVal s.data.toList = [] ∧ clistGood s.data.toList = false by
            have hb := readPrs_bad hk2 (by rw [hget]; exact h)
            unfold clistVal clistGood; rw [Hr.out, hb]; exact ⟨rfl, rfl⟩)
          have HGood := Lib.hid (fun (n : Nat × Nat) h => readPrs_snoc (n := n) hk2 Hl.out (by rw [hget]; exact h))
          obtain ⟨pc, hpc⟩ : ∃ pc, pc = D[k] := ⟨_, rfl⟩
          have hpcD : D[k] = pc := hpc.symm
          rw [hpcD] at hc1 hsz HBad HGood
          clear hpc
          clear hget hk2
          by_cases h16 : pc.size = 16
          · have hl16 : pc.data.toList.length = 16 := by rw [Array.length_toList]; exact h16
            have hne : ((pc.size : Int) != 16) = false := by rw [h16]; rfl
            have hsl1 : ∀ w, (Instr.slice 9 (.string pc) none (some (.int .i64 8)) none).run Tryd.prog w = .ok (.string (pc.extract 0 8)) w := fun w => by
              rw [run_slice_string_to_if (P := Tryd.prog) w 9 pc .i64 8 Tryd.underlying9]
              rw [if_pos (by omega)]; rfl
            have hsl2 : ∀ w, (Instr.slice 9 (.string pc) (some (.int .i64 8)) none none).run Tryd.prog w = .ok (.string (pc.extract 8 pc.size)) w := fun w => by
              rw [run_slice_string_from_if (P := Tryd.prog) w 9 pc .i64 8 Tryd.underlying9]
              rw [if_pos (by omega)]; rfl
            have hA := fun w => l01Digits_any (pc.extract 0 8) (ext_lo_size pc h16) w
            have hB := fun w => l01Digits_any (pc.extract 8 pc.size) (ext_hi_size pc h16) w
            simp only [ext_lo] at hA
            simp only [ext_hi pc h16] at hB
            have hP : readPr pc.data.toList = match readNum (pc.data.toList.take 8), readNum (pc.data.toList.drop 8) with
              | some a, some b => some (a, b)
              | _, _ => none := if_pos hl16
            generalize pc.extract 0 8 = p1 at *
            generalize pc.extract 8 pc.size = p2 at *
            clear hl16
            cases h1 : readNum (pc.data.toList.take 8) with
            | none =>
              simp only [h1] at hP hA
              cases h2 : readNum (pc.data.toList.drop 8) with
              | none =>
                have Hv := Lib.hid (HBad.out hP)
                simp only [h2, resNum] at hB hA
                clear h2 hP h1
                go_wp2_with fail
                refine (hA _).mono ?_
                rintro e wa ⟨rfl, hba⟩
                have Ba := Lib.hid (Hw.out.trans (hba.mono Hw.out.size))
                have hca := ((Hp.out.below hba (Nat.le_refl _)).cell hlt).1
                rw [hpcD] at hca
                clear hba
                go_wp2_with fail
                refine (hB _).mono ?_
                rintro e wb ⟨rfl, hbb⟩
                have Bb := Lib.hid (Ba.out.trans (hbb.mono Ba.out.size))
                clear hbb
                go_wp2
                go_ret2
                exact ⟨none, 0, by rw [Hv.out.1, Hv.out.2]; rfl, by rw [Hv.out.1]; exact OwnC.nil _ _, Bb.out⟩
              | some b =>
                have Hv := Lib.hid (HBad.out hP)
                simp only [h2, resNum] at hB hA
                clear h2 hP h1
                go_wp2_with fail
                refine (hA _).mono ?_
                rintro e wa ⟨rfl, hba⟩
                have Ba := Lib.hid (Hw.out.trans (hba.mono Hw.out.size))
                have hca := ((Hp.out.below hba (Nat.le_refl _)).cell hlt).1
                rw [hpcD] at hca
                clear hba
                go_wp2_with fail
                refine (hB _).mono ?_
                rintro e wb ⟨rfl, hbb⟩
                have Bb := Lib.hid (Ba.out.trans (hbb.mono Ba.out.size))
                clear hbb
                go_wp2
                go_ret2
                exact ⟨none, 0, by rw [Hv.out.1, Hv.out.2]; rfl, by rw [Hv.out.1]; exact OwnC.nil _ _, Bb.out⟩
            | some a =>
              simp only [h1] at hP hA
              cases h2 : readNum (pc.data.toList.drop 8) with
              | none =>
                simp only [h2] at hP
                have Hv := Lib.hid (HBad.out hP)
                simp only [h2, resNum] at hB hA
                clear h2 hP h1
                go_wp2_with fail
                refine (hA _).mono ?_
                rintro e wa ⟨rfl, hba⟩
                have Ba := Lib.hid (Hw.out.trans (hba.mono Hw.out.size))
                have hca := ((Hp.out.below hba (Nat.le_refl _)).cell hlt).1
                rw [hpcD] at hca
                clear hba
                go_wp2_with fail
                refine (hB _).mono ?_
                rintro e wb ⟨rfl, hbb⟩
                have Bb := Lib.hid (Ba.out.trans (hbb.mono Ba.out.size))
                clear hbb
                go_wp2
                go_ret2
                exact ⟨none, 0, by rw [Hv.out.1, Hv.out.2]; rfl, by rw [Hv.out.1]; exact OwnC.nil _ _, Bb.out⟩
              | some b =>
                simp only [h2] at hP
                have Hg2 := Lib.hid (HGood.out (a, b) hP)
                simp only [h2, resNum] at hB hA
                clear h2 hP h1
                go_wp2_with fail
                refine (hA _).mono ?_
                rintro e wa ⟨rfl, hba⟩
                have Ba := Lib.hid (Hw.out.trans (hba.mono Hw.out.size))
                have Oa := Lib.hid (Ho.out.below hba hgs2)
                have Pa := Lib.hid (Hp.out.below hba (Nat.le_refl _))
                have hgsa : g2 < wa.heap.size := Nat.lt_of_lt_of_le hgs2 hba.size
                have hca := (Pa.out.cell hlt).1
                clear hba
                rw [hpcD] at hca
                go_wp2_with fail
                refine (hB _).mono ?_
                rintro e w2 ⟨rfl, hbb⟩
                have Hb := Lib.hid (Ba.out.trans (hbb.mono Ba.out.size))
                have Ho2 := Lib.hid (Oa.out.below hbb hgsa)
                have Hp2 := Lib.hid (Pa.out.below hbb (Nat.le_refl _))
                have hgs3 : g2 < w2.heap.size := Nat.lt_of_lt_of_le hgsa hbb.size
                clear hbb
                go_wp2_with (at_builtin; refine wpList_append_own _ rfl (.tmp 56) (.tmp 60) 22 rfl w.heap.size 38 i0 (.complex .f32 0 0) 1 8 Tryd.underlying22 hi hz0 hz1 hz2 rfl (by decide) (.slice (some ⟨g2, 0, none⟩) k c2) k _ rfl (Ho2.out.alloc _) ⟨w2.heap.size, 0, none⟩ 1 1 [.complex .f32 a b] rfl (by simp) (cell_newrowB _ _ _) (c_one (a, b)) (by unfold maxLen; omega) (by omega) (by have := Hb.out.size; simp; omega) ?_; intro v' w3 hown' hgrow3 hnil3; obtain ⟨g', c', rfl, hg0', hgs', hc'⟩ := form_own hown'; have Hb3 := Lib.hid ((Hb.out.alloc Hb.out.size _).grown hgrow3 (by have := Hb.out.size; simp; omega) (by intro x hx; simp [Value.ownBlock] at hx; omega)); have Hp3 := Lib.hid ((Hp2.out.below ((Below.refl _ _).alloc (Nat.le_refl _) _ : Below w2.heap.size w2 _) (Nat.le_refl _)).grown hgrow3 (by intro e; simp [Value.ownBlock] at e; exact Hne.out e)); have Hne3 := Lib.hid (own_ne hown' Hp3.out.own (by decide)); have Ho3 := Lib.hid hown'; clear hown' hgrow3 hnil3)
                go_roundw
                case rel => exact ⟨k + 1, g', c', l ++ [(a, b)], by omega, by go_num, rfl, by simp [hlk], hg0', hgs', Hne3, Hg2, Hp3, Lib.hid (by rw [cvals_snoc]; exact Ho3.out), Hb3⟩
                case measure => simp [intOf]; omega
          · have hne : ((pc.size : Int) != 16) = true := by rw [bne_iff_ne]; omega
            have Hv := Lib.hid (HBad.out (if_neg (by rw [Array.length_toList]; exact h16)))
            go_wp2
            go_ret2
            refine ⟨none, 0, ?_, ?_, Hw.out⟩
            · rw [Hv.out.1, Hv.out.2]; rfl
            · rw [Hv.out.1]; exact OwnC.nil _ _
        · obtain rfl : k = D.length := by omega
          have Hv := Lib.hid (show clistVal s.data.toList = l ∧ clistGood s.data.toList = true by
            have h1 := Hl.out
            rw [List.take_of_length_le (by rw [Hlc.out]; exact Nat.le_refl _)] at h1
            unfold clistVal clistGood
            rw [Hr.out, h1]; exact ⟨rfl, rfl⟩)
          go_wp2
          go_ret2
          refine ⟨some ⟨g2, 0, none⟩, c2, ?_, ?_, Hw.out⟩
          · rw [Hv.out.1, Hv.out.2, hlk]; rfl
          · rw [Hv.out.1]; unfold OwnC; rw [hlk]; exact Ho.out

theorem specReadC (s : ByteArray) (hs : s.size ≤ 1048576) (w : World) :
    Calls Tryd.prog 6 #[.string s] w fun e w' => ∃ a cap, e = .returned (.tuple #[.slice a (clistVal s.data.toList).length cap, .bool (clistGood s.data.toList)]) ∧ OwnC w.heap.size w' a cap (clistVal s.data.toList) ∧ Below w.heap.size w w' := by
  go_enter Tryd.func6, Tryd.ntmps6
  go_wp2_with (go_at_call 19; refine (l01CRead_any s hs w).mono ?_; rintro e w1 ⟨a, cap, rfl, ho, hb⟩; have Ho := Lib.hid ho; have Hb := Lib.hid hb; clear ho hb)
  go_ret2
  exact ⟨a, cap, rfl, Ho.out, Hb.out⟩
end Go.Proofs.YtilebahnfbepgaaDoor
