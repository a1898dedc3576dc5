/-
  The reading of lists of complex numbers: the walks in the model and in the program. No theorem of a claim stands here.
-/
import Derived.Test.YtcjkcoibeieeeaaGreatDoorCplxR
set_option linter.unusedVariables false
namespace Go.Proofs.YtcjkcoibeieeeaaGreatDoor
open Go Go.RowKit Go.Deep Go.Proofs.YtcjkcoibeieeeaaGreatDoor.Fl

/-- The numbers that texts spell, if all do. -/
def readPrs : List (List UInt8) → Option (List (Nat × Nat))
  | [] => some []
  | p :: ps => match readPr p, readPrs ps with
    | some n, some l => some (n :: l)
    | _, _ => none
def readCList (s : List UInt8) : Option (List (Nat × Nat)) :=
  if s = [110, 111, 110, 101] then some [] else if (cuts s).length ≤ 256 then readPrs (cuts s) else none
theorem readPrs_snoc {ps : List (List UInt8)} {k : Nat} {l : List (Nat × Nat)} {n : Nat × Nat} (h : k < ps.length) (hl : readPrs (ps.take k) = some l) (hn : readPr ps[k] = some n) : readPrs (ps.take (k + 1)) = some (l ++ [n]) := by
  induction ps generalizing k l with
  | nil => simp at h
  | cons p r ih =>
    cases k with
    | zero =>
      simp at hl hn ⊢
      simp [readPrs] at hl
      subst hl
      simp [readPrs, hn]
    | succ k =>
      rw [List.take_succ_cons] at hl ⊢
      simp only [readPrs] at hl ⊢
      cases hp : readPr p with
      | none => rw [hp] at hl; simp at hl
      | some m =>
        cases hr : readPrs (r.take k) with
        | none => rw [hp, hr] at hl; simp at hl
        | some t =>
          rw [hp, hr] at hl
          simp at hl
          subst hl
          rw [ih (by simpa using h) hr (by simpa using hn)]
          rfl
theorem readPrs_bad {ps : List (List UInt8)} {k : Nat} (h : k < ps.length) (hn : readPr ps[k] = none) : readPrs ps = none := by
  induction ps generalizing k with
  | nil => simp at h
  | cons p r ih =>
    simp only [readPrs]
    cases k with
    | zero => simp at hn; rw [hn]
    | succ k =>
      rw [ih (k := k) (by simpa using h) (by simpa using hn)]
      cases readPr p <;> rfl
theorem readPrs_len {ps : List (List UInt8)} {l : List (Nat × Nat)} (h : readPrs ps = some l) : l.length = ps.length := by
  induction ps generalizing l with
  | nil => simp [readPrs] at h; subst h; rfl
  | cons p r ih =>
    simp only [readPrs] at h
    cases hp : readPr p with
    | none => rw [hp] at h; simp at h
    | some m =>
      cases hr : readPrs r with
      | none => rw [hp, hr] at h; simp at h
      | some t =>
        rw [hp, hr] at h
        simp at h
        subst h
        simp [ih hr]
theorem readPrs_in {ps : List (List UInt8)} {l : List (Nat × Nat)} (h : readPrs ps = some l) : ∀ n ∈ l, n.1 < 2 ^ 32 ∧ n.2 < 2 ^ 32 := by
  induction ps generalizing l with
  | nil => simp [readPrs] at h; subst h; intro n hn; cases hn
  | cons p r ih =>
    simp only [readPrs] at h
    cases hp : readPr p with
    | none => rw [hp] at h; simp at h
    | some m =>
      cases hr : readPrs r with
      | none => rw [hp, hr] at h; simp at h
      | some t =>
        rw [hp, hr] at h
        simp at h
        subst h
        intro n hn
        rcases List.mem_cons.1 hn with rfl | hn
        · exact readPr_in hp
        · exact ih hr n hn
def clistVal (s : List UInt8) : List (Nat × Nat) := (readCList s).getD []
def clistGood (s : List UInt8) : Bool := (readCList s).isSome
theorem readC_few {s : ByteArray} (hn : s.data.toList ≠ [110, 111, 110, 101]) (hl : (cuts s.data.toList).length ≤ 256) : readCList s.data.toList = readPrs (cuts s.data.toList) := by
  unfold readCList; rw [if_neg hn, if_pos hl]
theorem readC_many {s : ByteArray} (hn : s.data.toList ≠ [110, 111, 110, 101]) (hl : 256 < (cuts s.data.toList).length) : readCList s.data.toList = none := by
  unfold readCList; rw [if_neg hn, if_neg (by omega)]

def cvals (l : List (Nat × Nat)) : List Value := l.map fun n => Value.complex .f32 n.1 n.2
theorem cvals_snoc (l : List (Nat × Nat)) (n : Nat × Nat) : cvals (l ++ [n]) = cvals l ++ [.complex .f32 n.1 n.2] := by simp [cvals]
theorem c_one (n : Nat × Nat) : ∀ u ∈ [Value.complex .f32 n.1 n.2], u.oneCell' = true := by
  intro u hu
  simp at hu
  subst hu
  rfl
/-- The slice is the call's own, from the block 'base' on, and holds the complex numbers l. -/
def OwnC (base : Nat) (w : World) (a : Option Addr) (cap : Nat) (l : List (Nat × Nat)) : Prop :=
  w.ownsRow base 42 1 (.slice a l.length cap) l.length (cvals l)
theorem OwnC.nil (base : Nat) (w : World) : OwnC base w none 0 [] := ⟨rfl, .inl ⟨rfl, rfl⟩⟩
theorem infoC64 : (Tryz.prog.info? 42).map (fun i => (i.zero, i.size, i.bytes)) = some (some (.complex .f32 0 0), 1, 8) := by kernel_rfl

set_option maxRecDepth 8000 in
set_option maxHeartbeats 2000000 in
theorem splitItemsC_any (s : ByteArray) (hs : s.size ≤ 1048576) (w : World) (hv : VarsN w) :
    Calls Tryz.prog 68 #[.string s, .int .i64 256, .func (.func 69) #[] #[]] w fun e w' => ∃ a cap, e = .returned (.tuple #[.slice a (clistVal s.data.toList).length cap, .bool (clistGood s.data.toList)]) ∧ OwnC w.heap.size w' a cap (clistVal s.data.toList) ∧ Below w.heap.size w w' := by
  have hel : s.toList = s.data.toList := ByteArray.toList_eq s
  by_cases hn : s.data.toList = [110, 111, 110, 101]
  · have Hv := Lib.hid (show clistVal s.data.toList = [] ∧ clistGood s.data.toList = true by unfold clistVal clistGood readCList; rw [if_pos hn]; exact ⟨rfl, rfl⟩)
    have hn2 : (s.toList == [110, 111, 110, 101]) = true := by rw [hel, hn]; rfl
    clear hn hel
    go_enter Tryz.func68, Tryz.ntmps68
    go_wp2
    go_ret2
    refine ⟨none, 0, ?_, ?_, Below.refl _ _⟩
    · rw [Hv.out.1, Hv.out.2]; rfl
    · rw [Hv.out.1]; exact OwnC.nil _ _
  · obtain ⟨i0, hi, hz0, hz1, hz2⟩ := info_parts infoC64
    have hn2 : (s.toList == [110, 111, 110, 101]) = false := by rw [hel, beq_eq_false_iff_ne]; exact hn
    clear hel
    obtain ⟨m, hm⟩ := hv.mlen
    have hS := Tryz.strings_SplitN s comma 257 m w (by omega) hm (by decide) (by decide) (by decide)
    have hle := splitP_le s
    have hown := splitP_own s w
    have hS : Calls Tryz.prog 83 #[.string s, .string comma, .int .i64 257] w fun e w' => e = .returned (.slice (some ⟨w.heap.size, 0, none⟩) (splitP s).length (min 257 (s.size + 1))) ∧ Below w.heap.size w w' ∧ w.heap.size < w'.heap.size ∧ w'.ownsRow w.heap.size 9 1 (.slice (some ⟨w.heap.size, 0, none⟩) (splitP s).length (min 257 (s.size + 1))) (splitP s).length (svals (splitP s)) :=
      hS.mono fun e w' ⟨he, hw⟩ => by subst hw; exact ⟨he, (Below.refl _ _).alloc (Nat.le_refl _) _, by simp, hown⟩
    generalize hD : splitP s = D at hS hle hown
    generalize min 257 (s.size + 1) = c at hS hle hown
    by_cases hmany : 256 < (cuts s.data.toList).length
    · have hr := readC_many hn hmany
      have Hv := Lib.hid (show clistVal s.data.toList = [] ∧ clistGood s.data.toList = false by unfold clistVal clistGood; rw [hr]; exact ⟨rfl, rfl⟩)
      have hm2 := splitP_many hmany
      rw [hD] at hm2
      have d1 : decide (256 < (D.length : Int)) = true := by simp; omega
      clear hr hn hown hD
      go_enter Tryz.func68, Tryz.ntmps68
      go_wp2_with (go_at_call 83; refine hS.mono ?_; rintro e w1 ⟨rfl, hb, hlt, hown⟩; have Hb := Lib.hid hb; clear hb hown)
      go_ret2
      refine ⟨none, 0, ?_, ?_, Hb.out⟩
      · rw [Hv.out.1, Hv.out.2]; rfl
      · rw [Hv.out.1]; exact OwnC.nil _ _
    · have hcut := splitP_few (s := s) (by omega)
      rw [hD] at hcut
      have hlc : (cuts s.data.toList).length = D.length := by rw [← hcut, List.length_map]
      have Hr := Lib.hid (readC_few hn (by omega))
      have d1 : decide (256 < (D.length : Int)) = false := by simp; omega
      have hD64 : D.length ≤ 256 := by omega
      have Hlc := Lib.hid hlc
      have Hcut := Lib.hid hcut
      clear hn hown hD hlc hcut hmany
      have hmk := fun w => run_make (P := Tryz.prog) w 45 42 i0 (.complex .f32 0 0) Tryz.underlying45 hi hz0 .i64 .i64 0 D.length (Int.le_refl _) (by omega) (by rw [hz2]; omega) (by omega)
      go_enter Tryz.func68, Tryz.ntmps68
      go_wp2_with (go_at_call 83; refine hS.mono ?_; rintro e w1 ⟨rfl, hb, hlt, hown⟩; have Hw1 := Lib.hid hb; have Hp1 := Lib.hid (show Pieces w.heap.size w1 s D w.heap.size c from ⟨Hcut.out, Nat.le_refl _, hlt, hown⟩); clear hb hown)
      go_loopw [9, 29] (fun O I wr => ∃ (k g2 c2 : Nat) (l : List (Nat × Nat)), k ≤ D.length ∧ I = .int .i64 k ∧ O = .slice (some ⟨g2, 0, none⟩) k c2 ∧ l.length = k ∧ w.heap.size ≤ g2 ∧ g2 < wr.heap.size ∧ Hid (g2 ≠ w.heap.size) ∧
        Hid (readPrs ((cuts s.data.toList).take k) = some l) ∧ Hid (Pieces w.heap.size wr s D w.heap.size c) ∧ Hid (wr.ownsRow w.heap.size 42 1 (.slice (some ⟨g2, 0, none⟩) k c2) k (cvals l)) ∧ Hid (Below w.heap.size w wr)) (fun _ I _ => D.length - (intOf I).toNat)
      case atStart =>
        refine ⟨0, w1.heap.size, D.length, [], Nat.zero_le _, rfl, rfl, rfl, Hw1.out.size, by simp, Lib.hid (by omega), Lib.hid rfl, Lib.hid (Hp1.out.below ((Below.refl _ _).alloc (Nat.le_refl _) _ : Below w1.heap.size w1 _) (Nat.le_refl _)), Lib.hid ?_, Lib.hid (Hw1.out.alloc Hw1.out.size _)⟩
        have := World.ownsRow_made (w := w1) (base := w.heap.size) (e := 42) (size := 1) (madeCells (Value.complex .f32 0 0).cells ((D.length : Int).toNat * i0.size)) D.length Hw1.out.size (by unfold maxLen; omega) (by simp [madeCells, Value.cells, hz1])
        have e : madeCells (Value.complex .f32 0 0).cells ((D.length : Int).toNat * i0.size) = madeCells #[Value.complex .f32 0 0] D.length := by rw [hz1, Nat.mul_one]; rfl
        rw [e] at this
        simpa [cvals, hz1] using this
      case round =>
        obtain ⟨k, g2, c2, l, hk, rfl, rfl, hlk, hg2, hgs2, Hne, Hl, Hp, Ho, Hw⟩ := hrel
        by_cases hlt2 : k < D.length
        · obtain ⟨hc1, hDc⟩ := Hp.out.cell hlt2
          obtain ⟨hk2, hget, hsz⟩ := Hp.out.get hlt2
          have hpv := fun w' (h : Below w.heap.size w w') => readPair_any D[k] (by omega) w' (hv.vars.stays h (Nat.le_refl _))
          cases hrd : readPr D[k].data.toList with
          | none =>
            have hbad := readPrs_bad hk2 (by rw [hget]; exact hrd)
            have Hv := Lib.hid (show clistVal s.data.toList = [] ∧ clistGood s.data.toList = false by unfold clistVal clistGood; rw [Hr.out, hbad]; exact ⟨rfl, rfl⟩)
            simp only [hrd, resPr] at hpv
            clear hget hbad hrd
            generalize D[k] = pc at hc1 hpv hsz
            go_wp2_with (go_at_call 69; refine (hpv _ Hw.out).mono ?_; rintro e w2 ⟨rfl, hb⟩; have Hb := Lib.hid (Hw.out.trans (hb.mono Hw.out.size)); clear hb)
            go_ret2
            refine ⟨none, 0, ?_, ?_, Hb.out⟩
            · rw [Hv.out.1, Hv.out.2]; rfl
            · rw [Hv.out.1]; exact OwnC.nil _ _
          | some n =>
            obtain ⟨n1, n2⟩ := n
            have Hl2 := Lib.hid (readPrs_snoc hk2 Hl.out (by rw [hget]; exact hrd))
            simp only [hrd, resPr] at hpv
            clear hget hrd
            generalize D[k] = pc at hc1 hpv hsz
            go_wp2_with (first | (go_at_call 69; refine (hpv _ Hw.out).mono ?_; rintro e w2 ⟨rfl, hb⟩; have Hb := Lib.hid (Hw.out.trans (hb.mono Hw.out.size)); have Ho2 := Lib.hid (Ho.out.below hb hgs2); have Hp2 := Lib.hid (Hp.out.below hb (Nat.le_refl _)); have hgs3 : g2 < w2.heap.size := Nat.lt_of_lt_of_le hgs2 hb.size; clear hb) | (at_builtin; refine wpList_append_own _ rfl (.tmp 41) (.tmp 43) 45 rfl w.heap.size 42 i0 (.complex .f32 0 0) 1 8 Tryz.underlying45 hi hz0 hz1 hz2 rfl (by decide) (.slice (some ⟨g2, 0, none⟩) k c2) k _ rfl (Ho2.out.alloc _) ⟨w2.heap.size, 0, none⟩ 1 1 [.complex .f32 n1 n2] rfl (by simp) (cell_newrowB _ _ _) (c_one (n1, n2)) (by unfold maxLen; omega) (by omega) (by have := Hb.out.size; simp; omega) ?_; intro v' w3 hown' hgrow3 hnil3; obtain ⟨g', c', rfl, hg0', hgs', hc'⟩ := form_own hown'; have Hb3 := Lib.hid ((Hb.out.alloc Hb.out.size _).grown hgrow3 (by have := Hb.out.size; simp; omega) (by intro x hx; simp [Value.ownBlock] at hx; omega)); have Hp3 := Lib.hid ((Hp2.out.below ((Below.refl _ _).alloc (Nat.le_refl _) _ : Below w2.heap.size w2 _) (Nat.le_refl _)).grown hgrow3 (by intro e; simp [Value.ownBlock] at e; exact Hne.out e)); have Hne3 := Lib.hid (own_ne hown' Hp3.out.own (by decide)); have Ho3 := Lib.hid hown'; clear hown' hgrow3 hnil3))
            go_roundw
            case rel => exact ⟨k + 1, g', c', l ++ [(n1, n2)], by omega, by go_num, rfl, by simp [hlk], hg0', hgs', Hne3, Hl2, Hp3, Lib.hid (by rw [cvals_snoc]; exact Ho3.out), Hb3⟩
            case measure => simp [intOf]; omega
        · obtain rfl : k = D.length := by omega
          have Hv := Lib.hid (show clistVal s.data.toList = l ∧ clistGood s.data.toList = true by
            have h1 := Hl.out
            rw [List.take_of_length_le (by rw [Hlc.out]; exact Nat.le_refl _)] at h1
            unfold clistVal clistGood
            rw [Hr.out, h1]; exact ⟨rfl, rfl⟩)
          go_wp2
          go_ret2
          refine ⟨some ⟨g2, 0, none⟩, c2, ?_, ?_, Hw.out⟩
          · rw [Hv.out.1, Hv.out.2, hlk]; rfl
          · rw [Hv.out.1]; unfold OwnC; rw [hlk]; exact Ho.out

theorem implReadC (s : ByteArray) (hs : s.size ≤ 1048576) (w : World) (hv : VarsN w) :
    Calls Tryz.prog 31 #[.string s] w fun e w' => ∃ a cap, e = .returned (.tuple #[.slice a (clistVal s.data.toList).length cap, .bool (clistGood s.data.toList)]) ∧ OwnC w.heap.size w' a cap (clistVal s.data.toList) ∧ Below w.heap.size w w' := by
  go_enter Tryz.func31, Tryz.ntmps31
  go_wp2_with (go_at_call 68; refine (splitItemsC_any s hs w hv).mono ?_; rintro e w1 ⟨a, cap, rfl, ho, hb⟩; have Ho := Lib.hid ho; have Hb := Lib.hid hb; clear ho hb)
  go_ret2
  exact ⟨a, cap, rfl, Ho.out, Hb.out⟩
end Go.Proofs.YtcjkcoibeieeeaaGreatDoor
