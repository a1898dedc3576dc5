/-
  Pairs of 8 digits: in the program and in the model. No theorem of a claim stands here.
-/
import Derived.Test.YtilebahnfbepgaaDoorCplx
import Derived.Laws.Strings3
set_option linter.unusedVariables false
namespace Go.Proofs.YtilebahnfbepgaaDoor
open Go Go.RowKit Go.Deep Go.Proofs.YtilebahnfbepgaaDoor.Fl

theorem sameComplex_any (a b c d : Nat) (h1 : vl .f64 a = vl .f64 c) (h2 : vl .f64 b = vl .f64 d) (w : World) :
    Calls Tryd.prog 22 #[.complex .f64 a b, .complex .f64 c d] w (VRet (.bool true) w) := by
  have hA := fun w => sameFloat_any a c h1 w
  have hB := fun w => sameFloat_any b d h2 w
  clear h1 h2
  go_enter Tryd.func22, Tryd.ntmps22
  go_wp2_with fail
  refine (hA _).mono ?_
  rintro e w' ⟨n, rfl, rfl⟩
  go_wp2_with fail
  refine (hB _).mono ?_
  rintro e w' ⟨m, rfl, rfl⟩
  go_wp2
  go_ret
  exact ⟨_, rfl, rfl⟩

set_option maxRecDepth 8000 in
set_option maxHeartbeats 4000000 in
theorem l01Digits_any (s : ByteArray) (h8 : s.size = 8) (w : World) :
    Calls Tryd.prog 32 #[.string s] w fun e w' => e = .returned (resNum (readNum s.data.toList)) ∧ Below w.heap.size w w' := by
  have hl8 : s.data.toList.length = 8 := by rw [Array.length_toList]; exact h8
  have HR := Lib.hid (show readNum s.data.toList = (hexRead 0 s.data.toList).bind fun n => if bitsN (vl .f32 n) = n then some n else none from if_pos hl8)
  have Hl8 := Lib.hid hl8
  clear hl8
  go_enter Tryd.func32, Tryd.ntmps32
  go_wp2
  go_loop [4, 5] (fun N K => ∃ j m : Nat, j ≤ 8 ∧ N = .int .i64 m ∧ K = .int .i64 j ∧ Hid (m < 16 ^ j) ∧ Hid (hexRead 0 s.data.toList = hexRead m (s.data.toList.drop j))) (fun _ K => 8 - (intOf K).toNat)
  case atStart => exact ⟨0, 0, by omega, rfl, rfl, Lib.hid (by decide), Lib.hid rfl⟩
  case round =>
    obtain ⟨j, m, hj, rfl, rfl, Hm, Hd⟩ := hrel
    by_cases hj8 : j < 8
    · have hjl : j < s.data.toList.length := by rw [Hl8.out]; exact hj8
      have hjs : j < s.size := by omega
      have hm7 := pow_small Hm.out (by omega)
      have HD := Hd.out
      rw [List.drop_eq_getElem_cons hjl, show s.data.toList[j] = s[j] from rfl] at HD
      have hb : (s[j].toNat : Int) < 256 := by have := s[j].toNat_lt; omega
      have HDh := Lib.hid HD
      clear HD hjl
      by_cases hdig : 48 ≤ s[j].toNat ∧ s[j].toNat ≤ 57
      · have Hs := Lib.hid (HDh.out.trans (hexRead_cons (hexVal_dig hdig.1 hdig.2)))
        have Hp2 := Lib.hid (pow_step (d := s[j].toNat - 48) Hm.out (by omega))
        have i0' : 48 ≤ (s[j].toNat : Int) := by omega
        have i1' : (s[j].toNat : Int) ≤ 57 := by omega
        have e1 : ((16 * m + (s[j].toNat - 48) : Nat) : Int) = 16 * (m : Int) + ((s[j].toNat : Int) - 48) := by omega
        have He1 := Lib.hid e1
        clear hdig e1
        go_wp2
        go_round
        case rel => exact ⟨j + 1, _, by omega, by rw [He1.out], by go_num, Hp2, Hs⟩
        case measure => simp [intOf]; omega
      · by_cases hlet : 97 ≤ s[j].toNat ∧ s[j].toNat ≤ 102
        · have Hs := Lib.hid (HDh.out.trans (hexRead_cons (hexVal_let hlet.1 hlet.2)))
          have Hp2 := Lib.hid (pow_step (d := s[j].toNat - 87) Hm.out (by omega))
          have i0' : 97 ≤ (s[j].toNat : Int) := by omega
          have i1' : (s[j].toNat : Int) ≤ 102 := by omega
          have e1 : ((16 * m + (s[j].toNat - 87) : Nat) : Int) = 16 * (m : Int) + ((s[j].toNat : Int) - 97 + 10) := by omega
          have He1 := Lib.hid e1
          clear hdig hlet e1
          go_wp2
          go_round
          case rel => exact ⟨j + 1, _, by omega, by rw [He1.out], by go_num, Hp2, Hs⟩
          case measure => simp [intOf]; omega
        · have hno := HDh.out.trans (hexRead_stop (hexVal_no hdig hlet))
          have Hv := Lib.hid (show readNum s.data.toList = none by rw [HR.out, hno]; rfl)
          clear hno
          have hdigI : ¬ (48 ≤ (s[j].toNat : Int) ∧ (s[j].toNat : Int) ≤ 57) := by omega
          have hletI : ¬ (97 ≤ (s[j].toNat : Int) ∧ (s[j].toNat : Int) ≤ 102) := by omega
          clear hdig hlet
          go_wp2
          all_goals first | (exfalso; omega) | (go_ret2; exact ⟨by rw [Hv.out]; rfl, Below.refl _ _⟩)
    · obtain rfl : j = 8 := by omega
      have e16 : (16 : Nat) ^ 8 = 4294967296 := by decide
      have hm8 : m < 4294967296 := by have := Hm.out; omega
      have hrd : hexRead 0 s.data.toList = some m := by
        rw [Hd.out, List.drop_eq_nil_of_le (by rw [Hl8.out]; exact Nat.le_refl _)]; rfl
      have hfb := run_f32frombits (m : Int)
      have hB : ∀ w, Calls Tryd.prog 40 #[.float .f32 m] w (VRet (.int .i64 (bitsN (vl .f32 m) : Int)) w) := fun w => by
        rw [← bitsV_eq]; exact l01Bits_any m (by omega) w
      clear e16
      by_cases hbm : bitsN (vl .f32 m) = m
      · have Hg2 := Lib.hid (show readNum s.data.toList = some m by rw [HR.out, hrd]; simp [hbm])
        have hne2 : ((m : Int) != (m : Int)) = false := by simp
        rw [hbm] at hB
        clear hrd hbm
        go_wp2_with (first | (go_at_call 39; go_in) | (go_at_call 40; refine (hB _).mono ?_; rintro e w2 ⟨nd, rfl, rfl⟩))
        go_ret2
        exact ⟨by rw [Hg2.out]; rfl, below_drawn w nd⟩
      · have Hv := Lib.hid (show readNum s.data.toList = none by rw [HR.out, hrd]; simp [hbm])
        have hne2 : ((bitsN (vl .f32 m) : Int) != (m : Int)) = true := by rw [bne_iff_ne]; omega
        clear hrd hbm
        generalize bitsN (vl .f32 m) = bm at hB hne2
        go_wp2_with (first | (go_at_call 39; go_in) | (go_at_call 40; refine (hB _).mono ?_; rintro e w2 ⟨nd, rfl, rfl⟩))
        go_ret2
        exact ⟨by rw [Hv.out]; rfl, below_drawn w nd⟩

def readPr (l : List UInt8) : Option (Nat × Nat) := if l.length = 16 then
  match readNum (l.take 8), readNum (l.drop 8) with
  | some a, some b => some (a, b)
  | _, _ => none
  else none
def resPr : Option (Nat × Nat) → Value
  | some (a, b) => .tuple #[.complex .f32 a b, .bool true]
  | none => .tuple #[.complex .f32 0 0, .bool false]
theorem readPr_in {l : List UInt8} {p : Nat × Nat} (h : readPr l = some p) : p.1 < 2 ^ 32 ∧ p.2 < 2 ^ 32 := by
  unfold readPr at h
  split at h
  · cases h1 : readNum (l.take 8) with
    | none => rw [h1] at h; simp at h
    | some a =>
      cases h2 : readNum (l.drop 8) with
      | none => rw [h1, h2] at h; simp at h
      | some b =>
        rw [h1, h2] at h
        simp at h
        subst h
        exact ⟨(readNum_some h1).1, (readNum_some h2).1⟩
  · cases h
theorem ext_lo (s : ByteArray) : (s.extract 0 8).data.toList = s.data.toList.take 8 := by rw [ext_list]; simp
theorem ext_hi (s : ByteArray) (h : s.size = 16) : (s.extract 8 s.size).data.toList = s.data.toList.drop 8 := by
  rw [ext_list]
  exact List.take_of_length_le (by rw [List.length_drop, Array.length_toList]; have : s.data.size = s.size := rfl; omega)
theorem ext_lo_size (s : ByteArray) (h : s.size = 16) : (s.extract 0 8).size = 8 := by
  have := congrArg List.length (ext_lo s)
  rw [Array.length_toList, List.length_take, Array.length_toList] at this
  have e : s.data.size = s.size := rfl
  have e2 : (s.extract 0 8).data.size = (s.extract 0 8).size := rfl
  omega
theorem ext_hi_size (s : ByteArray) (h : s.size = 16) : (s.extract 8 s.size).size = 8 := by
  have := congrArg List.length (ext_hi s h)
  rw [Array.length_toList, List.length_drop, Array.length_toList] at this
  have e : s.data.size = s.size := rfl
  have e2 : (s.extract 8 s.size).data.size = (s.extract 8 s.size).size := rfl
  omega

theorem readPair_any (s : ByteArray) (hs : s.size ≤ 1048576) (w : World) (hv : VarsH w) :
    Calls Tryd.prog 21 #[.string s] w fun e w' => e = .returned (resPr (readPr s.data.toList)) ∧ Below w.heap.size w w' := by
  by_cases h16 : s.size = 16
  · have hl16 : s.data.toList.length = 16 := by rw [Array.length_toList]; exact h16
    have hne : ((s.size : Int) != 16) = false := by rw [h16]; rfl
    have hsl1 : ∀ w, (Instr.slice 9 (.string s) none (some (.int .i64 8)) none).run Tryd.prog w = .ok (.string (s.extract 0 8)) w := fun w => by
      rw [run_slice_string_to_if (P := Tryd.prog) w 9 s .i64 8 Tryd.underlying9]
      rw [if_pos (by omega)]; rfl
    have hsl2 : ∀ w, (Instr.slice 9 (.string s) (some (.int .i64 8)) none none).run Tryd.prog w = .ok (.string (s.extract 8 s.size)) w := fun w => by
      rw [run_slice_string_from_if (P := Tryd.prog) w 9 s .i64 8 Tryd.underlying9]
      rw [if_pos (by omega)]; rfl
    have hA := readNumber_any (s.extract 0 8) (by rw [ext_lo_size s h16]; omega) w hv
    have hB := fun w' (h : Below w.heap.size w w') => readNumber_any (s.extract 8 s.size) (by rw [ext_hi_size s h16]; omega) w' (hv.stays h (Nat.le_refl _))
    rw [ext_lo] at hA
    simp only [ext_hi s h16] at hB
    have hP : readPr s.data.toList = match readNum (s.data.toList.take 8), readNum (s.data.toList.drop 8) with
      | some a, some b => some (a, b)
      | _, _ => none := if_pos hl16
    generalize s.extract 0 8 = p1 at *
    generalize s.extract 8 s.size = p2 at *
    clear hl16
    cases h1 : readNum (s.data.toList.take 8) with
    | none =>
      rw [h1] at hP hA
      have HP := Lib.hid (show readPr s.data.toList = none by rw [hP])
      clear hP h1
      cases h2 : readNum (s.data.toList.drop 8) with
      | none =>
        simp only [h2, resNum] at hB hA
        clear h2
        go_enter Tryd.func21, Tryd.ntmps21
        go_wp2_with fail
        refine hA.mono ?_
        rintro e w1 ⟨rfl, hb1⟩
        have B1 := Lib.hid hb1
        clear hb1
        go_wp2_with fail
        refine (hB _ B1.out).mono ?_
        rintro e w2 ⟨rfl, hb2⟩
        have B2 := Lib.hid (B1.out.trans (hb2.mono B1.out.size))
        clear hb2
        go_wp2
        go_ret2
        exact ⟨by rw [HP.out]; rfl, B2.out⟩
      | some b =>
        simp only [h2, resNum] at hB hA
        clear h2
        go_enter Tryd.func21, Tryd.ntmps21
        go_wp2_with fail
        refine hA.mono ?_
        rintro e w1 ⟨rfl, hb1⟩
        have B1 := Lib.hid hb1
        clear hb1
        go_wp2_with fail
        refine (hB _ B1.out).mono ?_
        rintro e w2 ⟨rfl, hb2⟩
        have B2 := Lib.hid (B1.out.trans (hb2.mono B1.out.size))
        clear hb2
        go_wp2
        go_ret2
        exact ⟨by rw [HP.out]; rfl, B2.out⟩
    | some a =>
      rw [h1] at hP hA
      cases h2 : readNum (s.data.toList.drop 8) with
      | none =>
        rw [h2] at hP
        have HP := Lib.hid (show readPr s.data.toList = none by rw [hP])
        simp only [h2, resNum] at hB hA
        clear hP h1 h2
        go_enter Tryd.func21, Tryd.ntmps21
        go_wp2_with fail
        refine hA.mono ?_
        rintro e w1 ⟨rfl, hb1⟩
        have B1 := Lib.hid hb1
        clear hb1
        go_wp2_with fail
        refine (hB _ B1.out).mono ?_
        rintro e w2 ⟨rfl, hb2⟩
        have B2 := Lib.hid (B1.out.trans (hb2.mono B1.out.size))
        clear hb2
        go_wp2
        go_ret2
        exact ⟨by rw [HP.out]; rfl, B2.out⟩
      | some b =>
        rw [h2] at hP
        have HP := Lib.hid (show readPr s.data.toList = some (a, b) by rw [hP])
        simp only [h2, resNum] at hB hA
        clear hP h1 h2
        go_enter Tryd.func21, Tryd.ntmps21
        go_wp2_with fail
        refine hA.mono ?_
        rintro e w1 ⟨rfl, hb1⟩
        have B1 := Lib.hid hb1
        clear hb1
        go_wp2_with fail
        refine (hB _ B1.out).mono ?_
        rintro e w2 ⟨rfl, hb2⟩
        have B2 := Lib.hid (B1.out.trans (hb2.mono B1.out.size))
        clear hb2
        go_wp2
        go_ret2
        exact ⟨by rw [HP.out]; rfl, B2.out⟩
  · have hne : ((s.size : Int) != 16) = true := by rw [bne_iff_ne]; omega
    have Hv := Lib.hid (show readPr s.data.toList = none from if_neg (by rw [Array.length_toList]; exact h16))
    go_enter Tryd.func21, Tryd.ntmps21
    go_wp2
    go_ret2
    exact ⟨by rw [Hv.out]; rfl, Below.refl _ _⟩
end Go.Proofs.YtilebahnfbepgaaDoor
