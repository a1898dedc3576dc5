/-
  Decimal texts in the program: told and read. No theorem of a claim stands here.
-/
import Derived.Test.YtbidjhpllnabkaaDoorDecRead
import Derived.Test.YtbidjhpllnabkaaDoorFmt
import Derived.Lib.LaidTab
import Derived.Lib.AppendIntMem
import Derived.Lib.AtoiErrMem
import Derived.Lib.ParseIntBMem
import Derived.Lib.SmallJoins
set_option linter.unusedVariables false
namespace Go.Proofs.YtbidjhpllnabkaaDoor
open Go Go.RowKit

/-- What a row's list gives of the library's table. -/
structure TabOk (w : World) : Prop where
  tab : Lib.TabIs Tryd.prog w "internal/strconv.uint64pow10" .u64 Lib.pow10Tab
/-- What a row's list gives of the library's variables. -/
structure Vars (w : World) : Prop where
  tabOk : TabOk w
  syn : ∃ tp p, w.var? Tryd.prog "strconv.ErrSyntax" = some #[.iface tp p]
  rng : ∃ tp p, w.var? Tryd.prog "strconv.ErrRange" = some #[.iface tp p]

theorem gTab : Tryd.prog.globalNamed "internal/strconv.uint64pow10" = some 2 := by kernel_rfl
theorem gSyn : Tryd.prog.globalNamed "strconv.ErrSyntax" = some 0 := by kernel_rfl
theorem gRng : Tryd.prog.globalNamed "strconv.ErrRange" = some 1 := by kernel_rfl
theorem TabOk.stays {w w' : World} {B : Nat} (h : TabOk w) (hb : Below B w w') (hB : w.heap.size ≤ B) : TabOk w' := ⟨Go.Joins.tab_stays gTab h.tab hb hB⟩
theorem Vars.stays {w w' : World} {B : Nat} (h : Vars w) (hb : Below B w w') (hB : w.heap.size ≤ B) : Vars w' := by
  obtain ⟨t1, p1, e1⟩ := h.syn
  obtain ⟨t2, p2, e2⟩ := h.rng
  exact ⟨h.tabOk.stays hb hB, ⟨t1, p1, Go.Joins.var_stays gSyn e1 hb hB⟩, ⟨t2, p2, Go.Joins.var_stays gRng e2 hb hB⟩⟩
theorem dec_of (w : World) (hv : TabOk w) (n : Int) (h0 : -9223372036854775808 ≤ n) (h1 : n ≤ 9223372036854775807) :
    Calls Tryd.prog 19 #[.int .i64 n] w fun e w' => e = .returned (.string ⟨(Lib.itoa n).toArray⟩) ∧ Below w.heap.size w w' := by
  go_enter Tryd.func19, Tryd.ntmps19
  go_wp2_with (go_at_call 30; refine (Tryd.strconv_FormatInt_10 n h0 h1 _ hv.tab).mono ?_; rintro e w' ⟨rfl, k, os, rfl⟩)
  go_ret
  exact ⟨rfl, Lib.below_grow _ _ (Nat.le_refl _) _ _⟩

theorem parse_bounds {l : List UInt8} {v : Int} (h : Lib.parseIntB 64 l = .ok v) : -9223372036854775808 ≤ v ∧ v ≤ 9223372036854775807 := by
  have := Lib.parseIntB_bounds h
  have e : ((2 ^ (64 - 1) : Nat) : Int) = 9223372036854775808 := by decide
  rw [e] at this
  omega

theorem implRead_any (s : ByteArray) (hs : s.size ≤ 1048576) (w : World) (hv : Vars w) :
    Calls Tryd.prog 7 #[.string s] w fun e w' => e = .returned (resInt (readDec s.data.toList)) ∧ Below w.heap.size w w' := by
  rcases h : Lib.parseIntB 64 s.data.toList with v | _ | _
  · -- it is read
    obtain ⟨v0, v1⟩ := parse_bounds h
    have hr := readDec_ok h
    have hP : Calls Tryd.prog 17 #[.string s, .int .i64 10, .int .i64 64] w fun e w' => e = .returned (.tuple #[.int .i64 v, .nilIface]) ∧ Below w.heap.size w w' :=
      (Tryd.strconv_ParseInt_10_at64_ok s (by omega) v h w).mono fun e w' ⟨he, hw⟩ => ⟨he, by
        rcases hw with rfl | ⟨t, rfl⟩
        · exact Below.refl _ _
        · exact Lib.bytesWorld_below _ _ _⟩
    clear h
    by_cases r1 : v < -1000000000000000
    · rw [if_neg (by omega)] at hr
      have d1 : decide (-1000000000000000 ≤ v) = false := by simp; omega
      rw [hr]; clear hr
      go_enter Tryd.func7, Tryd.ntmps7
      go_wp2_with (first | (go_at_call 17; refine hP.mono ?_; rintro e W1 ⟨rfl, hb⟩; have Hb := Lib.hid hb; clear hb) | (go_at_call 18; go_in))
      go_ret2
      exact ⟨rfl, Hb.out⟩
    · by_cases r2 : 1000000000000000 < v
      · rw [if_neg (by omega)] at hr
        have d1 : decide (-1000000000000000 ≤ v) = true := by simp; omega
        have d2 : decide (v ≤ 1000000000000000) = false := by simp; omega
        rw [hr]; clear hr
        go_enter Tryd.func7, Tryd.ntmps7
        go_wp2_with (first | (go_at_call 17; refine hP.mono ?_; rintro e W1 ⟨rfl, hb⟩; have Hb := Lib.hid hb; clear hb) | (go_at_call 18; go_in))
        go_ret2
        exact ⟨rfl, Hb.out⟩
      · have d1 : decide (-1000000000000000 ≤ v) = true := by simp; omega
        have d2 : decide (v ≤ 1000000000000000) = true := by simp; omega
        have Hr := Lib.hid hr
        clear hr
        go_enter Tryd.func7, Tryd.ntmps7
        go_wp2_with (first | (go_at_call 17; refine hP.mono ?_; rintro e W1 ⟨rfl, hb⟩; have Hb := Lib.hid hb; clear hb) | (go_at_call 18; go_in) | (go_at_call 19; refine (dec_of _ (hv.tabOk.stays Hb.out (Nat.le_refl _)) v v0 v1).mono ?_; rintro e W2 ⟨rfl, hb⟩; have Hb2 := Lib.hid hb; clear hb))
        · rename_i ht
          go_ret2
          refine ⟨?_, Hb.out.trans (Hb2.out.mono Hb.out.size)⟩
          rw [Hr.out, if_neg (fun he => by rw [ByteArray.toList_eq, he.2] at ht; simp at ht)]; rfl
        · rename_i ht
          go_ret2
          refine ⟨?_, Hb.out.trans (Hb2.out.mono Hb.out.size)⟩
          rw [Hr.out, if_pos ⟨by omega, by rw [ByteArray.toList_eq] at ht; simpa using ht⟩]; rfl
  · -- it is none
    have hr : readDec s.data.toList = none := readDec_bad fun v e => by rw [h] at e; cases e
    rw [hr]
    obtain ⟨tp, p, hp⟩ := hv.syn
    go_enter Tryd.func7, Tryd.ntmps7
    go_wp2_with (go_at_call 17; refine (Any.strconv_ParseInt_10_at64_syntax_var Tryd.laysC174 s (by omega) h tp p _ hp).mono ?_)
    rintro e W1 ⟨N, rfl, -, -, hb⟩
    go_wp2
    go_ret2
    exact ⟨rfl, hb⟩
  · -- it is too great
    have hr : readDec s.data.toList = none := readDec_bad fun v e => by rw [h] at e; cases e
    rw [hr]
    obtain ⟨tp, p, hp⟩ := hv.rng
    go_enter Tryd.func7, Tryd.ntmps7
    go_wp2_with (go_at_call 17; refine (Any.strconv_ParseInt_10_at64_range_var Tryd.laysC174 s (by omega) h tp p _ hp).mono ?_)
    rintro e W1 ⟨N, rfl, -, -, hb⟩
    go_wp2
    go_ret2
    exact ⟨rfl, hb⟩
end Go.Proofs.YtbidjhpllnabkaaDoor
