/-
  The walk of the law on check numbers.
-/
import Derived.Test.YtceeeeggehlglacOpen
import Derived.Test.YtceeeeggehlglacRows
import Derived.Test.YtceeeeggehlglacFw
import Derived.Lib.Hide
import Derived.Outline
import Derived.OwnWalk
set_option linter.unusedVariables false
namespace Go.Proofs.Ytceeeeggehlglac.fnExactCheckOf
open Go Go.RowKit Go.Proofs.Ytceeeeggehlglac.Fl

def stepc (n : Int) (c : UInt8) : Int := (691 * n + (c.toNat : Int) + 43) % 65003
def chk (n : Int) (l : List UInt8) : Int := l.foldl stepc n
theorem chk_snoc {n : Int} {l : List UInt8} {k : Nat} (h : k < l.length) : chk n (l.take (k + 1)) = stepc (chk n (l.take k)) l[k] := by
  unfold chk; rw [List.take_succ_eq_append_getElem h, List.foldl_append]; rfl
theorem step_bd (n : Int) (c : UInt8) : 0 ≤ stepc n c ∧ stepc n c ≤ 65002 := by unfold stepc; omega

theorem l01Check_any (n : Int) (h0 : 0 ≤ n) (h1 : n ≤ 65002) (s : ByteArray) (hs : s.size ≤ 1048576) (w : World) :
    Calls Try.prog 20 #[.int .i64 n, .string s] w (VRet (.int .i64 (chk n s.data.toList)) w) := by
  have hlen : s.data.toList.length = s.size := by simp
  go_enter Try.func20, Try.ntmps20
  go_wp2
  go_loop [0, 5] (fun v i => ∃ k : Nat, ∃ m : Int, k ≤ s.size ∧ 0 ≤ m ∧ m ≤ 65002 ∧ v = .int .i64 m ∧ i = .int .i64 k ∧ Hid (m = chk n (s.data.toList.take k))) (fun _ i => s.size - (intOf i).toNat)
  case atStart => exact ⟨0, n, Nat.zero_le _, h0, h1, rfl, rfl, by simp [Hid, chk]⟩
  case round =>
    obtain ⟨k, m, hk, hm0, hm1, rfl, rfl, hm⟩ := hrel
    by_cases hlt : k < s.size
    · have hl : k < s.data.toList.length := by rw [hlen]; exact hlt
      have hb : (s[k].toNat : Int) < 256 := by have := s[k].toNat_lt; omega
      have Hs := Lib.hid (show stepc m s[k] = chk n (s.data.toList.take (k + 1)) by rw [chk_snoc hl, ← hm.out]; rfl)
      have hbd := step_bd m s[k]
      have Hbd := Lib.hid hbd
      clear hlen hbd
      go_wp2
      go_round
      case rel => exact ⟨k + 1, _, by omega, Hbd.out.1, Hbd.out.2, rfl, by go_num, Hs⟩
      case measure => simp [intOf]; omega
    · obtain rfl : k = s.size := by omega
      have Hf : Hid (m = chk n s.data.toList) := by
        have hm' := hm.out
        rw [List.take_of_length_le (by omega)] at hm'
        exact hm'
      clear hlen
      go_wp2
      go_ret
      exact ⟨0, by rw [← Hf.out]; rfl, rfl⟩

def res (n : Int) (l : List UInt8) : Int := if 0 ≤ n ∧ n ≤ 65002 then chk n l else 0
def resOk (n : Int) : Bool := decide (0 ≤ n ∧ n ≤ 65002)

theorem spec_any (n : Int) (s : ByteArray) (hs : s.size ≤ 1048576) (w : World) :
    Calls Try.prog 10 #[.int .i64 n, .string s] w (VRet (.tuple #[.int .i64 (res n s.data.toList), .bool (resOk n)]) w) := by
  by_cases c1 : n < 0
  · have e1 : res n s.data.toList = 0 := if_neg (by omega)
    have e2 : resOk n = false := decide_eq_false (by omega)
    rw [e1, e2]; clear e1 e2
    go_enter Try.func10, Try.ntmps10
    go_wp2
    go_ret2
    exact ⟨0, rfl, rfl⟩
  · by_cases c2 : 65002 < n
    · have e1 : res n s.data.toList = 0 := if_neg (by omega)
      have e2 : resOk n = false := decide_eq_false (by omega)
      have d1 : decide (n ≤ 65002) = false := by simp; omega
      rw [e1, e2]; clear e1 e2
      go_enter Try.func10, Try.ntmps10
      go_wp2
      go_ret2
      exact ⟨0, rfl, rfl⟩
    · have e1 : res n s.data.toList = chk n s.data.toList := if_pos (by omega)
      have e2 : resOk n = true := decide_eq_true (by omega)
      have d1 : decide (n ≤ 65002) = true := by simp; omega
      rw [e1, e2]; clear e1 e2
      go_enter Try.func10, Try.ntmps10
      go_wp2_with (first | (go_at_call 20; refine (l01Check_any _ (by omega) (by omega) _ hs _).mono ?_; rintro e w' ⟨m, rfl, rfl⟩) | (go_at_call 19; go_in))
      go_ret2
      exact ⟨_, rfl, rfl⟩

theorem impl_any (n : Int) (s : ByteArray) (hs : s.size ≤ 1048576) (w : World) :
    Calls Try.prog 11 #[.int .i64 n, .string s] w (VRet (.tuple #[.int .i64 (res n s.data.toList), .bool (resOk n)]) w) := by
  by_cases c1 : n < 0
  · have e1 : res n s.data.toList = 0 := if_neg (by omega)
    have e2 : resOk n = false := decide_eq_false (by omega)
    rw [e1, e2]; clear e1 e2
    go_enter Try.func11, Try.ntmps11
    go_wp2
    go_ret2
    exact ⟨0, rfl, rfl⟩
  · by_cases c2 : 65003 ≤ n
    · have e1 : res n s.data.toList = 0 := if_neg (by omega)
      have e2 : resOk n = false := decide_eq_false (by omega)
      have d1 : decide (65003 ≤ n) = true := by simp; omega
      rw [e1, e2]; clear e1 e2
      go_enter Try.func11, Try.ntmps11
      go_wp2
      go_ret2
      exact ⟨0, rfl, rfl⟩
    · have e1 : res n s.data.toList = chk n s.data.toList := if_pos (by omega)
      have e2 : resOk n = true := decide_eq_true (by omega)
      have d1 : decide (65003 ≤ n) = false := by simp; omega
      rw [e1, e2]; clear e1 e2
      have hlen : s.data.toList.length = s.size := by simp
      go_enter Try.func11, Try.ntmps11
      go_wp2
      go_loop [6, 17] (fun v i => ∃ k : Nat, ∃ m : Int, k ≤ s.size ∧ 0 ≤ m ∧ m ≤ 65002 ∧ v = .int .i64 m ∧ i = .int .i64 k ∧ Hid (m = chk n (s.data.toList.take k))) (fun _ i => s.size - (intOf i).toNat)
      case atStart => exact ⟨0, n, Nat.zero_le _, by omega, by omega, rfl, rfl, by simp [Hid, chk]⟩
      case round =>
        obtain ⟨k, m, hk, hm0, hm1, rfl, rfl, hm⟩ := hrel
        by_cases hlt : k < s.size
        · have hl : k < s.data.toList.length := by rw [hlen]; exact hlt
          have hb : (s[k].toNat : Int) < 256 := by have := s[k].toNat_lt; omega
          have Hs := Lib.hid (show stepc m s[k] = chk n (s.data.toList.take (k + 1)) by rw [chk_snoc hl, ← hm.out]; rfl)
          have hbd := step_bd m s[k]
          have Hbd := Lib.hid hbd
          clear hlen hbd
          go_wp2
          go_round
          case rel => exact ⟨k + 1, _, by omega, Hbd.out.1, Hbd.out.2, rfl, by go_num, Hs⟩
          case measure => simp [intOf]; omega
        · obtain rfl : k = s.size := by omega
          have Hf : Hid (m = chk n s.data.toList) := by
            have hm' := hm.out
            rw [List.take_of_length_le (by omega)] at hm'
            exact hm'
          clear hlen
          go_wp2
          go_ret2
          exact ⟨0, by rw [← Hf.out]; rfl, rfl⟩

theorem walk (a0 : Int) (a1 : ByteArray) (w0 : (Lit.int .i64 a0).wf = true) (w1 : a1.size ≤ maxLen) (w : World) :
    Calls Try.prog 4 #[.int .i64 a0, .string a1] w fun e w' => e = .returned (.bool true) ∧ Below w.heap.size w w' := by
  unfold maxLen at w1
  by_cases hs : a1.size ≤ 1048576
  · have hz : (resOk a0 != resOk a0) = false := by simp
    have hz2 : (res a0 a1.data.toList != res a0 a1.data.toList) = false := by simp
    go_enter Try.func4, Try.ntmps4
    go_wp2_with (first | (go_at_call 10; refine (spec_any _ _ hs _).mono ?_; rintro e w' ⟨m, rfl, rfl⟩) | (go_at_call 11; refine (impl_any _ _ hs _).mono ?_; rintro e w' ⟨m, rfl, rfl⟩))
    go_ret
    exact ⟨rfl, below_drawn _ _⟩
  · have hs' : 1048576 < (a1.size : Int) := by omega
    go_enter Try.func4, Try.ntmps4
    go_wp2
    go_ret
    exact ⟨rfl, below_drawn _ 0⟩
end Go.Proofs.Ytceeeeggehlglac.fnExactCheckOf
