/-
  The walk of the law on names.
-/
import Derived.Test.YtceeeeggehlglacOpen
import Derived.Test.YtceeeeggehlglacRows
import Derived.Test.YtceeeeggehlglacFw
import Derived.Lib.Hide
import Derived.Outline
import Derived.OwnWalk
set_option linter.unusedVariables false
namespace Go.Proofs.Ytceeeeggehlglac.fnExactIsName
open Go Go.RowKit Go.Proofs.Ytceeeeggehlglac.Fl

def okc (c : UInt8) : Bool := decide (97 ≤ c.toNat) && decide (c.toNat ≤ 122)
def isNm (l : List UInt8) : Bool := l.all okc && (decide (1 ≤ l.length) && decide (l.length ≤ 8))

theorem isNm_bad {l : List UInt8} {k : Nat} (h : k < l.length) (hc : okc l[k] = false) : isNm l = false := by
  have : l.all okc = false := by
    rw [List.all_eq_false]
    exact ⟨l[k], List.getElem_mem h, by simp [hc]⟩
  simp [isNm, this]

theorem all_snoc {l : List UInt8} {k : Nat} (h : k < l.length) (ha : (l.take k).all okc = true) (hc : okc l[k] = true) : (l.take (k + 1)).all okc = true := by
  rw [List.take_succ_eq_append_getElem h, List.all_append, ha]
  simp [hc]

theorem spec_any (s : ByteArray) (hs : s.size ≤ 1048576) (w : World) : Calls Try.prog 8 #[.string s] w (VRet (.bool (isNm s.data.toList)) w) := by
  have hlen : s.data.toList.length = s.size := by simp
  go_enter Try.func8, Try.ntmps8
  go_wp2
  go_loop [3] (fun i => ∃ k : Nat, k ≤ s.size ∧ i = .int .i64 k ∧ Hid ((s.data.toList.take k).all okc = true)) (fun i => s.size - (intOf i).toNat)
  case atStart => exact ⟨0, Nat.zero_le _, rfl, by simp [Hid]⟩
  case round =>
    obtain ⟨k, hk, rfl, ha⟩ := hrel
    by_cases hlt : k < s.size
    · have hl : k < s.data.toList.length := by rw [hlen]; exact hlt
      have he : s.data.toList[k] = s[k] := rfl
      by_cases c1 : (s[k].toNat : Int) < 97
      · have hc : okc s.data.toList[k] = false := by rw [he]; simp [okc]; omega
        have Hf := Lib.hid (isNm_bad hl hc)
        clear he hc hlen
        go_wp2
        go_ret
        exact ⟨0, by rw [Hf.out]; rfl, rfl⟩
      · by_cases c2 : 122 < (s[k].toNat : Int)
        · have hc : okc s.data.toList[k] = false := by rw [he]; simp [okc]; omega
          have Hf := Lib.hid (isNm_bad hl hc)
          have d2 : decide (122 < (s[k].toNat : Int)) = true := by simpa using c2
          clear he hc hlen
          go_wp2
          go_ret
          exact ⟨0, by rw [Hf.out]; rfl, rfl⟩
        · have hc : okc s.data.toList[k] = true := by rw [he]; simp [okc]; omega
          have Hf := Lib.hid (all_snoc hl ha hc)
          have d2 : decide (122 < (s[k].toNat : Int)) = false := by simpa using c2
          clear he hc hlen
          go_wp2
          go_round
          case rel => exact ⟨k + 1, by omega, by go_num, Hf⟩
          case measure => simp [intOf]; omega
    · obtain rfl : k = s.size := by omega
      have Hf : Hid (isNm s.data.toList = (decide (1 ≤ s.size) && decide (s.size ≤ 8))) := by
        have ha' := ha.out
        rw [List.take_of_length_le (by omega)] at ha'
        show isNm _ = _
        unfold isNm; rw [ha', hlen]; simp
      clear hlen
      by_cases c1 : 1 ≤ s.size
      · by_cases c2 : s.size ≤ 8
        · have d2 : decide (s.size ≤ 8) = true := by simpa using c2
          have d1 : decide (1 ≤ s.size) = true := by simpa using c1
          have e2 : decide ((s.size : Int) ≤ 8) = true := by simp; omega
          have e1 : decide (1 ≤ (s.size : Int)) = true := by simp; omega
          go_wp2
          go_ret
          exact ⟨0, by rw [Hf.out, d1, d2]; rfl, rfl⟩
        · have d2 : decide (s.size ≤ 8) = false := by simpa using c2
          have d1 : decide (1 ≤ s.size) = true := by simpa using c1
          have e2 : decide ((s.size : Int) ≤ 8) = false := by simp; omega
          have e1 : decide (1 ≤ (s.size : Int)) = true := by simp; omega
          go_wp2
          go_ret
          exact ⟨0, by rw [Hf.out, d1, d2]; rfl, rfl⟩
      · have d1 : decide (1 ≤ s.size) = false := by simpa using c1
        have e1 : decide (1 ≤ (s.size : Int)) = false := by simp; omega
        go_wp2
        go_ret
        exact ⟨0, by rw [Hf.out, d1]; rfl, rfl⟩

theorem impl_any (s : ByteArray) (hs : s.size ≤ 1048576) (w : World) : Calls Try.prog 9 #[.string s] w (VRet (.bool (isNm s.data.toList)) w) := by
  have hlen : s.data.toList.length = s.size := by simp
  by_cases c1 : s.size < 1
  · have Hf : Hid (isNm s.data.toList = false) := by
      show isNm _ = _
      unfold isNm; rw [hlen]; simp; omega
    clear hlen
    go_enter Try.func9, Try.ntmps9
    go_wp2
    go_ret
    exact ⟨0, by rw [Hf.out]; rfl, rfl⟩
  · have e1 : decide ((s.size : Int) < 1) = false := by simp; omega
    by_cases c2 : 8 < s.size
    · have Hf : Hid (isNm s.data.toList = false) := by
        show isNm _ = _
        unfold isNm; rw [hlen]; simp; omega
      have e2 : decide (8 < (s.size : Int)) = true := by simp; omega
      clear hlen
      go_enter Try.func9, Try.ntmps9
      go_wp2
      go_ret
      exact ⟨0, by rw [Hf.out]; rfl, rfl⟩
    · have e2 : decide (8 < (s.size : Int)) = false := by simp; omega
      go_enter Try.func9, Try.ntmps9
      go_wp2
      go_loop [14] (fun i => ∃ k : Nat, k ≤ s.size ∧ i = .int .i64 k ∧ Hid ((s.data.toList.take k).all okc = true)) (fun i => s.size - (intOf i).toNat)
      case atStart => exact ⟨0, Nat.zero_le _, rfl, by simp [Hid]⟩
      case round =>
        obtain ⟨k, hk, rfl, ha⟩ := hrel
        by_cases hlt : k < s.size
        · have hl : k < s.data.toList.length := by rw [hlen]; exact hlt
          have he : s.data.toList[k] = s[k] := rfl
          by_cases c1 : (s[k].toNat : Int) < 97
          · have hc : okc s.data.toList[k] = false := by rw [he]; simp [okc]; omega
            have Hf := Lib.hid (isNm_bad hl hc)
            clear he hc hlen
            go_wp2
            go_ret
            exact ⟨0, by rw [Hf.out]; rfl, rfl⟩
          · by_cases c3 : 122 < (s[k].toNat : Int)
            · have hc : okc s.data.toList[k] = false := by rw [he]; simp [okc]; omega
              have Hf := Lib.hid (isNm_bad hl hc)
              have d2 : decide (122 < (s[k].toNat : Int)) = true := by simpa using c3
              clear he hc hlen
              go_wp2
              go_ret
              exact ⟨0, by rw [Hf.out]; rfl, rfl⟩
            · have hc : okc s.data.toList[k] = true := by rw [he]; simp [okc]; omega
              have Hf := Lib.hid (all_snoc hl ha hc)
              have d2 : decide (122 < (s[k].toNat : Int)) = false := by simpa using c3
              clear he hc hlen
              go_wp2
              go_round
              case rel => exact ⟨k + 1, by omega, by go_num, Hf⟩
              case measure => simp [intOf]; omega
        · obtain rfl : k = s.size := by omega
          have Hf : Hid (isNm s.data.toList = true) := by
            have ha' := ha.out
            rw [List.take_of_length_le (by omega)] at ha'
            show isNm _ = _
            unfold isNm; rw [ha', hlen]; simp; omega
          clear hlen
          go_wp2
          go_ret
          exact ⟨0, by rw [Hf.out]; rfl, rfl⟩

theorem walk (a0 : ByteArray) (w0 : a0.size ≤ maxLen) (w : World) :
    Calls Try.prog 3 #[.string a0] w fun e w' => e = .returned (.bool true) ∧ Below w.heap.size w w' := by
  unfold maxLen at w0
  by_cases hs : a0.size ≤ 1048576
  · have hz : (isNm a0.data.toList != isNm a0.data.toList) = false := by simp
    go_enter Try.func3, Try.ntmps3
    go_wp2_with (first | (go_at_call 8; refine (spec_any _ hs _).mono ?_; rintro e w' ⟨m, rfl, rfl⟩) | (go_at_call 9; refine (impl_any _ hs _).mono ?_; rintro e w' ⟨m, rfl, rfl⟩))
    go_ret
    exact ⟨rfl, below_drawn _ _⟩
  · have hs' : 1048576 < (a0.size : Int) := by omega
    go_enter Try.func3, Try.ntmps3
    go_wp2
    go_ret
    exact ⟨rfl, below_drawn _ 0⟩
end Go.Proofs.Ytceeeeggehlglac.fnExactIsName
