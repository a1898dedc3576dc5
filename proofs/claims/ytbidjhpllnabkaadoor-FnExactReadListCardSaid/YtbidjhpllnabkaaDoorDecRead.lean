/-
  The reading of a decimal text in the model. No theorem of a claim stands here.
-/
import Derived.Test.YtbidjhpllnabkaaDoorDec
import Derived.Test.YtbidjhpllnabkaaDoorDecPure
import Derived.Outline
import Derived.Laws.Strings
import Derived.OwnWalk
set_option linter.unusedVariables false
namespace Go.Proofs.YtbidjhpllnabkaaDoor
open Go Go.RowKit

theorem digStep_no {n : Int} {c : UInt8} (h : ¬ (48 ≤ c.toNat ∧ c.toNat ≤ 57)) : digStep n c = n := if_neg h
theorem digStep_yes {n : Int} {c : UInt8} (h : 48 ≤ c.toNat ∧ c.toNat ≤ 57) : digStep n c = 10 * n + ((c.toNat : Int) - 48) := if_pos h

theorem readDec_by {l : List UInt8} {n : Int} (hl : 1 ≤ l.length ∧ l.length ≤ 17) (h0 : -1000000000000000 ≤ digSgn l) (h1 : digSgn l ≤ 1000000000000000) (hd : digSgn l = n) : readDec l = if Lib.itoa n = l then some n else none := by
  subst hd
  unfold readDec
  by_cases h : Lib.itoa (digSgn l) = l
  · rw [if_pos h, if_pos ⟨hl, ⟨h0, h1⟩, h⟩]
  · rw [if_neg h, if_neg fun hc => h hc.2.2]

set_option maxRecDepth 8000 in
set_option maxHeartbeats 2000000 in
theorem l01Value_any (s : ByteArray) (hs : s.size ≤ 1048576) (w : World) :
    Calls Tryd.prog 16 #[.string s] w fun e w' => e = .returned (resInt (readDec s.data.toList)) ∧ Below w.heap.size w w' := by
  have hlen : s.data.toList.length = s.size := by simp
  by_cases hz : s.size < 1
  · have hr : readDec s.data.toList = none := if_neg (by rw [hlen]; omega)
    rw [hr]; clear hr hlen
    go_enter Tryd.func16, Tryd.ntmps16
    go_wp2
    go_ret2
    exact ⟨rfl, Below.refl _ _⟩
  by_cases hg : 17 < s.size
  · have hr : readDec s.data.toList = none := if_neg (by rw [hlen]; omega)
    rw [hr]; clear hr hlen
    go_enter Tryd.func16, Tryd.ntmps16
    go_wp2
    go_ret2
    exact ⟨rfl, Below.refl _ _⟩
  go_enter Tryd.func16, Tryd.ntmps16
  go_wp2
  go_loop [4, 5] (fun v i => ∃ k : Nat, ∃ m : Int, k ≤ s.size ∧ v = .int .i64 m ∧ i = .int .i64 k ∧ Hid (m = digNum (s.data.toList.take k))) (fun _ i => s.size - (intOf i).toNat)
  case atStart => exact ⟨0, 0, Nat.zero_le _, rfl, rfl, by simp [Hid, digNum]⟩
  case round =>
    obtain ⟨k, m, hk, rfl, rfl, hm⟩ := hrel
    by_cases hlt : k < s.size
    · have hl : k < s.data.toList.length := by rw [hlen]; exact hlt
      have hb : (s[k].toNat : Int) < 256 := by have := s[k].toNat_lt; omega
      have hbd := digNum_small (l := s.data.toList) (k := k) (by omega)
      rw [← hm.out] at hbd
      have he : s.data.toList[k] = s[k] := rfl
      have Hs := Lib.hid (show digStep m s[k] = digNum (s.data.toList.take (k + 1)) by rw [digNum_snoc hl, ← hm.out]; rfl)
      clear hlen he
      by_cases c1 : (s[k].toNat : Int) < 48
      · have d1 : decide (48 ≤ (s[k].toNat : Int)) = false := by simpa using c1
        go_wp2
        go_round
        case rel => exact ⟨k + 1, _, by omega, rfl, by go_num, Lib.hid (by rw [← Hs.out, digStep_no (by omega)])⟩
        case measure => simp [intOf]; omega
      · have d1 : decide (48 ≤ (s[k].toNat : Int)) = true := by simpa using c1
        by_cases c2 : 57 < (s[k].toNat : Int)
        · have d2 : decide ((s[k].toNat : Int) ≤ 57) = false := by simpa using c2
          go_wp2
          go_round
          case rel => exact ⟨k + 1, _, by omega, rfl, by go_num, Lib.hid (by rw [← Hs.out, digStep_no (by omega)])⟩
          case measure => simp [intOf]; omega
        · have d2 : decide ((s[k].toNat : Int) ≤ 57) = true := by simpa using c2
          go_wp2
          go_round
          case rel => exact ⟨k + 1, _, by omega, rfl, by go_num, Lib.hid (by rw [← Hs.out, digStep_yes (by omega)])⟩
          case measure => simp [intOf]; omega
    · obtain rfl : k = s.size := by omega
      have Hm : Hid (m = digNum s.data.toList) := by
        have hm' := hm.out
        rw [List.take_of_length_le (by omega)] at hm'
        exact hm'
      have hbd := digNum_small' (l := s.data.toList) (by omega)
      rw [← Hm.out] at hbd
      clear hlen hm
      have hdig : digSgn s.data.toList = if (s[0].toNat : Int) = 45 then -m else m := by
        have e0 : s.data.toList.head? = some s[0] := by
          rw [List.head?_eq_getElem?, List.getElem?_eq_getElem (by simp; omega)]; rfl
        unfold digSgn
        rw [e0, ← Hm.out]
        by_cases h : (s[0].toNat : Int) = 45
        · rw [if_pos h, if_pos (by congr 1; apply UInt8.toNat_inj.1; show s[0].toNat = 45; omega)]
        · rw [if_neg h, if_neg]
          intro h2
          injection h2 with h2
          rw [h2] at h
          exact h rfl
      have hls : 1 ≤ s.data.toList.length ∧ s.data.toList.length ≤ 17 := by simp only [Array.length_toList]; have : s.data.size = s.size := rfl; omega
      by_cases c0 : (s[0].toNat : Int) = 45
      · rw [if_pos c0] at hdig
        have hw : wrap64 (-m) = -m := by unfold wrap64; omega
        have hbd2 : -100000000000000000 < -m ∧ -m < 100000000000000000 := by omega
        by_cases r1 : -m < -1000000000000000
        · have hr : readDec s.data.toList = none := if_neg (by rw [hdig]; omega)
          have d1 : decide (-1000000000000000 ≤ -m) = false := by simp; omega
          have Hr := Lib.hid hr
          clear hr hdig Hm
          go_wp2_with (first | (go_at_call 26; go_in))
          go_ret2
          exact ⟨by (rw [Hr.out]; rfl), Below.refl _ _⟩
        · have d1 : decide (-1000000000000000 ≤ -m) = true := by simp; omega
          by_cases r2 : 1000000000000000 < -m
          · exfalso; omega
          · have d2 : decide (-m ≤ 1000000000000000) = true := by simp; omega
            have hr := readDec_by hls (by rw [hdig]; omega) (by rw [hdig]; omega) hdig
            have Hr := Lib.hid hr
            clear hr hdig Hm
            go_wp2_with (first | (go_at_call 26; go_in) | (go_at_call 27; refine (l01Dec_any (-m) (by omega) (by omega) _).mono ?_; rintro e w' ⟨rfl, hb⟩; have Hb := Lib.hid hb; clear hb))
            · rename_i ht
              go_ret2
              refine ⟨?_, Hb.out⟩
              rw [Hr.out, if_neg (fun he => by rw [ByteArray.toList_eq, he] at ht; simp at ht)]; rfl
            · rename_i ht
              go_ret2
              refine ⟨?_, Hb.out⟩
              rw [Hr.out, if_pos (by rw [ByteArray.toList_eq] at ht; simpa using ht)]; rfl
      · rw [if_neg c0] at hdig
        have hbd2 : -100000000000000000 < m ∧ m < 100000000000000000 := by omega
        by_cases r1 : m < -1000000000000000
        · exfalso; omega
        · have d1 : decide (-1000000000000000 ≤ m) = true := by simp; omega
          by_cases r2 : 1000000000000000 < m
          · have hr : readDec s.data.toList = none := if_neg (by rw [hdig]; omega)
            have d2 : decide (m ≤ 1000000000000000) = false := by simp; omega
            have Hr := Lib.hid hr
            clear hr hdig Hm
            go_wp2_with (first | (go_at_call 26; go_in))
            go_ret2
            exact ⟨by (rw [Hr.out]; rfl), Below.refl _ _⟩
          · have d2 : decide (m ≤ 1000000000000000) = true := by simp; omega
            have hr := readDec_by hls (by rw [hdig]; omega) (by rw [hdig]; omega) hdig
            have Hr := Lib.hid hr
            clear hr hdig Hm
            go_wp2_with (first | (go_at_call 26; go_in) | (go_at_call 27; refine (l01Dec_any (m) (by omega) (by omega) _).mono ?_; rintro e w' ⟨rfl, hb⟩; have Hb := Lib.hid hb; clear hb))
            · rename_i ht
              go_ret2
              refine ⟨?_, Hb.out⟩
              rw [Hr.out, if_neg (fun he => by rw [ByteArray.toList_eq, he] at ht; simp at ht)]; rfl
            · rename_i ht
              go_ret2
              refine ⟨?_, Hb.out⟩
              rw [Hr.out, if_pos (by rw [ByteArray.toList_eq] at ht; simpa using ht)]; rfl
end Go.Proofs.YtbidjhpllnabkaaDoor
