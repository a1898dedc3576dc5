/-
  The reading of lists of numbers: the walk in the model. No theorem of a claim stands here.
-/
import Derived.Test.YtilebahnfbepgaaDoorReadF
set_option linter.unusedVariables false
namespace Go.Proofs.YtilebahnfbepgaaDoor
open Go Go.RowKit Go.Deep Go.Proofs.YtilebahnfbepgaaDoor.Fl

theorem infoF32 : (Tryd.prog.info? 44).map (fun i => (i.zero, i.size, i.bytes)) = some (some (.float .f32 0), 1, 4) := by kernel_rfl
theorem hexVal_dig {c : UInt8} (h0 : 48 ≤ c.toNat) (h1 : c.toNat ≤ 57) : hexVal c = some (c.toNat - 48) := if_pos ⟨h0, h1⟩
theorem hexVal_let {c : UInt8} (h0 : 97 ≤ c.toNat) (h1 : c.toNat ≤ 102) : hexVal c = some (c.toNat - 87) := by
  unfold hexVal
  rw [if_neg (by omega), if_pos ⟨h0, h1⟩]
theorem hexVal_no {c : UInt8} (h0 : ¬ (48 ≤ c.toNat ∧ c.toNat ≤ 57)) (h1 : ¬ (97 ≤ c.toNat ∧ c.toNat ≤ 102)) : hexVal c = none := by
  unfold hexVal
  rw [if_neg h0, if_neg h1]
theorem hexRead_cons {n : Nat} {c : UInt8} {r : List UInt8} {d : Nat} (h : hexVal c = some d) : hexRead n (c :: r) = hexRead (16 * n + d) r := by
  rw [hexRead, h]
theorem hexRead_stop {n : Nat} {c : UInt8} {r : List UInt8} (h : hexVal c = none) : hexRead n (c :: r) = none := by
  rw [hexRead, h]
theorem pow_small {m j : Nat} (h : m < 16 ^ j) (hj : j ≤ 7) : m < 268435456 := by
  have h2 : (16 : Nat) ^ j ≤ 16 ^ 7 := Nat.pow_le_pow_right (by decide) hj
  have e : (16 : Nat) ^ 7 = 268435456 := by decide
  omega
theorem pow_step {m j d : Nat} (h : m < 16 ^ j) (hd : d < 16) : 16 * m + d < 16 ^ (j + 1) := by
  rw [Nat.pow_succ]; omega

set_option maxRecDepth 8000 in
set_option maxHeartbeats 4000000 in
theorem l01NRead_any (s : ByteArray) (hs : s.size ≤ 1048576) (w : World) :
    Calls Tryd.prog 28 #[.string s] w fun e w' => ∃ a cap, e = .returned (.tuple #[.slice a (nlistVal s.data.toList).length cap, .bool (nlistGood s.data.toList)]) ∧ OwnF w.heap.size w' a cap (nlistVal s.data.toList) ∧ Below w.heap.size w w' := by
  have hel : s.toList = s.data.toList := ByteArray.toList_eq s
  by_cases hn : s.data.toList = [110, 111, 110, 101]
  · have Hv := Lib.hid (show nlistVal s.data.toList = [] ∧ nlistGood s.data.toList = true by unfold nlistVal nlistGood readNList; rw [if_pos hn]; exact ⟨rfl, rfl⟩)
    have hn2 : (s.toList == [110, 111, 110, 101]) = true := by rw [hel, hn]; rfl
    clear hn hel
    go_enter Tryd.func28, Tryd.ntmps28
    go_wp2
    go_ret2
    refine ⟨some ⟨w.heap.size, 0, none⟩, 0, ?_, ?_, (Below.refl _ _).alloc (Nat.le_refl _) _⟩
    · rw [Hv.out.1, Hv.out.2]; rfl
    · rw [Hv.out.1]
      exact ⟨rfl, .inr ⟨w.heap.size, 0, #[], rfl, Nat.le_refl _, by show (w.heap.push _)[w.heap.size]? = _; simp, Nat.le_refl _, by simp [maxLen], rfl, rfl⟩⟩
  · obtain ⟨i0, hi, hz0, hz1, hz2⟩ := info_parts infoF32
    have hn2 : (s.toList == [110, 111, 110, 101]) = false := by rw [hel, beq_eq_false_iff_ne]; exact hn
    clear hel
    go_enter Tryd.func28, Tryd.ntmps28
    go_wp2_with fail
    refine (l01Cut_any s hs _).mono ?_
    rintro e w1 ⟨D, g, c, rfl, hcut, hg0, hgs, hown, hb⟩
    have Hw1 := Lib.hid (((Below.refl _ _).alloc (Nat.le_refl _) _).trans (hb.mono (by simp)) : Below w.heap.size w w1)
    have Hp1 := Lib.hid (show Pieces (w.heap.size + 1) w1 s D g c from ⟨hcut, by simpa using hg0, hgs, by have := hown; simpa using this⟩)
    have Ho1 := Lib.hid (show w1.ownsRow w.heap.size 44 1 (.slice (some ⟨w.heap.size, 0, none⟩) 0 0) 0 (fvals []) by
      refine World.ownsRow.below (B := (w.alloc (.cells #[] 44)).heap.size) ?_ hb (by simp)
      exact ⟨rfl, .inr ⟨w.heap.size, 0, #[], rfl, Nat.le_refl _, by show (w.heap.push _)[w.heap.size]? = _; simp, Nat.le_refl _, by simp [maxLen], rfl, rfl⟩⟩)
    have hlc : (cuts s.data.toList).length = D.length := by rw [← hcut, List.length_map]
    have hDl : D.length ≤ s.size + 1 := by have := cuts_len s.data.toList; rw [hlc] at this; simpa using this
    clear hb hcut hown hg0
    by_cases hmany : 256 < D.length
    · have hr := readN_many hn (by omega)
      have Hv := Lib.hid (show nlistVal s.data.toList = [] ∧ nlistGood s.data.toList = false by unfold nlistVal nlistGood; rw [hr]; exact ⟨rfl, rfl⟩)
      have d1 : decide (256 < (D.length : Int)) = true := by simp; omega
      clear hr hn hlc
      go_wp2
      go_ret2
      refine ⟨none, 0, ?_, ?_, Hw1.out⟩
      · rw [Hv.out.1, Hv.out.2]; rfl
      · rw [Hv.out.1]; exact OwnF.nil _ _
    · have Hr := Lib.hid (readN_few hn (by omega))
      have d1 : decide (256 < (D.length : Int)) = false := by simp; omega
      have Hlc := Lib.hid hlc
      clear hn hlc
      go_wp2_with fail
      go_loopw [4, 6] (fun O I wr => ∃ (k g2 c2 : Nat) (l : List Nat), k ≤ D.length ∧ I = .int .i64 k ∧ O = .slice (some ⟨g2, 0, none⟩) k c2 ∧ l.length = k ∧ w.heap.size ≤ g2 ∧ g2 < wr.heap.size ∧ Hid (g2 ≠ g) ∧
        Hid (readNums ((cuts s.data.toList).take k) = some l) ∧ Hid (Pieces (w.heap.size + 1) wr s D g c) ∧ Hid (wr.ownsRow w.heap.size 44 1 (.slice (some ⟨g2, 0, none⟩) k c2) k (fvals l)) ∧ Hid (Below w.heap.size w wr)) (fun _ I _ => D.length - (intOf I).toNat)
      case atStart => exact ⟨0, w.heap.size, 0, [], Nat.zero_le _, rfl, rfl, rfl, Nat.le_refl _, by have := Hw1.out.size; have := Hp1.out.low; omega, Lib.hid (by have := Hp1.out.low; omega), Lib.hid rfl, Hp1, Ho1, Hw1⟩
      case round =>
        obtain ⟨k, g2, c2, l, hk, rfl, rfl, hlk, hg2, hgs2, Hne, Hl, Hp, Ho, Hw⟩ := hrel
        by_cases hlt : k < D.length
        · obtain ⟨hc1, hDc⟩ := Hp.out.cell hlt
          obtain ⟨hk2, hget, hsz⟩ := Hp.out.get hlt
          have HBad := Lib.hid (fun h => show nlistVal s.data.toList = [] ∧ nlistGood s.data.toList = false by
            have hb := readNums_bad hk2 (by rw [hget]; exact h)
            unfold nlistVal nlistGood; rw [Hr.out, hb]; exact ⟨rfl, rfl⟩)
          have HGood := Lib.hid (fun (n : Nat) h => readNums_snoc (n := n) hk2 Hl.out (by rw [hget]; exact h))
          generalize D[k] = pc at hc1 hsz HBad HGood
          clear hget hk2
          by_cases h8 : pc.size = 8
          · have hl8 : pc.data.toList.length = 8 := by rw [Array.length_toList]; exact h8
            have hne8 : ((pc.size : Int) != 8) = false := by rw [h8]; rfl
            have HR := Lib.hid (show readNum pc.data.toList = (hexRead 0 pc.data.toList).bind fun n => if bitsN (vl .f32 n) = n then some n else none from if_pos hl8)
            have Hl8 := Lib.hid hl8
            clear hl8
            go_wp2_with fail
            go_loop [7, 8] (fun N K => ∃ j m : Nat, j ≤ 8 ∧ N = .int .i64 m ∧ K = .int .i64 j ∧ Hid (m < 16 ^ j) ∧ Hid (hexRead 0 pc.data.toList = hexRead m (pc.data.toList.drop j))) (fun _ K => 8 - (intOf K).toNat)
            case atStart => exact ⟨0, 0, by omega, rfl, rfl, Lib.hid (by decide), Lib.hid rfl⟩
            case round =>
              obtain ⟨j, m, hj, rfl, rfl, Hm, Hd⟩ := hrel
              by_cases hj8 : j < 8
              · have hjl : j < pc.data.toList.length := by rw [Hl8.out]; exact hj8
                have hjs : j < pc.size := by omega
                have hm7 := pow_small Hm.out (by omega)
                have HD := Hd.out
                rw [List.drop_eq_getElem_cons hjl, show pc.data.toList[j] = pc[j] from rfl] at HD
                have hb : (pc[j].toNat : Int) < 256 := by have := pc[j].toNat_lt; omega
                have HDh := Lib.hid HD
                clear HD hjl
                by_cases hdig : 48 ≤ pc[j].toNat ∧ pc[j].toNat ≤ 57
                · have Hs := Lib.hid (HDh.out.trans (hexRead_cons (hexVal_dig hdig.1 hdig.2)))
                  have Hp2 := Lib.hid (pow_step (d := pc[j].toNat - 48) Hm.out (by omega))
                  have i0' : 48 ≤ (pc[j].toNat : Int) := by omega
                  have i1' : (pc[j].toNat : Int) ≤ 57 := by omega
                  have e1 : ((16 * m + (pc[j].toNat - 48) : Nat) : Int) = 16 * (m : Int) + ((pc[j].toNat : Int) - 48) := by omega
                  have He1 := Lib.hid e1
                  clear hdig e1
                  go_wp2
                  go_round
                  case rel => exact ⟨j + 1, _, by omega, by rw [He1.out], by go_num, Hp2, Hs⟩
                  case measure => simp [intOf]; omega
                · by_cases hlet : 97 ≤ pc[j].toNat ∧ pc[j].toNat ≤ 102
                  · have Hs := Lib.hid (HDh.out.trans (hexRead_cons (hexVal_let hlet.1 hlet.2)))
                    have Hp2 := Lib.hid (pow_step (d := pc[j].toNat - 87) Hm.out (by omega))
                    have i0' : 97 ≤ (pc[j].toNat : Int) := by omega
                    have i1' : (pc[j].toNat : Int) ≤ 102 := by omega
                    have e1 : ((16 * m + (pc[j].toNat - 87) : Nat) : Int) = 16 * (m : Int) + ((pc[j].toNat : Int) - 97 + 10) := by omega
                    have He1 := Lib.hid e1
                    clear hdig hlet e1
                    go_wp2
                    go_round
                    case rel => exact ⟨j + 1, _, by omega, by rw [He1.out], by go_num, Hp2, Hs⟩
                    case measure => simp [intOf]; omega
                  · have hno := HDh.out.trans (hexRead_stop (hexVal_no hdig hlet))
                    have Hv := Lib.hid (HBad.out (by rw [HR.out, hno]; rfl))
                    clear hno
                    have hdigI : ¬ (48 ≤ (pc[j].toNat : Int) ∧ (pc[j].toNat : Int) ≤ 57) := by omega
                    have hletI : ¬ (97 ≤ (pc[j].toNat : Int) ∧ (pc[j].toNat : Int) ≤ 102) := by omega
                    clear hdig hlet
                    go_wp2
                    all_goals first | (exfalso; omega) | (go_ret2; exact ⟨none, 0, by rw [Hv.out.1, Hv.out.2]; rfl, by rw [Hv.out.1]; exact OwnF.nil _ _, Hw.out⟩)
              · obtain rfl : j = 8 := by omega
                have e16 : (16 : Nat) ^ 8 = 4294967296 := by decide
                have hm8 : m < 4294967296 := by have := Hm.out; omega
                have hrd : hexRead 0 pc.data.toList = some m := by
                  rw [Hd.out, List.drop_eq_nil_of_le (by rw [Hl8.out]; exact Nat.le_refl _)]; rfl
                have hfb := run_f32frombits (m : Int)
                have hB : ∀ w, Calls Tryd.prog 40 #[.float .f32 m] w (VRet (.int .i64 (bitsN (vl .f32 m) : Int)) w) := fun w => by
                  rw [← bitsV_eq]; exact l01Bits_any m (by omega) w
                clear e16
                by_cases hbm : bitsN (vl .f32 m) = m
                · have Hg2 := Lib.hid (HGood.out m (by rw [HR.out, hrd]; simp [hbm]))
                  have hne2 : ((m : Int) != (m : Int)) = false := by simp
                  rw [hbm] at hB
                  clear hrd hbm
                  go_wp2_with (first | (go_at_call 39; go_in) | (go_at_call 40; refine (hB _).mono ?_; rintro e w2 ⟨nd, rfl, hw2⟩; have hbd : Below wr.heap.size wr w2 := (by rw [hw2]; exact below_drawn wr nd); have Hb := Lib.hid (Hw.out.trans (hbd.mono Hw.out.size)); have Ho2 := Lib.hid (Ho.out.below hbd hgs2); have Hp2 := Lib.hid (Hp.out.below hbd (Nat.le_refl _)); have hgs3 : g2 < w2.heap.size := Nat.lt_of_lt_of_le hgs2 hbd.size; clear hbd hw2) | (at_builtin; refine wpList_append_own _ rfl (.tmp 74) (.tmp 76) 28 rfl w.heap.size 44 i0 (.float .f32 0) 1 4 Tryd.underlying28 hi hz0 hz1 hz2 rfl (by decide) (.slice (some ⟨g2, 0, none⟩) k c2) k _ rfl (Ho2.out.alloc _) ⟨w2.heap.size, 0, none⟩ 1 1 [.float .f32 m] rfl (by simp) (cell_newrowB _ _ _) (f_one _) (by unfold maxLen; omega) (by omega) (by have := Hb.out.size; simp; omega) ?_; intro v' w3 hown' hgrow3 hnil3; obtain ⟨g', c', rfl, hg0', hgs', hc'⟩ := form_own hown'; have Hb3 := Lib.hid ((Hb.out.alloc Hb.out.size _).grown hgrow3 (by have := Hb.out.size; simp; omega) (by intro x hx; simp [Value.ownBlock] at hx; omega)); have Hp3 := Lib.hid ((Hp2.out.below ((Below.refl _ _).alloc (Nat.le_refl _) _ : Below w2.heap.size w2 _) (Nat.le_refl _)).grown hgrow3 (by intro e; simp [Value.ownBlock] at e; exact Hne.out e)); have Hne3 := Lib.hid (own_ne hown' Hp3.out.own (by decide)); have Ho3 := Lib.hid hown'; clear hown' hgrow3 hnil3))
                  go_roundw
                  case rel => exact ⟨k + 1, g', c', l ++ [m], by omega, by go_num, rfl, by simp [hlk], hg0', hgs', Hne3, Hg2, Hp3, Lib.hid (by rw [fvals_snoc]; exact Ho3.out), Hb3⟩
                  case measure => simp [intOf]; omega
                · have Hv := Lib.hid (HBad.out (by rw [HR.out, hrd]; simp [hbm]))
                  have hne2 : ((bitsN (vl .f32 m) : Int) != (m : Int)) = true := by rw [bne_iff_ne]; omega
                  clear hrd hbm
                  generalize bitsN (vl .f32 m) = bm at hB hne2
                  go_wp2_with (first | (go_at_call 39; go_in) | (go_at_call 40; refine (hB _).mono ?_; rintro e w2 ⟨nd, rfl, rfl⟩))
                  go_ret2
                  exact ⟨none, 0, by rw [Hv.out.1, Hv.out.2]; rfl, by rw [Hv.out.1]; exact OwnF.nil _ _, Hw.out.trans ((below_drawn wr nd).mono Hw.out.size)⟩
          · have hne8 : ((pc.size : Int) != 8) = true := by rw [bne_iff_ne]; omega
            have Hv := Lib.hid (HBad.out (if_neg (by rw [Array.length_toList]; exact h8)))
            go_wp2
            go_ret2
            refine ⟨none, 0, ?_, ?_, Hw.out⟩
            · rw [Hv.out.1, Hv.out.2]; rfl
            · rw [Hv.out.1]; exact OwnF.nil _ _
        · obtain rfl : k = D.length := by omega
          have Hv := Lib.hid (show nlistVal s.data.toList = l ∧ nlistGood s.data.toList = true by
            have h1 := Hl.out
            rw [List.take_of_length_le (by rw [Hlc.out]; exact Nat.le_refl _)] at h1
            unfold nlistVal nlistGood
            rw [Hr.out, h1]; exact ⟨rfl, rfl⟩)
          go_wp2
          go_ret2
          refine ⟨some ⟨g2, 0, none⟩, c2, ?_, ?_, Hw.out⟩
          · rw [Hv.out.1, Hv.out.2, hlk]; rfl
          · rw [Hv.out.1]; unfold OwnF; rw [hlk]; exact Ho.out
end Go.Proofs.YtilebahnfbepgaaDoor
