/-
  The text of a list of complex numbers: in the program; it is read back. No theorem of a claim stands here.
-/
import Derived.Test.YtcjkcoibeieeeaaGreatDoorOwnC
import Derived.Test.YtcjkcoibeieeeaaGreatDoorBack
set_option linter.unusedVariables false
set_option maxRecDepth 8000
namespace Go.Proofs.YtcjkcoibeieeeaaGreatDoor
open Go Go.RowKit Go.Deep Go.Proofs.YtcjkcoibeieeeaaGreatDoor.Fl

def hexP (p : Nat × Nat) : List UInt8 := hexT p.1 ++ hexT p.2
theorem hexP_len (p : Nat × Nat) : (hexP p).length = 16 := by unfold hexP; rw [List.length_append, hexT_len, hexT_len]
def cpxTexts (l : List (Nat × Nat)) : List (List UInt8) := l.map hexP
def cpxTextOf (l : List (Nat × Nat)) : List UInt8 := if l = [] then [110, 111, 110, 101] else Lib.join (cpxTexts l) [44]
def cpxOk (l : List (Nat × Nat)) : Bool := decide (l.length ≤ 256)
def cpxRes (l : List (Nat × Nat)) : ByteArray := if cpxOk l then ⟨(cpxTextOf l).toArray⟩ else ⟨#[]⟩
theorem cgetD {l : List (Nat × Nat)} {k : Nat} (h : k < l.length) : l.getD k (0, 0) = l[k] := by simp [List.getD, h]

theorem pairText_any (p : Nat × Nat) (hp : p.1 < 2 ^ 32 ∧ p.2 < 2 ^ 32) (w : World) (hT : Tz w) :
    Calls Tryz.prog 67 #[.complex .f32 p.1 p.2] w fun e w' => e = .returned (.tuple #[.string ⟨(hexP p).toArray⟩, .bool true]) ∧ Below w.heap.size w w' := by
  have hA := numberText_any p.1 hp.1 w hT
  have hB := fun w' (h : Below w.heap.size w w') => numberText_any p.2 hp.2 w' (hT.stays h (Nat.le_refl _))
  have happ := bytes_ap (hexT p.1) (hexT p.2)
  have Hx := Lib.hid (show hexP p = hexT p.1 ++ hexT p.2 from rfl)
  have l1 := hexT_len p.1
  have l2 := hexT_len p.2
  generalize hexT p.1 = x at *
  generalize hexT p.2 = y at *
  generalize hexP p = z at *
  go_enter Tryz.func67, Tryz.ntmps67
  go_wp2_with fail
  refine hA.mono ?_
  rintro e w1 ⟨rfl, hb1⟩
  have B1 := Lib.hid hb1
  clear hb1
  go_wp2_with fail
  refine (hB _ B1.out).mono ?_
  rintro e w2 ⟨rfl, hb2⟩
  have B2 := Lib.hid (B1.out.trans (hb2.mono B1.out.size))
  clear hb2
  go_wp2
  go_ret2
  exact ⟨by rw [Hx.out]; rfl, B2.out⟩

def cstrs (l : List (Nat × Nat)) : List Value := l.map fun n => .string ⟨(hexP n).toArray⟩
theorem cstrs_snoc {l : List (Nat × Nat)} {k : Nat} (h : k < l.length) : cstrs (l.take (k + 1)) = cstrs (l.take k) ++ [.string ⟨(hexP (l.getD k (0, 0))).toArray⟩] := by
  rw [cgetD h, List.take_succ_eq_append_getElem h]; unfold cstrs; rw [List.map_append]; rfl
def cstrList (l : List (Nat × Nat)) : List ByteArray := l.map fun n => ⟨(hexP n).toArray⟩
theorem cstrList_len (l : List (Nat × Nat)) : (cstrList l).length = l.length := by simp [cstrList]
theorem cstrList_map (l : List (Nat × Nat)) : (cstrList l).map (·.data.toList) = cpxTexts l := by
  unfold cstrList cpxTexts
  rw [List.map_map]
  rfl
theorem cjoin_len (l : List (Nat × Nat)) : (Lib.join (cpxTexts l) [44]).length ≤ 17 * l.length := by
  have key : ∀ r : List (Nat × Nat), (Lib.joinTail [44] (cpxTexts r)).length ≤ 17 * r.length := by
    intro r
    induction r with
    | nil => simp [Lib.joinTail, cpxTexts]
    | cons x r ih =>
      have h2 := hexP_len x
      unfold Lib.joinTail cpxTexts at ih ⊢
      simp only [List.map_cons, List.flatten_cons, List.length_append, List.length_cons, List.length_nil]
      omega
  cases l with
  | nil => simp [cpxTexts, Lib.join_nil]
  | cons x r =>
    have h1 := key r
    have h2 := hexP_len x
    show (Lib.join (hexP x :: cpxTexts r) [44]).length ≤ _
    rw [Lib.join_cons, List.length_append, List.length_cons]
    omega

set_option maxRecDepth 8000 in
set_option maxHeartbeats 2000000 in
theorem joinItemsC_any (w : World) (hT : Tz w) (a : Option Addr) (len cap : Nat) (l : List (Nat × Nat)) (ha : CRd w a len cap l) (hin : ∀ n ∈ l, n.1 < 2 ^ 32 ∧ n.2 < 2 ^ 32) (hl : len ≤ 1048576) :
    Calls Tryz.prog 66 #[.slice a len cap, .int .i64 256, .func (.func 67) #[] #[]] w fun e w' => e = .returned (.tuple #[.string (cpxRes l), .bool (cpxOk l)]) ∧ Below w.heap.size w w' := by
  have hlen := ha.1
  have Hin := Lib.hid hin
  clear hin
  by_cases hg : 256 < len
  · have d1 : decide (256 < (len : Int)) = true := by simp; omega
    have hk : cpxOk l = false := by unfold cpxOk; rw [hlen, decide_eq_false (by omega)]
    have Hf := Lib.hid (show cpxRes l = ⟨#[]⟩ ∧ cpxOk l = false from ⟨if_neg (by rw [hk]; simp), hk⟩)
    clear hk hlen
    go_enter Tryz.func66, Tryz.ntmps66
    go_wp2
    go_ret2
    exact ⟨by rw [Hf.out.1, Hf.out.2]; rfl, Below.refl _ _⟩
  by_cases h0 : len = 0
  · subst h0
    obtain rfl := List.length_eq_zero_iff.1 hlen
    clear hlen
    go_enter Tryz.func66, Tryz.ntmps66
    go_wp2
    go_ret2
    exact ⟨rfl, Below.refl _ _⟩
  obtain ⟨i0, hi, hz0, hz1, hz2⟩ := info_parts infoS
  have d1 : decide (256 < (len : Int)) = false := by simp; omega
  have hne : ((len : Int) == 0) = false := by rw [beq_eq_false_iff_ne]; omega
  have hmk := run_make (P := Tryz.prog) w 94 9 i0 (.string ByteArray.empty) Tryz.underlying94 hi hz0 .i64 .i64 0 len (Int.le_refl _) (by omega) (by rw [hz2]; omega) (by omega)
  have Ha := Lib.hid ha
  clear ha hlen
  go_enter Tryz.func66, Tryz.ntmps66
  go_wp2
  go_loopw [8, 25] (fun O i wr => ∃ k g c : Nat, k ≤ len ∧ i = .int .i64 k ∧ O = .slice (some ⟨g, 0, none⟩) k c ∧ w.heap.size ≤ g ∧ g < wr.heap.size ∧
    Hid (wr.ownsRow w.heap.size 9 1 (.slice (some ⟨g, 0, none⟩) k c) k (cstrs (l.take k))) ∧ Hid (Below w.heap.size w wr)) (fun _ i _ => len - (intOf i).toNat)
  case atStart =>
    refine ⟨0, w.heap.size, len, Nat.zero_le _, rfl, rfl, Nat.le_refl _, by simp, Lib.hid ?_, Lib.hid ((Below.refl _ _).alloc (Nat.le_refl _) _)⟩
    have := World.ownsRow_made (w := w) (base := w.heap.size) (e := 9) (size := 1) (madeCells (Value.string ByteArray.empty).cells ((len : Int).toNat * i0.size)) len (Nat.le_refl _) (by unfold maxLen; omega) (by simp [madeCells, Value.cells, hz1])
    have e : madeCells (Value.string ByteArray.empty).cells ((len : Int).toNat * i0.size) = madeCells #[Value.string ByteArray.empty] len := by rw [hz1, Nat.mul_one]; rfl
    rw [e] at this
    simpa [cstrs, hz1] using this
  case round =>
    obtain ⟨k, g, c, hk, rfl, rfl, hg0, hgs, Ho, Hw⟩ := hrel
    by_cases hlt : k < len
    · have hI := (Ha.out.stays Hw.out (Nat.le_refl _))
      obtain ⟨b, o, rfl, hc2, hbs2⟩ := hI.2.2 k hlt
      have hcap := hI.2.1
      have hkl : k < l.length := by rw [Ha.out.1]; exact hlt
      have g0 : (l.getD k (0, 0)).1 < 2 ^ 32 ∧ (l.getD k (0, 0)).2 < 2 ^ 32 := by rw [cgetD hkl]; exact Hin.out _ (List.getElem_mem hkl)
      have Hs := Lib.hid (cstrs_snoc hkl)
      generalize l.getD k (0, 0) = v at hc2 g0 Hs
      have hval := fun w' (hb : Below w.heap.size w w') => pairText_any v g0 w' (hT.stays hb (Nat.le_refl _))
      generalize hexP v = tv at hval Hs
      clear hI hkl g0
      go_wp2_with (first | (go_at_call 67; refine (hval _ Hw.out).mono ?_; rintro e W2 ⟨rfl, hb⟩; have Hb := Lib.hid (Hw.out.trans (hb.mono Hw.out.size)); have Ho2 := Lib.hid (Ho.out.below hb hgs); have hgs2 : g < W2.heap.size := Nat.lt_of_lt_of_le hgs hb.size; clear hb) | (at_builtin; refine wpList_append_own _ rfl (.tmp 37) (.tmp 39) 94 rfl w.heap.size 9 i0 (.string ByteArray.empty) 1 16 Tryz.underlying94 hi hz0 hz1 hz2 rfl (by decide) (.slice (some ⟨g, 0, none⟩) k c) k _ rfl (Ho2.out.alloc _) ⟨W2.heap.size, 0, none⟩ 1 1 [.string ⟨tv.toArray⟩] rfl (by simp) (cell_newrowB _ _ _) (str_one _) (by unfold maxLen; omega) (by omega) (by have := Hb.out.size; simp; omega) ?_; intro v' w3 hown' hgrow3 hnil3; obtain ⟨g', c', rfl, hg0', hgs', hc'⟩ := form_own hown'; have Hb3 := Lib.hid ((Hb.out.alloc Hb.out.size _).grown hgrow3 (by have := Hb.out.size; simp; omega) (by intro x hx; simp [Value.ownBlock] at hx; omega)); have Ho3 := Lib.hid hown'; clear hown' hgrow3 hnil3))
      go_roundw
      case rel => exact ⟨k + 1, g', c', by omega, by go_num, rfl, hg0', hgs', Lib.hid (by rw [Hs.out]; exact Ho3.out), Hb3⟩
      case measure => simp [intOf]; omega
    · obtain rfl : k = len := by omega
      have htake : l.take k = l := List.take_of_length_le (Nat.le_of_eq Ha.out.1)
      have hok : cpxOk l = true := by unfold cpxOk; rw [Ha.out.1, decide_eq_true (by omega)]
      have Hf := Lib.hid (show cpxRes l = ⟨(Lib.join (cpxTexts l) [44]).toArray⟩ ∧ cpxOk l = true by
        refine ⟨?_, hok⟩
        unfold cpxRes
        rw [if_pos hok]
        unfold cpxTextOf
        rw [if_neg (fun h => by have := Ha.out.1; rw [h] at this; simp at this; omega)])
      have hbs := cstrList_map l
      have hJ := Tryz.strings_Join g 0 c (cstrList l) ⟨#[44]⟩ wr (fun j x hx => by
        have h2 := Ho.out.cells (g := g) rfl j (.string x) (by
          rw [htake]
          unfold cstrList at hx
          rw [List.getElem?_map] at hx
          unfold cstrs
          rw [List.getElem?_map]
          cases hj : l[j]? with
          | none => rw [hj] at hx; simp at hx
          | some n => rw [hj] at hx; simp at hx; simp [hx])
        rw [add_none] at h2
        exact h2) hgs (by rw [cstrList_len, Ha.out.1]; omega) (by
          rw [cstrList_len, Ha.out.1]
          rcases Ho.out.2 with ⟨h, _⟩ | ⟨g', cap', cur, e1, _, _, h3, _⟩
          · cases h
          · simp at e1; omega) (by
        rw [hbs]
        exact Nat.le_trans (cjoin_len l) (by rw [Ha.out.1]; omega))
      rw [hbs, cstrList_len, Ha.out.1] at hJ
      clear htake hok hbs
      go_wp2_with (go_at_call 80; refine hJ.mono ?_; rintro e W2 ⟨rfl, hb⟩; have Hb2 := Lib.hid (Hw.out.trans (hb.mono Hw.out.size)); clear hb)
      go_ret2
      exact ⟨by rw [Hf.out.1, Hf.out.2]; rfl, Hb2.out⟩

theorem implCpx_any (w : World) (hT : Tz w) (a : Option Addr) (len cap : Nat) (l : List (Nat × Nat)) (ha : CRd w a len cap l) (hin : ∀ n ∈ l, n.1 < 2 ^ 32 ∧ n.2 < 2 ^ 32) (hl : len ≤ 1048576) :
    Calls Tryz.prog 30 #[.slice a len cap] w fun e w' => e = .returned (.tuple #[.string (cpxRes l), .bool (cpxOk l)]) ∧ Below w.heap.size w w' := by
  go_enter Tryz.func30, Tryz.ntmps30
  go_wp2_with (go_at_call 66; refine (joinItemsC_any w hT a len cap l ha hin hl).mono ?_; rintro e W2 ⟨rfl, hb⟩; have Hb := Lib.hid hb; clear hb)
  go_ret2
  exact ⟨rfl, Hb.out⟩


def canonP (p : Nat × Nat) : Nat × Nat := (canon p.1, canon p.2)
theorem hexP_comma (p : Nat × Nat) : ∀ c ∈ hexP p, c ≠ 44 := by
  intro c hc
  rcases List.mem_append.1 hc with h | h
  · exact hexN_comma 8 _ c h
  · exact hexN_comma 8 _ c h
theorem readPr_hexP {p : Nat × Nat} (h : p.1 < 2 ^ 32 ∧ p.2 < 2 ^ 32) : readPr (hexP p) = some (canonP p) := by
  unfold readPr
  rw [if_pos (hexP_len p)]
  have e1 : (hexP p).take 8 = hexT p.1 := by unfold hexP; rw [List.take_append_of_le_length (by rw [hexT_len]; omega)]; exact List.take_of_length_le (by rw [hexT_len]; omega)
  have e2 : (hexP p).drop 8 = hexT p.2 := by unfold hexP; rw [List.drop_append_of_le_length (by rw [hexT_len]; omega), List.drop_of_length_le (by rw [hexT_len]; omega)]; rfl
  rw [e1, e2, readNum_hexT h.1, readNum_hexT h.2]
  rfl
theorem readPrs_texts : ∀ (l : List (Nat × Nat)), (∀ n ∈ l, n.1 < 2 ^ 32 ∧ n.2 < 2 ^ 32) → readPrs (cpxTexts l) = some (l.map canonP)
  | [], _ => rfl
  | b :: r, h => by
    show readPrs (hexP b :: cpxTexts r) = _
    unfold readPrs
    rw [readPr_hexP (h b (by simp)), readPrs_texts r (fun n hn => h n (List.mem_cons_of_mem _ hn))]
    rfl
theorem readCList_back (l : List (Nat × Nat)) (hl : l.length ≤ 256) (h : ∀ n ∈ l, n.1 < 2 ^ 32 ∧ n.2 < 2 ^ 32) : readCList (cpxTextOf l) = some (l.map canonP) := by
  cases l with
  | nil => rfl
  | cons b r =>
    have e : cpxTextOf (b :: r) = hexP b ++ Lib.joinTail [44] (cpxTexts r) := by
      unfold cpxTextOf
      rw [if_neg (by simp)]
      show Lib.join (hexP b :: cpxTexts r) [44] = _
      rw [Lib.join_cons]
    have hc : cuts (hexP b ++ Lib.joinTail [44] (cpxTexts r)) = cpxTexts (b :: r) := by
      refine cuts_join _ _ (hexP_comma b) ?_
      intro t ht
      unfold cpxTexts at ht
      obtain ⟨n, _, rfl⟩ := List.mem_map.1 ht
      exact hexP_comma n
    rw [e]
    unfold readCList
    rw [if_neg, hc, if_pos (by simpa [cpxTexts] using hl), readPrs_texts _ h]
    intro he
    have h2 := congrArg List.length he
    rw [List.length_append, hexP_len] at h2
    simp at h2
    omega
end Go.Proofs.YtcjkcoibeieeeaaGreatDoor
