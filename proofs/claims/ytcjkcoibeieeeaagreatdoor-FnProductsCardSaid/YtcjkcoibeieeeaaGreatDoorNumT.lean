/-
  The text of a list of numbers, in the model and in the program. No theorem of a claim stands here.
-/
import Derived.Test.YtcjkcoibeieeeaaGreatDoorHexText
import Derived.Test.YtcjkcoibeieeeaaGreatDoorSum
import Derived.Lib.Join
set_option linter.unusedVariables false
namespace Go.Proofs.YtcjkcoibeieeeaaGreatDoor
open Go Go.RowKit Go.Deep Go.Proofs.YtcjkcoibeieeeaaGreatDoor.Fl

/-- The slice (a, len, cap) reads as the floats l in w. -/
def FRd (w : World) (a : Option Addr) (len cap : Nat) (l : List Nat) : Prop :=
  l.length = len ∧ len ≤ cap ∧ (∀ k, k < len → ∃ b o, a = some ⟨b, o, none⟩ ∧ w.cell? ⟨b, o + k, none⟩ = some (.float .f32 (l.getD k 0)) ∧ b < w.heap.size) ∧ ∀ n ∈ l, n < 2 ^ 32

theorem FRd.stays {w w' : World} {a : Option Addr} {len cap : Nat} {l : List Nat} {B : Nat} (h : FRd w a len cap l) (hb : Below B w w') (hB : w.heap.size ≤ B) : FRd w' a len cap l := by
  obtain ⟨h1, h2, h4, h5⟩ := h
  refine ⟨h1, h2, fun k hk => ?_, h5⟩
  obtain ⟨b, o, e, hc, hl⟩ := h4 k hk
  exact ⟨b, o, e, (hb.cell (show (⟨b, o + k, none⟩ : Addr).block < B from Nat.lt_of_lt_of_le hl hB)).trans hc, Nat.lt_of_lt_of_le hl hb.size⟩
theorem FRd.bound {w : World} {a : Option Addr} {len cap : Nat} {l : List Nat} (h : FRd w a len cap l) {k : Nat} (hk : k < len) : l.getD k 0 < 2 ^ 32 := by
  have hl : k < l.length := by rw [h.1]; exact hk
  have e : l.getD k 0 = l[k] := by simp [List.getD, hl]
  rw [e]; exact h.2.2.2 _ (List.getElem_mem hl)
theorem fRd_of {w : World} {a : Option Addr} {len cap : Nat} {zs : List Nat} (h : IsRowF .f32 w a len cap zs) : FRd w a len cap (zs.take len) := by
  refine ⟨row_len h, ?_, fun k hk => ?_, fun n hn => row_lt h n (List.mem_of_mem_take hn)⟩
  · rcases h with ⟨_, rfl, rfl, _⟩ | ⟨x, _, h2, _⟩
    · exact Nat.le_refl _
    · exact h2
  · obtain ⟨b, o, e, _, hc, hb⟩ := rowF_cell h hk
    exact ⟨b, o, e, hc, hb⟩
theorem isRowF_below {w w' : World} {a : Option Addr} {len cap : Nat} {zs : List Nat} {B : Nat} (h : IsRowF .f32 w a len cap zs) (hb : Below B w w') (hB : w.heap.size ≤ B) : IsRowF .f32 w' a len cap zs := by
  rcases h with h | ⟨x, h1, h2, h3, h4, h5, h6⟩
  · exact .inl h
  · refine .inr ⟨x, h1, h2, h3, h4, fun i hi => ?_, h6⟩
    have hc := h5 i hi
    have hl : (x.add i).block < w.heap.size := World.block_lt_of_cell? w _ hc
    exact (hb.cell (Nat.lt_of_lt_of_le hl hB)).trans hc

def numTexts (l : List Nat) : List (List UInt8) := l.map hexT
def numTextOf (l : List Nat) : List UInt8 := if l = [] then [110, 111, 110, 101] else Lib.join (numTexts l) [44]
def numOk (l : List Nat) : Bool := decide (l.length ≤ 256)
def numRes (l : List Nat) : ByteArray := if numOk l then ⟨(numTextOf l).toArray⟩ else ⟨#[]⟩

theorem ngetD {l : List Nat} {k : Nat} (h : k < l.length) : l.getD k 0 = l[k] := by simp [List.getD, h]
theorem njoin_snoc {l : List Nat} {k : Nat} (h0 : 0 < k) (h : k < l.length) : Lib.join (numTexts (l.take (k + 1))) [44] = Lib.join (numTexts (l.take k)) [44] ++ (44 :: hexT (l.getD k 0)) := by
  rw [ngetD h, List.take_succ_eq_append_getElem h]
  unfold numTexts
  rw [List.map_append]
  cases hk : l.take k with
  | nil => have h2 := congrArg List.length hk; rw [List.length_take, List.length_nil] at h2; omega
  | cons x r =>
    simp only [List.map_cons, List.map_nil, List.cons_append]
    rw [Lib.join_cons, Lib.join_cons]
    simp [Lib.joinTail]

theorem _root_.Go.World.ownsRow.below {w w' : World} {base g n c B : Nat} {e : TypeId} {xs : List Value} (h : w.ownsRow base e 1 (.slice (some ⟨g, 0, none⟩) n c) n xs) (hb : Below B w w') (hg : g < B) : w'.ownsRow base e 1 (.slice (some ⟨g, 0, none⟩) n c) n xs := by
  refine ⟨h.1, ?_⟩
  rcases h.2 with ⟨h, _⟩ | ⟨g', cap, cur, e1, h1, h2, h3⟩
  · cases h
  · have e2 : g' = g := by simp at e1; exact e1.1.symm
    exact .inr ⟨g', cap, cur, e1, h1, by rw [hb.block g' (by omega)]; exact h2, h3⟩
theorem infoS : (Tryz.prog.info? 9).map (fun i => (i.zero, i.size, i.bytes)) = some (some (.string ByteArray.empty), 1, 16) := by kernel_rfl
def nstrs (l : List Nat) : List Value := l.map fun n => .string ⟨(hexT n).toArray⟩
theorem nstrs_snoc {l : List Nat} {k : Nat} (h : k < l.length) : nstrs (l.take (k + 1)) = nstrs (l.take k) ++ [.string ⟨(hexT (l.getD k 0)).toArray⟩] := by
  rw [ngetD h, List.take_succ_eq_append_getElem h]; unfold nstrs; rw [List.map_append]; rfl
theorem form_own {w : World} {base n : Nat} {e : TypeId} {v : Value} {xs : List Value} (h : w.ownsRow base e 1 v (n + 1) xs) : ∃ g cap, v = .slice (some ⟨g, 0, none⟩) (n + 1) cap ∧ base ≤ g ∧ g < w.heap.size ∧ n + 1 ≤ cap := by
  rcases h.2 with ⟨_, h⟩ | ⟨g, cap, cur, h, hb, hg, hc, _⟩
  · omega
  · exact ⟨g, cap, h, hb, (Array.getElem?_eq_some_iff.1 hg).1, hc⟩
theorem str_one (b : ByteArray) : ∀ u ∈ [Value.string b], u.oneCell' = true := by
  intro u hu
  simp at hu
  subst hu
  rfl
def nstrList (l : List Nat) : List ByteArray := l.map fun n => ⟨(hexT n).toArray⟩
theorem nstrList_len (l : List Nat) : (nstrList l).length = l.length := by simp [nstrList]
theorem nstrList_map (l : List Nat) : (nstrList l).map (·.data.toList) = numTexts l := by
  unfold nstrList numTexts
  rw [List.map_map]
  rfl
theorem njoin_len (l : List Nat) : (Lib.join (numTexts l) [44]).length ≤ 9 * l.length := by
  have key : ∀ r : List Nat, (Lib.joinTail [44] (numTexts r)).length ≤ 9 * r.length := by
    intro r
    induction r with
    | nil => simp [Lib.joinTail, numTexts]
    | cons x r ih =>
      have h2 := hexT_len x
      unfold Lib.joinTail numTexts at ih ⊢
      simp only [List.map_cons, List.flatten_cons, List.length_append, List.length_cons, List.length_nil]
      omega
  cases l with
  | nil => simp [numTexts, Lib.join_nil]
  | cons x r =>
    have h1 := key r
    have h2 := hexT_len x
    show (Lib.join (hexT x :: numTexts r) [44]).length ≤ _
    rw [Lib.join_cons, List.length_append, List.length_cons]
    omega

set_option maxRecDepth 8000 in
set_option maxHeartbeats 2000000 in
theorem joinItemsF_any (w : World) (hT : Tz w) (a : Option Addr) (len cap : Nat) (l : List Nat) (ha : FRd w a len cap l) (hl : len ≤ 1048576) :
    Calls Tryz.prog 49 #[.slice a len cap, .int .i64 256, .func (.func 50) #[] #[]] w fun e w' => e = .returned (.tuple #[.string (numRes l), .bool (numOk l)]) ∧ Below w.heap.size w w' := by
  have hlen := ha.1
  by_cases hg : 256 < len
  · have d1 : decide (256 < (len : Int)) = true := by simp; omega
    have hk : numOk l = false := by unfold numOk; rw [hlen, decide_eq_false (by omega)]
    have Hf := Lib.hid (show numRes l = ⟨#[]⟩ ∧ numOk l = false from ⟨if_neg (by rw [hk]; simp), hk⟩)
    clear hk hlen
    go_enter Tryz.func49, Tryz.ntmps49
    go_wp2
    go_ret2
    exact ⟨by rw [Hf.out.1, Hf.out.2]; rfl, Below.refl _ _⟩
  by_cases h0 : len = 0
  · subst h0
    obtain rfl := List.length_eq_zero_iff.1 hlen
    clear hlen
    go_enter Tryz.func49, Tryz.ntmps49
    go_wp2
    go_ret2
    exact ⟨rfl, Below.refl _ _⟩
  obtain ⟨i0, hi, hz0, hz1, hz2⟩ := info_parts infoS
  have d1 : decide (256 < (len : Int)) = false := by simp; omega
  have hne : ((len : Int) == 0) = false := by rw [beq_eq_false_iff_ne]; omega
  have hmk := run_make (P := Tryz.prog) w 94 9 i0 (.string ByteArray.empty) Tryz.underlying94 hi hz0 .i64 .i64 0 len (Int.le_refl _) (by omega) (by rw [hz2]; omega) (by omega)
  have Ha := Lib.hid ha
  clear ha hlen
  go_enter Tryz.func49, Tryz.ntmps49
  go_wp2
  go_loopw [8, 25] (fun O i wr => ∃ k g c : Nat, k ≤ len ∧ i = .int .i64 k ∧ O = .slice (some ⟨g, 0, none⟩) k c ∧ w.heap.size ≤ g ∧ g < wr.heap.size ∧
    Hid (wr.ownsRow w.heap.size 9 1 (.slice (some ⟨g, 0, none⟩) k c) k (nstrs (l.take k))) ∧ Hid (Below w.heap.size w wr)) (fun _ i _ => len - (intOf i).toNat)
  case atStart =>
    refine ⟨0, w.heap.size, len, Nat.zero_le _, rfl, rfl, Nat.le_refl _, by simp, Lib.hid ?_, Lib.hid ((Below.refl _ _).alloc (Nat.le_refl _) _)⟩
    have := World.ownsRow_made (w := w) (base := w.heap.size) (e := 9) (size := 1) (madeCells (Value.string ByteArray.empty).cells ((len : Int).toNat * i0.size)) len (Nat.le_refl _) (by unfold maxLen; omega) (by simp [madeCells, Value.cells, hz1])
    have e : madeCells (Value.string ByteArray.empty).cells ((len : Int).toNat * i0.size) = madeCells #[Value.string ByteArray.empty] len := by rw [hz1, Nat.mul_one]; rfl
    rw [e] at this
    simpa [nstrs, hz1] using this
  case round =>
    obtain ⟨k, g, c, hk, rfl, rfl, hg0, hgs, Ho, Hw⟩ := hrel
    by_cases hlt : k < len
    · have hI := (Ha.out.stays Hw.out (Nat.le_refl _))
      obtain ⟨b, o, rfl, hc2, hbs2⟩ := hI.2.2.1 k hlt
      have hcap := hI.2.1
      have g0 := hI.bound (k := k) hlt
      have hkl : k < l.length := by rw [Ha.out.1]; exact hlt
      have Hs := Lib.hid (nstrs_snoc hkl)
      generalize l.getD k 0 = v at hc2 g0 Hs
      have hval := fun w' (hb : Below w.heap.size w w') => numberText_any v g0 w' (hT.stays hb (Nat.le_refl _))
      generalize hexT v = tv at hval Hs
      clear hI hkl g0
      go_wp2_with (first | (go_at_call 50; refine (hval _ Hw.out).mono ?_; rintro e W2 ⟨rfl, hb⟩; have Hb := Lib.hid (Hw.out.trans (hb.mono Hw.out.size)); have Ho2 := Lib.hid (Ho.out.below hb hgs); have hgs2 : g < W2.heap.size := Nat.lt_of_lt_of_le hgs hb.size; clear hb) | (at_builtin; refine wpList_append_own _ rfl (.tmp 37) (.tmp 39) 94 rfl w.heap.size 9 i0 (.string ByteArray.empty) 1 16 Tryz.underlying94 hi hz0 hz1 hz2 rfl (by decide) (.slice (some ⟨g, 0, none⟩) k c) k _ rfl (Ho2.out.alloc _) ⟨W2.heap.size, 0, none⟩ 1 1 [.string ⟨tv.toArray⟩] rfl (by simp) (cell_newrowB _ _ _) (str_one _) (by unfold maxLen; omega) (by omega) (by have := Hb.out.size; simp; omega) ?_; intro v' w3 hown' hgrow3 hnil3; obtain ⟨g', c', rfl, hg0', hgs', hc'⟩ := form_own hown'; have Hb3 := Lib.hid ((Hb.out.alloc Hb.out.size _).grown hgrow3 (by have := Hb.out.size; simp; omega) (by intro x hx; simp [Value.ownBlock] at hx; omega)); have Ho3 := Lib.hid hown'; clear hown' hgrow3 hnil3))
      go_roundw
      case rel => exact ⟨k + 1, g', c', by omega, by go_num, rfl, hg0', hgs', Lib.hid (by rw [Hs.out]; exact Ho3.out), Hb3⟩
      case measure => simp [intOf]; omega
    · obtain rfl : k = len := by omega
      have htake : l.take k = l := List.take_of_length_le (Nat.le_of_eq Ha.out.1)
      have hok : numOk l = true := by unfold numOk; rw [Ha.out.1, decide_eq_true (by omega)]
      have Hf := Lib.hid (show numRes l = ⟨(Lib.join (numTexts l) [44]).toArray⟩ ∧ numOk l = true by
        refine ⟨?_, hok⟩
        unfold numRes
        rw [if_pos hok]
        unfold numTextOf
        rw [if_neg (fun h => by have := Ha.out.1; rw [h] at this; simp at this; omega)])
      have hbs := nstrList_map l
      have hJ := Tryz.strings_Join g 0 c (nstrList l) ⟨#[44]⟩ wr (fun j x hx => by
        have h2 := Ho.out.cells (g := g) rfl j (.string x) (by
          rw [htake]
          unfold nstrList at hx
          rw [List.getElem?_map] at hx
          unfold nstrs
          rw [List.getElem?_map]
          cases hj : l[j]? with
          | none => rw [hj] at hx; simp at hx
          | some n => rw [hj] at hx; simp at hx; simp [hx])
        rw [add_none] at h2
        exact h2) hgs (by rw [nstrList_len, Ha.out.1]; omega) (by
          rw [nstrList_len, Ha.out.1]
          rcases Ho.out.2 with ⟨h, _⟩ | ⟨g', cap', cur, e1, _, _, h3, _⟩
          · cases h
          · simp at e1; omega) (by
        rw [hbs]
        exact Nat.le_trans (njoin_len l) (by rw [Ha.out.1]; omega))
      rw [hbs, nstrList_len, Ha.out.1] at hJ
      clear htake hok hbs
      go_wp2_with (go_at_call 80; refine hJ.mono ?_; rintro e W2 ⟨rfl, hb⟩; have Hb2 := Lib.hid (Hw.out.trans (hb.mono Hw.out.size)); clear hb)
      go_ret2
      exact ⟨by rw [Hf.out.1, Hf.out.2]; rfl, Hb2.out⟩

theorem implNums_any (w : World) (hT : Tz w) (a : Option Addr) (len cap : Nat) (l : List Nat) (ha : FRd w a len cap l) (hl : len ≤ 1048576) :
    Calls Tryz.prog 13 #[.slice a len cap] w fun e w' => e = .returned (.tuple #[.string (numRes l), .bool (numOk l)]) ∧ Below w.heap.size w w' := by
  go_enter Tryz.func13, Tryz.ntmps13
  go_wp2_with (go_at_call 49; refine (joinItemsF_any w hT a len cap l ha hl).mono ?_; rintro e W2 ⟨rfl, hb⟩; have Hb := Lib.hid hb; clear hb)
  go_ret2
  exact ⟨rfl, Hb.out⟩

end Go.Proofs.YtcjkcoibeieeeaaGreatDoor
