/-
  No cell of these rows narrows 'for every input' (looked for: loops, veiled, ifaces, maps, wideKeys, modest, calm, conditions, laid).
  DERIVED. THE GIVEN ROWS OF THIS SEAT. 11 by the template 'for every input the law returns true; each argument reads behind the call as it read before'; 0 by the template 'total and deterministic' (their statements: YthkjikennlaelaaTotals.lean).
  GIVEN WITH THE SEED: the statements are not yours to turn. If you find one false, say at which input.
  Laid BY PROGRAM, IN A SANDBOX (cutbox-rows.mjs): the forced cells as the released guide's own fill.sh prints them over the translation 4809ead22516f8f7… (all of the seat's roots in one cut). By AI agents, Wed Nov 11 2026. No macro, syntax, notation, axiom, sorry.
-/
import Derived.Test.YthkjikennlaelaaChecked
import GoSem.Claim
import GoSem.ClaimJoined
import GoSem.ClaimMapViews
import Derived.JoinedTies
import Derived.KernelRfl
namespace Go.Proofs.Ythkjikennlaelaa
/- THE CELL 'sum', in the pinned program and in every row, IS THE sha256 OF THE DUMP (.gsa) THAT YthkjikennlaelaaProg.lean LOADS. Nothing in Lean hashes anything: it is a label: what it is worth is what the hold of that sum in a sandbox is worth. -/
noncomputable def Try.pinned : Pinned := { name := "ythkjikennlaelaa", sum := "4809ead22516f8f74dfe4f93d7ffab23fe2d71854d8186f588a0bf57fc08b82d", checked := Try.checked }
namespace Rows
def none {H : Type} : Left H := { results := [], args := [] }

/-- 'laws.FnCurves': WHATEVER THE INPUT: true; the input reads as it did. -/
def fnCurvesSpec : ChangeSpec := { name := "fnCurves", fn := fun _ => fun
  | [d1, d2] => { results := [.lit (.bool true)], args := [d1, d2] }
  | _ => none }
def fnCurvesRow : OpenClaim := { program := "ythkjikennlaelaa", sum := "4809ead22516f8f74dfe4f93d7ffab23fe2d71854d8186f588a0bf57fc08b82d", func := "loop.example/g01212/laws.FnCurves", spec := "fnCurves", inPlace := ["math.Float64bits", "math.Float64frombits", "math.Float32bits"], unfollowed := true, recurses := true, apart := false }
def FnCurvesSaid : Prop := fnCurvesRow.holds Try.pinned (OpenSpec.ofChange fnCurvesSpec)

/-- ITS FALSE NEIGHBOUR: 'it returns false'. Refute it at one input. -/
def fnCurvesWrong : ChangeSpec := { name := "fnCurves", fn := fun _ => fun
  | [d1, d2] => { results := [.lit (.bool false)], args := [d1, d2] }
  | _ => none }
def FnCurvesWrongFalsely : Prop := fnCurvesRow.holds Try.pinned (OpenSpec.ofChange fnCurvesWrong)

/-- 'laws.FnFuses': WHATEVER THE INPUT: true; the input reads as it did. -/
def fnFusesSpec : ChangeSpec := { name := "fnFuses", fn := fun _ => fun
  | [d1, d2] => { results := [.lit (.bool true)], args := [d1, d2] }
  | _ => none }
def fnFusesRow : OpenClaim := { program := "ythkjikennlaelaa", sum := "4809ead22516f8f74dfe4f93d7ffab23fe2d71854d8186f588a0bf57fc08b82d", func := "loop.example/g01212/laws.FnFuses", spec := "fnFuses", inPlace := ["math.Float64bits", "math.Float64frombits"], apart := false }
def FnFusesSaid : Prop := fnFusesRow.holds Try.pinned (OpenSpec.ofChange fnFusesSpec)

/-- ITS FALSE NEIGHBOUR: 'it returns false'. Refute it at one input. -/
def fnFusesWrong : ChangeSpec := { name := "fnFuses", fn := fun _ => fun
  | [d1, d2] => { results := [.lit (.bool false)], args := [d1, d2] }
  | _ => none }
def FnFusesWrongFalsely : Prop := fnFusesRow.holds Try.pinned (OpenSpec.ofChange fnFusesWrong)

/-- 'laws.FnExactValidCurve': WHATEVER THE INPUT: true; the input reads as it did. -/
def fnExactValidCurveSpec : ChangeSpec := { name := "fnExactValidCurve", fn := fun _ => fun
  | [d] => { results := [.lit (.bool true)], args := [d] }
  | _ => none }
def fnExactValidCurveRow : OpenClaim := { program := "ythkjikennlaelaa", sum := "4809ead22516f8f74dfe4f93d7ffab23fe2d71854d8186f588a0bf57fc08b82d", func := "loop.example/g01212/laws.FnExactValidCurve", spec := "fnExactValidCurve", inPlace := ["math.Float64bits", "math.Float64frombits"], apart := false }
def FnExactValidCurveSaid : Prop := fnExactValidCurveRow.holds Try.pinned (OpenSpec.ofChange fnExactValidCurveSpec)

/-- ITS FALSE NEIGHBOUR: 'it returns false'. Refute it at one input. -/
def fnExactValidCurveWrong : ChangeSpec := { name := "fnExactValidCurve", fn := fun _ => fun
  | [d] => { results := [.lit (.bool false)], args := [d] }
  | _ => none }
def FnExactValidCurveWrongFalsely : Prop := fnExactValidCurveRow.holds Try.pinned (OpenSpec.ofChange fnExactValidCurveWrong)

/-- 'laws.FnExactSameCurve': WHATEVER THE INPUT: true; the input reads as it did. -/
def fnExactSameCurveSpec : ChangeSpec := { name := "fnExactSameCurve", fn := fun _ => fun
  | [d1, d2] => { results := [.lit (.bool true)], args := [d1, d2] }
  | _ => none }
def fnExactSameCurveRow : OpenClaim := { program := "ythkjikennlaelaa", sum := "4809ead22516f8f74dfe4f93d7ffab23fe2d71854d8186f588a0bf57fc08b82d", func := "loop.example/g01212/laws.FnExactSameCurve", spec := "fnExactSameCurve", inPlace := ["math.Float32bits"], unfollowed := true, recurses := true, apart := false }
def FnExactSameCurveSaid : Prop := fnExactSameCurveRow.holds Try.pinned (OpenSpec.ofChange fnExactSameCurveSpec)

/-- ITS FALSE NEIGHBOUR: 'it returns false'. Refute it at one input. -/
def fnExactSameCurveWrong : ChangeSpec := { name := "fnExactSameCurve", fn := fun _ => fun
  | [d1, d2] => { results := [.lit (.bool false)], args := [d1, d2] }
  | _ => none }
def FnExactSameCurveWrongFalsely : Prop := fnExactSameCurveRow.holds Try.pinned (OpenSpec.ofChange fnExactSameCurveWrong)

/-- 'laws.FnExactTimeAt': WHATEVER THE INPUT: true; the input reads as it did. -/
def fnExactTimeAtSpec : ChangeSpec := { name := "fnExactTimeAt", fn := fun _ => fun
  | [d1, d2] => { results := [.lit (.bool true)], args := [d1, d2] }
  | _ => none }
def fnExactTimeAtRow : OpenClaim := { program := "ythkjikennlaelaa", sum := "4809ead22516f8f74dfe4f93d7ffab23fe2d71854d8186f588a0bf57fc08b82d", func := "loop.example/g01212/laws.FnExactTimeAt", spec := "fnExactTimeAt", inPlace := ["math.Float64bits", "math.Float64frombits"], unfollowed := true, recurses := true, apart := false }
def FnExactTimeAtSaid : Prop := fnExactTimeAtRow.holds Try.pinned (OpenSpec.ofChange fnExactTimeAtSpec)

/-- ITS FALSE NEIGHBOUR: 'it returns false'. Refute it at one input. -/
def fnExactTimeAtWrong : ChangeSpec := { name := "fnExactTimeAt", fn := fun _ => fun
  | [d1, d2] => { results := [.lit (.bool false)], args := [d1, d2] }
  | _ => none }
def FnExactTimeAtWrongFalsely : Prop := fnExactTimeAtRow.holds Try.pinned (OpenSpec.ofChange fnExactTimeAtWrong)

/-- 'laws.FnExactScaleCurve': WHATEVER THE INPUT: true; the input reads as it did. -/
def fnExactScaleCurveSpec : ChangeSpec := { name := "fnExactScaleCurve", fn := fun _ => fun
  | [d1, d2, d3] => { results := [.lit (.bool true)], args := [d1, d2, d3] }
  | _ => none }
def fnExactScaleCurveRow : OpenClaim := { program := "ythkjikennlaelaa", sum := "4809ead22516f8f74dfe4f93d7ffab23fe2d71854d8186f588a0bf57fc08b82d", func := "loop.example/g01212/laws.FnExactScaleCurve", spec := "fnExactScaleCurve", inPlace := ["math.Float64bits", "math.Float64frombits"], apart := false }
def FnExactScaleCurveSaid : Prop := fnExactScaleCurveRow.holds Try.pinned (OpenSpec.ofChange fnExactScaleCurveSpec)

/-- ITS FALSE NEIGHBOUR: 'it returns false'. Refute it at one input. -/
def fnExactScaleCurveWrong : ChangeSpec := { name := "fnExactScaleCurve", fn := fun _ => fun
  | [d1, d2, d3] => { results := [.lit (.bool false)], args := [d1, d2, d3] }
  | _ => none }
def FnExactScaleCurveWrongFalsely : Prop := fnExactScaleCurveRow.holds Try.pinned (OpenSpec.ofChange fnExactScaleCurveWrong)

/-- 'laws.FnExactMarginAt': WHATEVER THE INPUT: true; the input reads as it did. -/
def fnExactMarginAtSpec : ChangeSpec := { name := "fnExactMarginAt", fn := fun _ => fun
  | [d1, d2, d3] => { results := [.lit (.bool true)], args := [d1, d2, d3] }
  | _ => none }
def fnExactMarginAtRow : OpenClaim := { program := "ythkjikennlaelaa", sum := "4809ead22516f8f74dfe4f93d7ffab23fe2d71854d8186f588a0bf57fc08b82d", func := "loop.example/g01212/laws.FnExactMarginAt", spec := "fnExactMarginAt", inPlace := ["math.Float64bits", "math.Float64frombits"], unfollowed := true, recurses := true, apart := false }
def FnExactMarginAtSaid : Prop := fnExactMarginAtRow.holds Try.pinned (OpenSpec.ofChange fnExactMarginAtSpec)

/-- ITS FALSE NEIGHBOUR: 'it returns false'. Refute it at one input. -/
def fnExactMarginAtWrong : ChangeSpec := { name := "fnExactMarginAt", fn := fun _ => fun
  | [d1, d2, d3] => { results := [.lit (.bool false)], args := [d1, d2, d3] }
  | _ => none }
def FnExactMarginAtWrongFalsely : Prop := fnExactMarginAtRow.holds Try.pinned (OpenSpec.ofChange fnExactMarginAtWrong)

/-- 'laws.FnExactGradeOf': WHATEVER THE INPUT: true; the input reads as it did. -/
def fnExactGradeOfSpec : ChangeSpec := { name := "fnExactGradeOf", fn := fun _ => fun
  | [d1, d2, d3, d4, d5] => { results := [.lit (.bool true)], args := [d1, d2, d3, d4, d5] }
  | _ => none }
def fnExactGradeOfRow : OpenClaim := { program := "ythkjikennlaelaa", sum := "4809ead22516f8f74dfe4f93d7ffab23fe2d71854d8186f588a0bf57fc08b82d", func := "loop.example/g01212/laws.FnExactGradeOf", spec := "fnExactGradeOf", inPlace := ["math.Float64bits", "math.Float64frombits"], unfollowed := true, recurses := true, apart := false }
def FnExactGradeOfSaid : Prop := fnExactGradeOfRow.holds Try.pinned (OpenSpec.ofChange fnExactGradeOfSpec)

/-- ITS FALSE NEIGHBOUR: 'it returns false'. Refute it at one input. -/
def fnExactGradeOfWrong : ChangeSpec := { name := "fnExactGradeOf", fn := fun _ => fun
  | [d1, d2, d3, d4, d5] => { results := [.lit (.bool false)], args := [d1, d2, d3, d4, d5] }
  | _ => none }
def FnExactGradeOfWrongFalsely : Prop := fnExactGradeOfRow.holds Try.pinned (OpenSpec.ofChange fnExactGradeOfWrong)

/-- 'laws.FnExactValidFuse': WHATEVER THE INPUT: true; the input reads as it did. -/
def fnExactValidFuseSpec : ChangeSpec := { name := "fnExactValidFuse", fn := fun _ => fun
  | [d] => { results := [.lit (.bool true)], args := [d] }
  | _ => none }
def fnExactValidFuseRow : OpenClaim := { program := "ythkjikennlaelaa", sum := "4809ead22516f8f74dfe4f93d7ffab23fe2d71854d8186f588a0bf57fc08b82d", func := "loop.example/g01212/laws.FnExactValidFuse", spec := "fnExactValidFuse", inPlace := ["math.Float64bits", "math.Float64frombits"], apart := false }
def FnExactValidFuseSaid : Prop := fnExactValidFuseRow.holds Try.pinned (OpenSpec.ofChange fnExactValidFuseSpec)

/-- ITS FALSE NEIGHBOUR: 'it returns false'. Refute it at one input. -/
def fnExactValidFuseWrong : ChangeSpec := { name := "fnExactValidFuse", fn := fun _ => fun
  | [d] => { results := [.lit (.bool false)], args := [d] }
  | _ => none }
def FnExactValidFuseWrongFalsely : Prop := fnExactValidFuseRow.holds Try.pinned (OpenSpec.ofChange fnExactValidFuseWrong)

/-- 'laws.FnExactHeatFuse': WHATEVER THE INPUT: true; the input reads as it did. -/
def fnExactHeatFuseSpec : ChangeSpec := { name := "fnExactHeatFuse", fn := fun _ => fun
  | [d1, d2, d3] => { results := [.lit (.bool true)], args := [d1, d2, d3] }
  | _ => none }
def fnExactHeatFuseRow : OpenClaim := { program := "ythkjikennlaelaa", sum := "4809ead22516f8f74dfe4f93d7ffab23fe2d71854d8186f588a0bf57fc08b82d", func := "loop.example/g01212/laws.FnExactHeatFuse", spec := "fnExactHeatFuse", inPlace := ["math.Float64bits", "math.Float64frombits"], apart := false }
def FnExactHeatFuseSaid : Prop := fnExactHeatFuseRow.holds Try.pinned (OpenSpec.ofChange fnExactHeatFuseSpec)

/-- ITS FALSE NEIGHBOUR: 'it returns false'. Refute it at one input. -/
def fnExactHeatFuseWrong : ChangeSpec := { name := "fnExactHeatFuse", fn := fun _ => fun
  | [d1, d2, d3] => { results := [.lit (.bool false)], args := [d1, d2, d3] }
  | _ => none }
def FnExactHeatFuseWrongFalsely : Prop := fnExactHeatFuseRow.holds Try.pinned (OpenSpec.ofChange fnExactHeatFuseWrong)

/-- 'laws.FnExactRunFuse': WHATEVER THE INPUT: true; the input reads as it did. -/
def fnExactRunFuseSpec : ChangeSpec := { name := "fnExactRunFuse", fn := fun _ => fun
  | [d1, d2, d3] => { results := [.lit (.bool true)], args := [d1, d2, d3] }
  | _ => none }
def fnExactRunFuseRow : OpenClaim := { program := "ythkjikennlaelaa", sum := "4809ead22516f8f74dfe4f93d7ffab23fe2d71854d8186f588a0bf57fc08b82d", func := "loop.example/g01212/laws.FnExactRunFuse", spec := "fnExactRunFuse", inPlace := ["math.Float64bits", "math.Float64frombits"], apart := false }
def FnExactRunFuseSaid : Prop := fnExactRunFuseRow.holds Try.pinned (OpenSpec.ofChange fnExactRunFuseSpec)

/-- ITS FALSE NEIGHBOUR: 'it returns false'. Refute it at one input. -/
def fnExactRunFuseWrong : ChangeSpec := { name := "fnExactRunFuse", fn := fun _ => fun
  | [d1, d2, d3] => { results := [.lit (.bool false)], args := [d1, d2, d3] }
  | _ => none }
def FnExactRunFuseWrongFalsely : Prop := fnExactRunFuseRow.holds Try.pinned (OpenSpec.ofChange fnExactRunFuseWrong)

/- THE SECOND FORM. 'bulk': how many values and letters a reading holds, each counted each time it is reached (what is shared counts as often as it is met; a slice's spare places count too). A statement '..UptoSaid' is the law's where the arguments, and the package variables that the reading takes, are together of bulk at most 1048576: NARROWER than '..Said'. Prove '..Said' where nothing that the law and all that it calls make is longer than what came in: it says more and counts as full. Else prove '..UptoSaid'. A law counts once. -/
mutual
def uptoBulk {H : Type} : DataW H → Nat
  | .lit (.string bytes) => bytes.length + 1
  | .lit _ => 1
  | .nil => 1
  | .ptr d => uptoBulk d + 1
  | .slice elems spare => uptoBulkAll elems + uptoBulkAll spare + 1
  | .agg parts => uptoBulkAll parts + 1
  | .iface _ d => uptoBulk d + 1
  | .map entries => uptoBulkEntries entries + 1
  | .held _ => 1
def uptoBulkAll {H : Type} : List (DataW H) → Nat
  | [] => 0
  | d :: r => uptoBulk d + uptoBulkAll r
def uptoBulkEntries {H : Type} : List (Lit × DataW H) → Nat
  | [] => 0
  | x :: r => uptoBulkEntry x + uptoBulkEntries r
def uptoBulkEntry {H : Type} : Lit × DataW H → Nat
  | (.string bytes, d) => bytes.length + uptoBulk d + 1
  | (_, d) => uptoBulk d + 1
 end
def uptoSmall : (H : Type) → List (DataW H) → Bool := fun _ ds => decide (uptoBulkAll ds ≤ 1048576)
def OpenSpec.upto (s : _root_.Go.ChangeSpec) : _root_.Go.OpenSpec := { _root_.Go.OpenSpec.ofChange s with cond := some uptoSmall }

/-- 'laws.FnCurves', WHERE WHAT IT READS IS OF BULK AT MOST 1048576: true; the input reads as it did. -/
def fnCurvesUptoRow : OpenClaim := { program := "ythkjikennlaelaa", sum := "4809ead22516f8f74dfe4f93d7ffab23fe2d71854d8186f588a0bf57fc08b82d", func := "loop.example/g01212/laws.FnCurves", spec := "fnCurves", inPlace := ["math.Float64bits", "math.Float64frombits", "math.Float32bits"], unfollowed := true, recurses := true, apart := false, narrowed := true }
def FnCurvesUptoSaid : Prop := fnCurvesUptoRow.holds Try.pinned (OpenSpec.upto fnCurvesSpec)

/-- 'laws.FnFuses', WHERE WHAT IT READS IS OF BULK AT MOST 1048576: true; the input reads as it did. -/
def fnFusesUptoRow : OpenClaim := { program := "ythkjikennlaelaa", sum := "4809ead22516f8f74dfe4f93d7ffab23fe2d71854d8186f588a0bf57fc08b82d", func := "loop.example/g01212/laws.FnFuses", spec := "fnFuses", inPlace := ["math.Float64bits", "math.Float64frombits"], apart := false, narrowed := true }
def FnFusesUptoSaid : Prop := fnFusesUptoRow.holds Try.pinned (OpenSpec.upto fnFusesSpec)

/-- 'laws.FnExactValidCurve', WHERE WHAT IT READS IS OF BULK AT MOST 1048576: true; the input reads as it did. -/
def fnExactValidCurveUptoRow : OpenClaim := { program := "ythkjikennlaelaa", sum := "4809ead22516f8f74dfe4f93d7ffab23fe2d71854d8186f588a0bf57fc08b82d", func := "loop.example/g01212/laws.FnExactValidCurve", spec := "fnExactValidCurve", inPlace := ["math.Float64bits", "math.Float64frombits"], apart := false, narrowed := true }
def FnExactValidCurveUptoSaid : Prop := fnExactValidCurveUptoRow.holds Try.pinned (OpenSpec.upto fnExactValidCurveSpec)

/-- 'laws.FnExactSameCurve', WHERE WHAT IT READS IS OF BULK AT MOST 1048576: true; the input reads as it did. -/
def fnExactSameCurveUptoRow : OpenClaim := { program := "ythkjikennlaelaa", sum := "4809ead22516f8f74dfe4f93d7ffab23fe2d71854d8186f588a0bf57fc08b82d", func := "loop.example/g01212/laws.FnExactSameCurve", spec := "fnExactSameCurve", inPlace := ["math.Float32bits"], unfollowed := true, recurses := true, apart := false, narrowed := true }
def FnExactSameCurveUptoSaid : Prop := fnExactSameCurveUptoRow.holds Try.pinned (OpenSpec.upto fnExactSameCurveSpec)

/-- 'laws.FnExactTimeAt', WHERE WHAT IT READS IS OF BULK AT MOST 1048576: true; the input reads as it did. -/
def fnExactTimeAtUptoRow : OpenClaim := { program := "ythkjikennlaelaa", sum := "4809ead22516f8f74dfe4f93d7ffab23fe2d71854d8186f588a0bf57fc08b82d", func := "loop.example/g01212/laws.FnExactTimeAt", spec := "fnExactTimeAt", inPlace := ["math.Float64bits", "math.Float64frombits"], unfollowed := true, recurses := true, apart := false, narrowed := true }
def FnExactTimeAtUptoSaid : Prop := fnExactTimeAtUptoRow.holds Try.pinned (OpenSpec.upto fnExactTimeAtSpec)

/-- 'laws.FnExactScaleCurve', WHERE WHAT IT READS IS OF BULK AT MOST 1048576: true; the input reads as it did. -/
def fnExactScaleCurveUptoRow : OpenClaim := { program := "ythkjikennlaelaa", sum := "4809ead22516f8f74dfe4f93d7ffab23fe2d71854d8186f588a0bf57fc08b82d", func := "loop.example/g01212/laws.FnExactScaleCurve", spec := "fnExactScaleCurve", inPlace := ["math.Float64bits", "math.Float64frombits"], apart := false, narrowed := true }
def FnExactScaleCurveUptoSaid : Prop := fnExactScaleCurveUptoRow.holds Try.pinned (OpenSpec.upto fnExactScaleCurveSpec)

/-- 'laws.FnExactMarginAt', WHERE WHAT IT READS IS OF BULK AT MOST 1048576: true; the input reads as it did. -/
def fnExactMarginAtUptoRow : OpenClaim := { program := "ythkjikennlaelaa", sum := "4809ead22516f8f74dfe4f93d7ffab23fe2d71854d8186f588a0bf57fc08b82d", func := "loop.example/g01212/laws.FnExactMarginAt", spec := "fnExactMarginAt", inPlace := ["math.Float64bits", "math.Float64frombits"], unfollowed := true, recurses := true, apart := false, narrowed := true }
def FnExactMarginAtUptoSaid : Prop := fnExactMarginAtUptoRow.holds Try.pinned (OpenSpec.upto fnExactMarginAtSpec)

/-- 'laws.FnExactGradeOf', WHERE WHAT IT READS IS OF BULK AT MOST 1048576: true; the input reads as it did. -/
def fnExactGradeOfUptoRow : OpenClaim := { program := "ythkjikennlaelaa", sum := "4809ead22516f8f74dfe4f93d7ffab23fe2d71854d8186f588a0bf57fc08b82d", func := "loop.example/g01212/laws.FnExactGradeOf", spec := "fnExactGradeOf", inPlace := ["math.Float64bits", "math.Float64frombits"], unfollowed := true, recurses := true, apart := false, narrowed := true }
def FnExactGradeOfUptoSaid : Prop := fnExactGradeOfUptoRow.holds Try.pinned (OpenSpec.upto fnExactGradeOfSpec)

/-- 'laws.FnExactValidFuse', WHERE WHAT IT READS IS OF BULK AT MOST 1048576: true; the input reads as it did. -/
def fnExactValidFuseUptoRow : OpenClaim := { program := "ythkjikennlaelaa", sum := "4809ead22516f8f74dfe4f93d7ffab23fe2d71854d8186f588a0bf57fc08b82d", func := "loop.example/g01212/laws.FnExactValidFuse", spec := "fnExactValidFuse", inPlace := ["math.Float64bits", "math.Float64frombits"], apart := false, narrowed := true }
def FnExactValidFuseUptoSaid : Prop := fnExactValidFuseUptoRow.holds Try.pinned (OpenSpec.upto fnExactValidFuseSpec)

/-- 'laws.FnExactHeatFuse', WHERE WHAT IT READS IS OF BULK AT MOST 1048576: true; the input reads as it did. -/
def fnExactHeatFuseUptoRow : OpenClaim := { program := "ythkjikennlaelaa", sum := "4809ead22516f8f74dfe4f93d7ffab23fe2d71854d8186f588a0bf57fc08b82d", func := "loop.example/g01212/laws.FnExactHeatFuse", spec := "fnExactHeatFuse", inPlace := ["math.Float64bits", "math.Float64frombits"], apart := false, narrowed := true }
def FnExactHeatFuseUptoSaid : Prop := fnExactHeatFuseUptoRow.holds Try.pinned (OpenSpec.upto fnExactHeatFuseSpec)

/-- 'laws.FnExactRunFuse', WHERE WHAT IT READS IS OF BULK AT MOST 1048576: true; the input reads as it did. -/
def fnExactRunFuseUptoRow : OpenClaim := { program := "ythkjikennlaelaa", sum := "4809ead22516f8f74dfe4f93d7ffab23fe2d71854d8186f588a0bf57fc08b82d", func := "loop.example/g01212/laws.FnExactRunFuse", spec := "fnExactRunFuse", inPlace := ["math.Float64bits", "math.Float64frombits"], apart := false, narrowed := true }
def FnExactRunFuseUptoSaid : Prop := fnExactRunFuseUptoRow.holds Try.pinned (OpenSpec.upto fnExactRunFuseSpec)

end Rows
end Go.Proofs.Ythkjikennlaelaa
