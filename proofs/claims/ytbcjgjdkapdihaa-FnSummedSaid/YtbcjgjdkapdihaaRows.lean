/-
  No cell of these rows narrows 'for every input' (looked for: loops, veiled, ifaces, maps, wideKeys, modest, calm, conditions, laid).
  DERIVED. THE GIVEN ROWS OF THIS SEAT. 9 by the template 'for every input the law returns true; each argument reads behind the call as it read before'; 0 by the template 'total and deterministic' (their statements: YtbcjgjdkapdihaaTotals.lean).
  GIVEN WITH THE SEED: the statements are not yours to turn. If you find one false, say at which input.
  Laid BY PROGRAM, IN A SANDBOX (cutbox-rows.mjs): the forced cells as the released guide's own fill.sh prints them over the translation 43a90c2b444873e9… (all of the seat's roots in one cut). By AI agents, Wed Nov 11 2026. No macro, syntax, notation, axiom, sorry.
-/
import Derived.Test.YtbcjgjdkapdihaaChecked
import GoSem.Claim
import GoSem.ClaimJoined
import GoSem.ClaimMapViews
import Derived.JoinedTies
import Derived.KernelRfl
namespace Go.Proofs.Ytbcjgjdkapdihaa
/- THE CELL 'sum', in the pinned program and in every row, IS THE sha256 OF THE DUMP (.gsa) THAT YtbcjgjdkapdihaaProg.lean LOADS. Nothing in Lean hashes anything: it is a label: what it is worth is what the hold of that sum in a sandbox is worth. -/
noncomputable def Try.pinned : Pinned := { name := "ytbcjgjdkapdihaa", sum := "43a90c2b444873e97db96b3eef2fc65cf50a1d39e3ebe50b12ec2893b7125d22", checked := Try.checked }
namespace Rows
def none {H : Type} : Left H := { results := [], args := [] }

/-- 'laws.FnCircles': WHATEVER THE INPUT: true; the input reads as it did. -/
def fnCirclesSpec : ChangeSpec := { name := "fnCircles", fn := fun _ => fun
  | [d1, d2] => { results := [.lit (.bool true)], args := [d1, d2] }
  | _ => none }
def fnCirclesRow : OpenClaim := { program := "ytbcjgjdkapdihaa", sum := "43a90c2b444873e97db96b3eef2fc65cf50a1d39e3ebe50b12ec2893b7125d22", func := "loop.example/g01212/laws.FnCircles", spec := "fnCircles", inPlace := ["math.Float64bits", "math.Float64frombits", "math.sqrt", "math.archFloor", "math.archTrunc", "math.Float32bits"], apart := false }
def FnCirclesSaid : Prop := fnCirclesRow.holds Try.pinned (OpenSpec.ofChange fnCirclesSpec)

/-- ITS FALSE NEIGHBOUR: 'it returns false'. Refute it at one input. -/
def fnCirclesWrong : ChangeSpec := { name := "fnCircles", fn := fun _ => fun
  | [d1, d2] => { results := [.lit (.bool false)], args := [d1, d2] }
  | _ => none }
def FnCirclesWrongFalsely : Prop := fnCirclesRow.holds Try.pinned (OpenSpec.ofChange fnCirclesWrong)

/-- 'laws.FnAroundTaps': WHATEVER THE INPUT: true; the input reads as it did. -/
def fnAroundTapsSpec : ChangeSpec := { name := "fnAroundTaps", fn := fun _ => fun
  | [d1, d2] => { results := [.lit (.bool true)], args := [d1, d2] }
  | _ => none }
def fnAroundTapsRow : OpenClaim := { program := "ytbcjgjdkapdihaa", sum := "43a90c2b444873e97db96b3eef2fc65cf50a1d39e3ebe50b12ec2893b7125d22", func := "loop.example/g01212/laws.FnAroundTaps", spec := "fnAroundTaps", inPlace := ["math.Float32frombits", "math.Float64frombits", "math.Float32bits"], unfollowed := true, recurses := true, apart := false }
def FnAroundTapsSaid : Prop := fnAroundTapsRow.holds Try.pinned (OpenSpec.ofChange fnAroundTapsSpec)

/-- ITS FALSE NEIGHBOUR: 'it returns false'. Refute it at one input. -/
def fnAroundTapsWrong : ChangeSpec := { name := "fnAroundTaps", fn := fun _ => fun
  | [d1, d2] => { results := [.lit (.bool false)], args := [d1, d2] }
  | _ => none }
def FnAroundTapsWrongFalsely : Prop := fnAroundTapsRow.holds Try.pinned (OpenSpec.ofChange fnAroundTapsWrong)

/-- 'laws.FnSummed': WHATEVER THE INPUT: true; the input reads as it did. -/
def fnSummedSpec : ChangeSpec := { name := "fnSummed", fn := fun _ => fun
  | [d1, d2] => { results := [.lit (.bool true)], args := [d1, d2] }
  | _ => none }
def fnSummedRow : OpenClaim := { program := "ytbcjgjdkapdihaa", sum := "43a90c2b444873e97db96b3eef2fc65cf50a1d39e3ebe50b12ec2893b7125d22", func := "loop.example/g01212/laws.FnSummed", spec := "fnSummed", inPlace := ["math.Float32frombits", "math.Float64frombits"], unfollowed := true, recurses := true, apart := false }
def FnSummedSaid : Prop := fnSummedRow.holds Try.pinned (OpenSpec.ofChange fnSummedSpec)

/-- ITS FALSE NEIGHBOUR: 'it returns false'. Refute it at one input. -/
def fnSummedWrong : ChangeSpec := { name := "fnSummed", fn := fun _ => fun
  | [d1, d2] => { results := [.lit (.bool false)], args := [d1, d2] }
  | _ => none }
def FnSummedWrongFalsely : Prop := fnSummedRow.holds Try.pinned (OpenSpec.ofChange fnSummedWrong)

/-- 'laws.FnLowest': WHATEVER THE INPUT: true; the input reads as it did. -/
def fnLowestSpec : ChangeSpec := { name := "fnLowest", fn := fun _ => fun
  | [d1, d2] => { results := [.lit (.bool true)], args := [d1, d2] }
  | _ => none }
def fnLowestRow : OpenClaim := { program := "ytbcjgjdkapdihaa", sum := "43a90c2b444873e97db96b3eef2fc65cf50a1d39e3ebe50b12ec2893b7125d22", func := "loop.example/g01212/laws.FnLowest", spec := "fnLowest", inPlace := ["math.Float32frombits", "math.Float64frombits", "math.sqrt"], unfollowed := true, recurses := true, apart := false }
def FnLowestSaid : Prop := fnLowestRow.holds Try.pinned (OpenSpec.ofChange fnLowestSpec)

/-- ITS FALSE NEIGHBOUR: 'it returns false'. Refute it at one input. -/
def fnLowestWrong : ChangeSpec := { name := "fnLowest", fn := fun _ => fun
  | [d1, d2] => { results := [.lit (.bool false)], args := [d1, d2] }
  | _ => none }
def FnLowestWrongFalsely : Prop := fnLowestRow.holds Try.pinned (OpenSpec.ofChange fnLowestWrong)

/-- 'laws.FnAuto': WHATEVER THE INPUT: true; the input reads as it did. -/
def fnAutoSpec : ChangeSpec := { name := "fnAuto", fn := fun _ => fun
  | [d1, d2] => { results := [.lit (.bool true)], args := [d1, d2] }
  | _ => none }
def fnAutoRow : OpenClaim := { program := "ytbcjgjdkapdihaa", sum := "43a90c2b444873e97db96b3eef2fc65cf50a1d39e3ebe50b12ec2893b7125d22", func := "loop.example/g01212/laws.FnAuto", spec := "fnAuto", inPlace := ["math.Float32frombits", "math.Float64frombits", "math.Float64bits", "math.sqrt", "math.Float32bits"], unfollowed := true, recurses := true, apart := false }
def FnAutoSaid : Prop := fnAutoRow.holds Try.pinned (OpenSpec.ofChange fnAutoSpec)

/-- ITS FALSE NEIGHBOUR: 'it returns false'. Refute it at one input. -/
def fnAutoWrong : ChangeSpec := { name := "fnAuto", fn := fun _ => fun
  | [d1, d2] => { results := [.lit (.bool false)], args := [d1, d2] }
  | _ => none }
def FnAutoWrongFalsely : Prop := fnAutoRow.holds Try.pinned (OpenSpec.ofChange fnAutoWrong)

/-- 'laws.FnBanks': WHATEVER THE INPUT: true; the input reads as it did. -/
def fnBanksSpec : ChangeSpec := { name := "fnBanks", fn := fun _ => fun
  | [d1, d2] => { results := [.lit (.bool true)], args := [d1, d2] }
  | _ => none }
def fnBanksRow : OpenClaim := { program := "ytbcjgjdkapdihaa", sum := "43a90c2b444873e97db96b3eef2fc65cf50a1d39e3ebe50b12ec2893b7125d22", func := "loop.example/g01212/laws.FnBanks", spec := "fnBanks", inPlace := ["math.Float32frombits", "math.Float64frombits", "math.Float64bits", "math.sqrt"], unfollowed := true, recurses := true, apart := false }
def FnBanksSaid : Prop := fnBanksRow.holds Try.pinned (OpenSpec.ofChange fnBanksSpec)

/-- ITS FALSE NEIGHBOUR: 'it returns false'. Refute it at one input. -/
def fnBanksWrong : ChangeSpec := { name := "fnBanks", fn := fun _ => fun
  | [d1, d2] => { results := [.lit (.bool false)], args := [d1, d2] }
  | _ => none }
def FnBanksWrongFalsely : Prop := fnBanksRow.holds Try.pinned (OpenSpec.ofChange fnBanksWrong)

/-- 'laws.FnGrafted': WHATEVER THE INPUT: true; the input reads as it did. -/
def fnGraftedSpec : ChangeSpec := { name := "fnGrafted", fn := fun _ => fun
  | [d1, d2] => { results := [.lit (.bool true)], args := [d1, d2] }
  | _ => none }
def fnGraftedRow : OpenClaim := { program := "ytbcjgjdkapdihaa", sum := "43a90c2b444873e97db96b3eef2fc65cf50a1d39e3ebe50b12ec2893b7125d22", func := "loop.example/g01212/laws.FnGrafted", spec := "fnGrafted", inPlace := ["math.Float32frombits", "math.Float64frombits", "math.Float32bits"], unfollowed := true, recurses := true, apart := false }
def FnGraftedSaid : Prop := fnGraftedRow.holds Try.pinned (OpenSpec.ofChange fnGraftedSpec)

/-- ITS FALSE NEIGHBOUR: 'it returns false'. Refute it at one input. -/
def fnGraftedWrong : ChangeSpec := { name := "fnGrafted", fn := fun _ => fun
  | [d1, d2] => { results := [.lit (.bool false)], args := [d1, d2] }
  | _ => none }
def FnGraftedWrongFalsely : Prop := fnGraftedRow.holds Try.pinned (OpenSpec.ofChange fnGraftedWrong)

/-- 'laws.FnExactSameTaps': WHATEVER THE INPUT: true; the input reads as it did. -/
def fnExactSameTapsSpec : ChangeSpec := { name := "fnExactSameTaps", fn := fun _ => fun
  | [d1, d2] => { results := [.lit (.bool true)], args := [d1, d2] }
  | _ => none }
def fnExactSameTapsRow : OpenClaim := { program := "ytbcjgjdkapdihaa", sum := "43a90c2b444873e97db96b3eef2fc65cf50a1d39e3ebe50b12ec2893b7125d22", func := "loop.example/g01212/laws.FnExactSameTaps", spec := "fnExactSameTaps", inPlace := ["math.Float32bits"], unfollowed := true, recurses := true, apart := false }
def FnExactSameTapsSaid : Prop := fnExactSameTapsRow.holds Try.pinned (OpenSpec.ofChange fnExactSameTapsSpec)

/-- ITS FALSE NEIGHBOUR: 'it returns false'. Refute it at one input. -/
def fnExactSameTapsWrong : ChangeSpec := { name := "fnExactSameTaps", fn := fun _ => fun
  | [d1, d2] => { results := [.lit (.bool false)], args := [d1, d2] }
  | _ => none }
def FnExactSameTapsWrongFalsely : Prop := fnExactSameTapsRow.holds Try.pinned (OpenSpec.ofChange fnExactSameTapsWrong)

/-- 'laws.FnExactRatiosOf': WHATEVER THE INPUT: true; the input reads as it did. -/
def fnExactRatiosOfSpec : ChangeSpec := { name := "fnExactRatiosOf", fn := fun _ => fun
  | [d] => { results := [.lit (.bool true)], args := [d] }
  | _ => none }
def fnExactRatiosOfRow : OpenClaim := { program := "ytbcjgjdkapdihaa", sum := "43a90c2b444873e97db96b3eef2fc65cf50a1d39e3ebe50b12ec2893b7125d22", func := "loop.example/g01212/laws.FnExactRatiosOf", spec := "fnExactRatiosOf", apart := false }
def FnExactRatiosOfSaid : Prop := fnExactRatiosOfRow.holds Try.pinned (OpenSpec.ofChange fnExactRatiosOfSpec)

/-- ITS FALSE NEIGHBOUR: 'it returns false'. Refute it at one input. -/
def fnExactRatiosOfWrong : ChangeSpec := { name := "fnExactRatiosOf", fn := fun _ => fun
  | [d] => { results := [.lit (.bool false)], args := [d] }
  | _ => none }
def FnExactRatiosOfWrongFalsely : Prop := fnExactRatiosOfRow.holds Try.pinned (OpenSpec.ofChange fnExactRatiosOfWrong)

/- THE SECOND FORM. 'bulk': how many values and letters a reading holds, each counted each time it is reached (what is shared counts as often as it is met; a slice's spare places count too). A statement '..UptoSaid' is the law's where the arguments, and the package variables that the reading takes, are together of bulk at most 1048576: NARROWER than '..Said'. Prove '..Said' where nothing that the law and all that it calls make is longer than what came in: it says more and counts as full. Else prove '..UptoSaid'. A law counts once. -/
mutual
def uptoBulk {H : Type} : DataW H → Nat
  | .lit (.string bytes) => bytes.length + 1
  | .lit _ => 1
  | .nil => 1
  | .ptr d => uptoBulk d + 1
  | .slice elems spare => uptoBulkAll elems + uptoBulkAll spare + 1
  | .agg parts => uptoBulkAll parts + 1
  | .iface _ d => uptoBulk d + 1
  | .map entries => uptoBulkEntries entries + 1
  | .held _ => 1
def uptoBulkAll {H : Type} : List (DataW H) → Nat
  | [] => 0
  | d :: r => uptoBulk d + uptoBulkAll r
def uptoBulkEntries {H : Type} : List (Lit × DataW H) → Nat
  | [] => 0
  | x :: r => uptoBulkEntry x + uptoBulkEntries r
def uptoBulkEntry {H : Type} : Lit × DataW H → Nat
  | (.string bytes, d) => bytes.length + uptoBulk d + 1
  | (_, d) => uptoBulk d + 1
 end
def uptoSmall : (H : Type) → List (DataW H) → Bool := fun _ ds => decide (uptoBulkAll ds ≤ 1048576)
def OpenSpec.upto (s : _root_.Go.ChangeSpec) : _root_.Go.OpenSpec := { _root_.Go.OpenSpec.ofChange s with cond := some uptoSmall }

/-- 'laws.FnCircles', WHERE WHAT IT READS IS OF BULK AT MOST 1048576: true; the input reads as it did. -/
def fnCirclesUptoRow : OpenClaim := { program := "ytbcjgjdkapdihaa", sum := "43a90c2b444873e97db96b3eef2fc65cf50a1d39e3ebe50b12ec2893b7125d22", func := "loop.example/g01212/laws.FnCircles", spec := "fnCircles", inPlace := ["math.Float64bits", "math.Float64frombits", "math.sqrt", "math.archFloor", "math.archTrunc", "math.Float32bits"], apart := false, narrowed := true }
def FnCirclesUptoSaid : Prop := fnCirclesUptoRow.holds Try.pinned (OpenSpec.upto fnCirclesSpec)

/-- 'laws.FnAroundTaps', WHERE WHAT IT READS IS OF BULK AT MOST 1048576: true; the input reads as it did. -/
def fnAroundTapsUptoRow : OpenClaim := { program := "ytbcjgjdkapdihaa", sum := "43a90c2b444873e97db96b3eef2fc65cf50a1d39e3ebe50b12ec2893b7125d22", func := "loop.example/g01212/laws.FnAroundTaps", spec := "fnAroundTaps", inPlace := ["math.Float32frombits", "math.Float64frombits", "math.Float32bits"], unfollowed := true, recurses := true, apart := false, narrowed := true }
def FnAroundTapsUptoSaid : Prop := fnAroundTapsUptoRow.holds Try.pinned (OpenSpec.upto fnAroundTapsSpec)

/-- 'laws.FnSummed', WHERE WHAT IT READS IS OF BULK AT MOST 1048576: true; the input reads as it did. -/
def fnSummedUptoRow : OpenClaim := { program := "ytbcjgjdkapdihaa", sum := "43a90c2b444873e97db96b3eef2fc65cf50a1d39e3ebe50b12ec2893b7125d22", func := "loop.example/g01212/laws.FnSummed", spec := "fnSummed", inPlace := ["math.Float32frombits", "math.Float64frombits"], unfollowed := true, recurses := true, apart := false, narrowed := true }
def FnSummedUptoSaid : Prop := fnSummedUptoRow.holds Try.pinned (OpenSpec.upto fnSummedSpec)

/-- 'laws.FnLowest', WHERE WHAT IT READS IS OF BULK AT MOST 1048576: true; the input reads as it did. -/
def fnLowestUptoRow : OpenClaim := { program := "ytbcjgjdkapdihaa", sum := "43a90c2b444873e97db96b3eef2fc65cf50a1d39e3ebe50b12ec2893b7125d22", func := "loop.example/g01212/laws.FnLowest", spec := "fnLowest", inPlace := ["math.Float32frombits", "math.Float64frombits", "math.sqrt"], unfollowed := true, recurses := true, apart := false, narrowed := true }
def FnLowestUptoSaid : Prop := fnLowestUptoRow.holds Try.pinned (OpenSpec.upto fnLowestSpec)

/-- 'laws.FnAuto', WHERE WHAT IT READS IS OF BULK AT MOST 1048576: true; the input reads as it did. -/
def fnAutoUptoRow : OpenClaim := { program := "ytbcjgjdkapdihaa", sum := "43a90c2b444873e97db96b3eef2fc65cf50a1d39e3ebe50b12ec2893b7125d22", func := "loop.example/g01212/laws.FnAuto", spec := "fnAuto", inPlace := ["math.Float32frombits", "math.Float64frombits", "math.Float64bits", "math.sqrt", "math.Float32bits"], unfollowed := true, recurses := true, apart := false, narrowed := true }
def FnAutoUptoSaid : Prop := fnAutoUptoRow.holds Try.pinned (OpenSpec.upto fnAutoSpec)

/-- 'laws.FnBanks', WHERE WHAT IT READS IS OF BULK AT MOST 1048576: true; the input reads as it did. -/
def fnBanksUptoRow : OpenClaim := { program := "ytbcjgjdkapdihaa", sum := "43a90c2b444873e97db96b3eef2fc65cf50a1d39e3ebe50b12ec2893b7125d22", func := "loop.example/g01212/laws.FnBanks", spec := "fnBanks", inPlace := ["math.Float32frombits", "math.Float64frombits", "math.Float64bits", "math.sqrt"], unfollowed := true, recurses := true, apart := false, narrowed := true }
def FnBanksUptoSaid : Prop := fnBanksUptoRow.holds Try.pinned (OpenSpec.upto fnBanksSpec)

/-- 'laws.FnGrafted', WHERE WHAT IT READS IS OF BULK AT MOST 1048576: true; the input reads as it did. -/
def fnGraftedUptoRow : OpenClaim := { program := "ytbcjgjdkapdihaa", sum := "43a90c2b444873e97db96b3eef2fc65cf50a1d39e3ebe50b12ec2893b7125d22", func := "loop.example/g01212/laws.FnGrafted", spec := "fnGrafted", inPlace := ["math.Float32frombits", "math.Float64frombits", "math.Float32bits"], unfollowed := true, recurses := true, apart := false, narrowed := true }
def FnGraftedUptoSaid : Prop := fnGraftedUptoRow.holds Try.pinned (OpenSpec.upto fnGraftedSpec)

/-- 'laws.FnExactSameTaps', WHERE WHAT IT READS IS OF BULK AT MOST 1048576: true; the input reads as it did. -/
def fnExactSameTapsUptoRow : OpenClaim := { program := "ytbcjgjdkapdihaa", sum := "43a90c2b444873e97db96b3eef2fc65cf50a1d39e3ebe50b12ec2893b7125d22", func := "loop.example/g01212/laws.FnExactSameTaps", spec := "fnExactSameTaps", inPlace := ["math.Float32bits"], unfollowed := true, recurses := true, apart := false, narrowed := true }
def FnExactSameTapsUptoSaid : Prop := fnExactSameTapsUptoRow.holds Try.pinned (OpenSpec.upto fnExactSameTapsSpec)

/-- 'laws.FnExactRatiosOf', WHERE WHAT IT READS IS OF BULK AT MOST 1048576: true; the input reads as it did. -/
def fnExactRatiosOfUptoRow : OpenClaim := { program := "ytbcjgjdkapdihaa", sum := "43a90c2b444873e97db96b3eef2fc65cf50a1d39e3ebe50b12ec2893b7125d22", func := "loop.example/g01212/laws.FnExactRatiosOf", spec := "fnExactRatiosOf", apart := false, narrowed := true }
def FnExactRatiosOfUptoSaid : Prop := fnExactRatiosOfUptoRow.holds Try.pinned (OpenSpec.upto fnExactRatiosOfSpec)

end Rows
end Go.Proofs.Ytbcjgjdkapdihaa
