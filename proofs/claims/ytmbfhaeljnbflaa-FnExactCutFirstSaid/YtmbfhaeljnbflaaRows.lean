/-
  No cell of these rows narrows 'for every input' (looked for: loops, veiled, ifaces, maps, wideKeys, modest, calm, conditions, laid).
  DERIVED. THE GIVEN ROWS OF THIS SEAT. 11 by the template 'for every input the law returns true; each argument reads behind the call as it read before'; 0 by the template 'total and deterministic' (their statements: YtmbfhaeljnbflaaTotals.lean).
  GIVEN WITH THE SEED: the statements are not yours to turn. If you find one false, say at which input.
  Laid BY PROGRAM, IN A SANDBOX (cutbox-rows.mjs): the forced cells as the released guide's own fill.sh prints them over the translation a34a59af245a9720… (all of the seat's roots in one cut). By AI agents, Wed Nov 11 2026. No macro, syntax, notation, axiom, sorry.
-/
import Derived.Test.YtmbfhaeljnbflaaChecked
import GoSem.Claim
import GoSem.ClaimJoined
import GoSem.ClaimMapViews
import Derived.JoinedTies
import Derived.KernelRfl
namespace Go.Proofs.Ytmbfhaeljnbflaa
/- THE CELL 'sum', in the pinned program and in every row, IS THE sha256 OF THE DUMP (.gsa) THAT YtmbfhaeljnbflaaProg.lean LOADS. Nothing in Lean hashes anything: it is a label: what it is worth is what the hold of that sum in a sandbox is worth. -/
noncomputable def Try.pinned : Pinned := { name := "ytmbfhaeljnbflaa", sum := "a34a59af245a9720379578708141ecad10a4a1fc3e0212b787de38bf5b6a67d8", checked := Try.checked }
namespace Rows
def none {H : Type} : Left H := { results := [], args := [] }

/-- 'laws.FnExactWallCross': WHATEVER THE INPUT: true; the input reads as it did. -/
def fnExactWallCrossSpec : ChangeSpec := { name := "fnExactWallCross", fn := fun _ => fun
  | [d] => { results := [.lit (.bool true)], args := [d] }
  | _ => none }
def fnExactWallCrossRow : OpenClaim := { program := "ytmbfhaeljnbflaa", sum := "a34a59af245a9720379578708141ecad10a4a1fc3e0212b787de38bf5b6a67d8", func := "loop.example/floorrooms/laws.FnExactWallCross", spec := "fnExactWallCross", unfollowed := true, recurses := true, plainKeys := false, apart := false }
def FnExactWallCrossSaid : Prop := fnExactWallCrossRow.holds Try.pinned (OpenSpec.ofChange fnExactWallCrossSpec)

/-- ITS FALSE NEIGHBOUR: 'it returns false'. Refute it at one input. -/
def fnExactWallCrossWrong : ChangeSpec := { name := "fnExactWallCross", fn := fun _ => fun
  | [d] => { results := [.lit (.bool false)], args := [d] }
  | _ => none }
def FnExactWallCrossWrongFalsely : Prop := fnExactWallCrossRow.holds Try.pinned (OpenSpec.ofChange fnExactWallCrossWrong)

/-- 'laws.FnExactWallPlain': WHATEVER THE INPUT: true; the input reads as it did. -/
def fnExactWallPlainSpec : ChangeSpec := { name := "fnExactWallPlain", fn := fun _ => fun
  | [d] => { results := [.lit (.bool true)], args := [d] }
  | _ => none }
def fnExactWallPlainRow : OpenClaim := { program := "ytmbfhaeljnbflaa", sum := "a34a59af245a9720379578708141ecad10a4a1fc3e0212b787de38bf5b6a67d8", func := "loop.example/floorrooms/laws.FnExactWallPlain", spec := "fnExactWallPlain", unfollowed := true, recurses := true, plainKeys := false, apart := false }
def FnExactWallPlainSaid : Prop := fnExactWallPlainRow.holds Try.pinned (OpenSpec.ofChange fnExactWallPlainSpec)

/-- ITS FALSE NEIGHBOUR: 'it returns false'. Refute it at one input. -/
def fnExactWallPlainWrong : ChangeSpec := { name := "fnExactWallPlain", fn := fun _ => fun
  | [d] => { results := [.lit (.bool false)], args := [d] }
  | _ => none }
def FnExactWallPlainWrongFalsely : Prop := fnExactWallPlainRow.holds Try.pinned (OpenSpec.ofChange fnExactWallPlainWrong)

/-- 'laws.FnExactWallTees': WHATEVER THE INPUT: true; the input reads as it did. -/
def fnExactWallTeesSpec : ChangeSpec := { name := "fnExactWallTees", fn := fun _ => fun
  | [d] => { results := [.lit (.bool true)], args := [d] }
  | _ => none }
def fnExactWallTeesRow : OpenClaim := { program := "ytmbfhaeljnbflaa", sum := "a34a59af245a9720379578708141ecad10a4a1fc3e0212b787de38bf5b6a67d8", func := "loop.example/floorrooms/laws.FnExactWallTees", spec := "fnExactWallTees", unfollowed := true, recurses := true, plainKeys := false, apart := false }
def FnExactWallTeesSaid : Prop := fnExactWallTeesRow.holds Try.pinned (OpenSpec.ofChange fnExactWallTeesSpec)

/-- ITS FALSE NEIGHBOUR: 'it returns false'. Refute it at one input. -/
def fnExactWallTeesWrong : ChangeSpec := { name := "fnExactWallTees", fn := fun _ => fun
  | [d] => { results := [.lit (.bool false)], args := [d] }
  | _ => none }
def FnExactWallTeesWrongFalsely : Prop := fnExactWallTeesRow.holds Try.pinned (OpenSpec.ofChange fnExactWallTeesWrong)

/-- 'laws.FnExactWallEnds': WHATEVER THE INPUT: true; the input reads as it did. -/
def fnExactWallEndsSpec : ChangeSpec := { name := "fnExactWallEnds", fn := fun _ => fun
  | [d] => { results := [.lit (.bool true)], args := [d] }
  | _ => none }
def fnExactWallEndsRow : OpenClaim := { program := "ytmbfhaeljnbflaa", sum := "a34a59af245a9720379578708141ecad10a4a1fc3e0212b787de38bf5b6a67d8", func := "loop.example/floorrooms/laws.FnExactWallEnds", spec := "fnExactWallEnds", unfollowed := true, recurses := true, plainKeys := false, apart := false }
def FnExactWallEndsSaid : Prop := fnExactWallEndsRow.holds Try.pinned (OpenSpec.ofChange fnExactWallEndsSpec)

/-- ITS FALSE NEIGHBOUR: 'it returns false'. Refute it at one input. -/
def fnExactWallEndsWrong : ChangeSpec := { name := "fnExactWallEnds", fn := fun _ => fun
  | [d] => { results := [.lit (.bool false)], args := [d] }
  | _ => none }
def FnExactWallEndsWrongFalsely : Prop := fnExactWallEndsRow.holds Try.pinned (OpenSpec.ofChange fnExactWallEndsWrong)

/-- 'laws.FnExactCutFirst': WHATEVER THE INPUT: true; the input reads as it did. -/
def fnExactCutFirstSpec : ChangeSpec := { name := "fnExactCutFirst", fn := fun _ => fun
  | [d] => { results := [.lit (.bool true)], args := [d] }
  | _ => none }
def fnExactCutFirstRow : OpenClaim := { program := "ytmbfhaeljnbflaa", sum := "a34a59af245a9720379578708141ecad10a4a1fc3e0212b787de38bf5b6a67d8", func := "loop.example/floorrooms/laws.FnExactCutFirst", spec := "fnExactCutFirst", unfollowed := true, recurses := true, plainKeys := false, apart := false }
def FnExactCutFirstSaid : Prop := fnExactCutFirstRow.holds Try.pinned (OpenSpec.ofChange fnExactCutFirstSpec)

/-- ITS FALSE NEIGHBOUR: 'it returns false'. Refute it at one input. -/
def fnExactCutFirstWrong : ChangeSpec := { name := "fnExactCutFirst", fn := fun _ => fun
  | [d] => { results := [.lit (.bool false)], args := [d] }
  | _ => none }
def FnExactCutFirstWrongFalsely : Prop := fnExactCutFirstRow.holds Try.pinned (OpenSpec.ofChange fnExactCutFirstWrong)

/-- 'laws.FnExactCutMany': WHATEVER THE INPUT: true; the input reads as it did. -/
def fnExactCutManySpec : ChangeSpec := { name := "fnExactCutMany", fn := fun _ => fun
  | [d] => { results := [.lit (.bool true)], args := [d] }
  | _ => none }
def fnExactCutManyRow : OpenClaim := { program := "ytmbfhaeljnbflaa", sum := "a34a59af245a9720379578708141ecad10a4a1fc3e0212b787de38bf5b6a67d8", func := "loop.example/floorrooms/laws.FnExactCutMany", spec := "fnExactCutMany", unfollowed := true, recurses := true, plainKeys := false, apart := false }
def FnExactCutManySaid : Prop := fnExactCutManyRow.holds Try.pinned (OpenSpec.ofChange fnExactCutManySpec)

/-- ITS FALSE NEIGHBOUR: 'it returns false'. Refute it at one input. -/
def fnExactCutManyWrong : ChangeSpec := { name := "fnExactCutMany", fn := fun _ => fun
  | [d] => { results := [.lit (.bool false)], args := [d] }
  | _ => none }
def FnExactCutManyWrongFalsely : Prop := fnExactCutManyRow.holds Try.pinned (OpenSpec.ofChange fnExactCutManyWrong)

/-- 'laws.FnExactCutIs': WHATEVER THE INPUT: true; the input reads as it did. -/
def fnExactCutIsSpec : ChangeSpec := { name := "fnExactCutIs", fn := fun _ => fun
  | [d] => { results := [.lit (.bool true)], args := [d] }
  | _ => none }
def fnExactCutIsRow : OpenClaim := { program := "ytmbfhaeljnbflaa", sum := "a34a59af245a9720379578708141ecad10a4a1fc3e0212b787de38bf5b6a67d8", func := "loop.example/floorrooms/laws.FnExactCutIs", spec := "fnExactCutIs", unfollowed := true, recurses := true, plainKeys := false, apart := false }
def FnExactCutIsSaid : Prop := fnExactCutIsRow.holds Try.pinned (OpenSpec.ofChange fnExactCutIsSpec)

/-- ITS FALSE NEIGHBOUR: 'it returns false'. Refute it at one input. -/
def fnExactCutIsWrong : ChangeSpec := { name := "fnExactCutIs", fn := fun _ => fun
  | [d] => { results := [.lit (.bool false)], args := [d] }
  | _ => none }
def FnExactCutIsWrongFalsely : Prop := fnExactCutIsRow.holds Try.pinned (OpenSpec.ofChange fnExactCutIsWrong)

/-- 'laws.FnExactCutText': WHATEVER THE INPUT: true; the input reads as it did. -/
def fnExactCutTextSpec : ChangeSpec := { name := "fnExactCutText", fn := fun _ => fun
  | [d] => { results := [.lit (.bool true)], args := [d] }
  | _ => none }
def fnExactCutTextRow : OpenClaim := { program := "ytmbfhaeljnbflaa", sum := "a34a59af245a9720379578708141ecad10a4a1fc3e0212b787de38bf5b6a67d8", func := "loop.example/floorrooms/laws.FnExactCutText", spec := "fnExactCutText", unfollowed := true, recurses := true, plainKeys := false, apart := false }
def FnExactCutTextSaid : Prop := fnExactCutTextRow.holds Try.pinned (OpenSpec.ofChange fnExactCutTextSpec)

/-- ITS FALSE NEIGHBOUR: 'it returns false'. Refute it at one input. -/
def fnExactCutTextWrong : ChangeSpec := { name := "fnExactCutText", fn := fun _ => fun
  | [d] => { results := [.lit (.bool false)], args := [d] }
  | _ => none }
def FnExactCutTextWrongFalsely : Prop := fnExactCutTextRow.holds Try.pinned (OpenSpec.ofChange fnExactCutTextWrong)

/-- 'laws.FnExactCutDeep': WHATEVER THE INPUT: true; the input reads as it did. -/
def fnExactCutDeepSpec : ChangeSpec := { name := "fnExactCutDeep", fn := fun _ => fun
  | [d] => { results := [.lit (.bool true)], args := [d] }
  | _ => none }
def fnExactCutDeepRow : OpenClaim := { program := "ytmbfhaeljnbflaa", sum := "a34a59af245a9720379578708141ecad10a4a1fc3e0212b787de38bf5b6a67d8", func := "loop.example/floorrooms/laws.FnExactCutDeep", spec := "fnExactCutDeep", unfollowed := true, recurses := true, plainKeys := false, apart := false }
def FnExactCutDeepSaid : Prop := fnExactCutDeepRow.holds Try.pinned (OpenSpec.ofChange fnExactCutDeepSpec)

/-- ITS FALSE NEIGHBOUR: 'it returns false'. Refute it at one input. -/
def fnExactCutDeepWrong : ChangeSpec := { name := "fnExactCutDeep", fn := fun _ => fun
  | [d] => { results := [.lit (.bool false)], args := [d] }
  | _ => none }
def FnExactCutDeepWrongFalsely : Prop := fnExactCutDeepRow.holds Try.pinned (OpenSpec.ofChange fnExactCutDeepWrong)

/-- 'laws.FnExactCutWays': WHATEVER THE INPUT: true; the input reads as it did. -/
def fnExactCutWaysSpec : ChangeSpec := { name := "fnExactCutWays", fn := fun _ => fun
  | [d] => { results := [.lit (.bool true)], args := [d] }
  | _ => none }
def fnExactCutWaysRow : OpenClaim := { program := "ytmbfhaeljnbflaa", sum := "a34a59af245a9720379578708141ecad10a4a1fc3e0212b787de38bf5b6a67d8", func := "loop.example/floorrooms/laws.FnExactCutWays", spec := "fnExactCutWays", unfollowed := true, recurses := true, plainKeys := false, apart := false }
def FnExactCutWaysSaid : Prop := fnExactCutWaysRow.holds Try.pinned (OpenSpec.ofChange fnExactCutWaysSpec)

/-- ITS FALSE NEIGHBOUR: 'it returns false'. Refute it at one input. -/
def fnExactCutWaysWrong : ChangeSpec := { name := "fnExactCutWays", fn := fun _ => fun
  | [d] => { results := [.lit (.bool false)], args := [d] }
  | _ => none }
def FnExactCutWaysWrongFalsely : Prop := fnExactCutWaysRow.holds Try.pinned (OpenSpec.ofChange fnExactCutWaysWrong)

/-- 'laws.FnExactCutStuck': WHATEVER THE INPUT: true; the input reads as it did. -/
def fnExactCutStuckSpec : ChangeSpec := { name := "fnExactCutStuck", fn := fun _ => fun
  | [d] => { results := [.lit (.bool true)], args := [d] }
  | _ => none }
def fnExactCutStuckRow : OpenClaim := { program := "ytmbfhaeljnbflaa", sum := "a34a59af245a9720379578708141ecad10a4a1fc3e0212b787de38bf5b6a67d8", func := "loop.example/floorrooms/laws.FnExactCutStuck", spec := "fnExactCutStuck", unfollowed := true, recurses := true, plainKeys := false, apart := false }
def FnExactCutStuckSaid : Prop := fnExactCutStuckRow.holds Try.pinned (OpenSpec.ofChange fnExactCutStuckSpec)

/-- ITS FALSE NEIGHBOUR: 'it returns false'. Refute it at one input. -/
def fnExactCutStuckWrong : ChangeSpec := { name := "fnExactCutStuck", fn := fun _ => fun
  | [d] => { results := [.lit (.bool false)], args := [d] }
  | _ => none }
def FnExactCutStuckWrongFalsely : Prop := fnExactCutStuckRow.holds Try.pinned (OpenSpec.ofChange fnExactCutStuckWrong)

/- THE SECOND FORM. 'bulk': how many values and letters a reading holds, each counted each time it is reached (what is shared counts as often as it is met; a slice's spare places count too). A statement '..UptoSaid' is the law's where the arguments, and the package variables that the reading takes, are together of bulk at most 1048576: NARROWER than '..Said'. Prove '..Said' where nothing that the law and all that it calls make is longer than what came in: it says more and counts as full. Else prove '..UptoSaid'. A law counts once. -/
mutual
def uptoBulk {H : Type} : DataW H → Nat
  | .lit (.string bytes) => bytes.length + 1
  | .lit _ => 1
  | .nil => 1
  | .ptr d => uptoBulk d + 1
  | .slice elems spare => uptoBulkAll elems + uptoBulkAll spare + 1
  | .agg parts => uptoBulkAll parts + 1
  | .iface _ d => uptoBulk d + 1
  | .map entries => uptoBulkEntries entries + 1
  | .held _ => 1
def uptoBulkAll {H : Type} : List (DataW H) → Nat
  | [] => 0
  | d :: r => uptoBulk d + uptoBulkAll r
def uptoBulkEntries {H : Type} : List (Lit × DataW H) → Nat
  | [] => 0
  | x :: r => uptoBulkEntry x + uptoBulkEntries r
def uptoBulkEntry {H : Type} : Lit × DataW H → Nat
  | (.string bytes, d) => bytes.length + uptoBulk d + 1
  | (_, d) => uptoBulk d + 1
 end
def uptoSmall : (H : Type) → List (DataW H) → Bool := fun _ ds => decide (uptoBulkAll ds ≤ 1048576)
def OpenSpec.upto (s : _root_.Go.ChangeSpec) : _root_.Go.OpenSpec := { _root_.Go.OpenSpec.ofChange s with cond := some uptoSmall }

/-- 'laws.FnExactWallCross', WHERE WHAT IT READS IS OF BULK AT MOST 1048576: true; the input reads as it did. -/
def fnExactWallCrossUptoRow : OpenClaim := { program := "ytmbfhaeljnbflaa", sum := "a34a59af245a9720379578708141ecad10a4a1fc3e0212b787de38bf5b6a67d8", func := "loop.example/floorrooms/laws.FnExactWallCross", spec := "fnExactWallCross", unfollowed := true, recurses := true, plainKeys := false, apart := false, narrowed := true }
def FnExactWallCrossUptoSaid : Prop := fnExactWallCrossUptoRow.holds Try.pinned (OpenSpec.upto fnExactWallCrossSpec)

/-- 'laws.FnExactWallPlain', WHERE WHAT IT READS IS OF BULK AT MOST 1048576: true; the input reads as it did. -/
def fnExactWallPlainUptoRow : OpenClaim := { program := "ytmbfhaeljnbflaa", sum := "a34a59af245a9720379578708141ecad10a4a1fc3e0212b787de38bf5b6a67d8", func := "loop.example/floorrooms/laws.FnExactWallPlain", spec := "fnExactWallPlain", unfollowed := true, recurses := true, plainKeys := false, apart := false, narrowed := true }
def FnExactWallPlainUptoSaid : Prop := fnExactWallPlainUptoRow.holds Try.pinned (OpenSpec.upto fnExactWallPlainSpec)

/-- 'laws.FnExactWallTees', WHERE WHAT IT READS IS OF BULK AT MOST 1048576: true; the input reads as it did. -/
def fnExactWallTeesUptoRow : OpenClaim := { program := "ytmbfhaeljnbflaa", sum := "a34a59af245a9720379578708141ecad10a4a1fc3e0212b787de38bf5b6a67d8", func := "loop.example/floorrooms/laws.FnExactWallTees", spec := "fnExactWallTees", unfollowed := true, recurses := true, plainKeys := false, apart := false, narrowed := true }
def FnExactWallTeesUptoSaid : Prop := fnExactWallTeesUptoRow.holds Try.pinned (OpenSpec.upto fnExactWallTeesSpec)

/-- 'laws.FnExactWallEnds', WHERE WHAT IT READS IS OF BULK AT MOST 1048576: true; the input reads as it did. -/
def fnExactWallEndsUptoRow : OpenClaim := { program := "ytmbfhaeljnbflaa", sum := "a34a59af245a9720379578708141ecad10a4a1fc3e0212b787de38bf5b6a67d8", func := "loop.example/floorrooms/laws.FnExactWallEnds", spec := "fnExactWallEnds", unfollowed := true, recurses := true, plainKeys := false, apart := false, narrowed := true }
def FnExactWallEndsUptoSaid : Prop := fnExactWallEndsUptoRow.holds Try.pinned (OpenSpec.upto fnExactWallEndsSpec)

/-- 'laws.FnExactCutFirst', WHERE WHAT IT READS IS OF BULK AT MOST 1048576: true; the input reads as it did. -/
def fnExactCutFirstUptoRow : OpenClaim := { program := "ytmbfhaeljnbflaa", sum := "a34a59af245a9720379578708141ecad10a4a1fc3e0212b787de38bf5b6a67d8", func := "loop.example/floorrooms/laws.FnExactCutFirst", spec := "fnExactCutFirst", unfollowed := true, recurses := true, plainKeys := false, apart := false, narrowed := true }
def FnExactCutFirstUptoSaid : Prop := fnExactCutFirstUptoRow.holds Try.pinned (OpenSpec.upto fnExactCutFirstSpec)

/-- 'laws.FnExactCutMany', WHERE WHAT IT READS IS OF BULK AT MOST 1048576: true; the input reads as it did. -/
def fnExactCutManyUptoRow : OpenClaim := { program := "ytmbfhaeljnbflaa", sum := "a34a59af245a9720379578708141ecad10a4a1fc3e0212b787de38bf5b6a67d8", func := "loop.example/floorrooms/laws.FnExactCutMany", spec := "fnExactCutMany", unfollowed := true, recurses := true, plainKeys := false, apart := false, narrowed := true }
def FnExactCutManyUptoSaid : Prop := fnExactCutManyUptoRow.holds Try.pinned (OpenSpec.upto fnExactCutManySpec)

/-- 'laws.FnExactCutIs', WHERE WHAT IT READS IS OF BULK AT MOST 1048576: true; the input reads as it did. -/
def fnExactCutIsUptoRow : OpenClaim := { program := "ytmbfhaeljnbflaa", sum := "a34a59af245a9720379578708141ecad10a4a1fc3e0212b787de38bf5b6a67d8", func := "loop.example/floorrooms/laws.FnExactCutIs", spec := "fnExactCutIs", unfollowed := true, recurses := true, plainKeys := false, apart := false, narrowed := true }
def FnExactCutIsUptoSaid : Prop := fnExactCutIsUptoRow.holds Try.pinned (OpenSpec.upto fnExactCutIsSpec)

/-- 'laws.FnExactCutText', WHERE WHAT IT READS IS OF BULK AT MOST 1048576: true; the input reads as it did. -/
def fnExactCutTextUptoRow : OpenClaim := { program := "ytmbfhaeljnbflaa", sum := "a34a59af245a9720379578708141ecad10a4a1fc3e0212b787de38bf5b6a67d8", func := "loop.example/floorrooms/laws.FnExactCutText", spec := "fnExactCutText", unfollowed := true, recurses := true, plainKeys := false, apart := false, narrowed := true }
def FnExactCutTextUptoSaid : Prop := fnExactCutTextUptoRow.holds Try.pinned (OpenSpec.upto fnExactCutTextSpec)

/-- 'laws.FnExactCutDeep', WHERE WHAT IT READS IS OF BULK AT MOST 1048576: true; the input reads as it did. -/
def fnExactCutDeepUptoRow : OpenClaim := { program := "ytmbfhaeljnbflaa", sum := "a34a59af245a9720379578708141ecad10a4a1fc3e0212b787de38bf5b6a67d8", func := "loop.example/floorrooms/laws.FnExactCutDeep", spec := "fnExactCutDeep", unfollowed := true, recurses := true, plainKeys := false, apart := false, narrowed := true }
def FnExactCutDeepUptoSaid : Prop := fnExactCutDeepUptoRow.holds Try.pinned (OpenSpec.upto fnExactCutDeepSpec)

/-- 'laws.FnExactCutWays', WHERE WHAT IT READS IS OF BULK AT MOST 1048576: true; the input reads as it did. -/
def fnExactCutWaysUptoRow : OpenClaim := { program := "ytmbfhaeljnbflaa", sum := "a34a59af245a9720379578708141ecad10a4a1fc3e0212b787de38bf5b6a67d8", func := "loop.example/floorrooms/laws.FnExactCutWays", spec := "fnExactCutWays", unfollowed := true, recurses := true, plainKeys := false, apart := false, narrowed := true }
def FnExactCutWaysUptoSaid : Prop := fnExactCutWaysUptoRow.holds Try.pinned (OpenSpec.upto fnExactCutWaysSpec)

/-- 'laws.FnExactCutStuck', WHERE WHAT IT READS IS OF BULK AT MOST 1048576: true; the input reads as it did. -/
def fnExactCutStuckUptoRow : OpenClaim := { program := "ytmbfhaeljnbflaa", sum := "a34a59af245a9720379578708141ecad10a4a1fc3e0212b787de38bf5b6a67d8", func := "loop.example/floorrooms/laws.FnExactCutStuck", spec := "fnExactCutStuck", unfollowed := true, recurses := true, plainKeys := false, apart := false, narrowed := true }
def FnExactCutStuckUptoSaid : Prop := fnExactCutStuckUptoRow.holds Try.pinned (OpenSpec.upto fnExactCutStuckSpec)

end Rows
end Go.Proofs.Ytmbfhaeljnbflaa
