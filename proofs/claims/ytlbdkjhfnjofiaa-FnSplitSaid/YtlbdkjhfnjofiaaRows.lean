/-
  No cell of these rows narrows 'for every input' (looked for: loops, veiled, ifaces, maps, wideKeys, modest, calm, conditions, laid).
  DERIVED. THE GIVEN ROWS OF THIS SEAT. 9 by the template 'for every input the law returns true; each argument reads behind the call as it read before'; 0 by the template 'total and deterministic' (their statements: YtlbdkjhfnjofiaaTotals.lean).
  GIVEN WITH THE SEED: the statements are not yours to turn. If you find one false, say at which input.
  Laid BY PROGRAM, IN A SANDBOX (cutbox-rows.mjs): the forced cells as the released guide's own fill.sh prints them over the translation 9d7094e08f08dae6… (all of the seat's roots in one cut). By AI agents, Wed Nov 11 2026. No macro, syntax, notation, axiom, sorry.
-/
import Derived.Test.YtlbdkjhfnjofiaaChecked
import GoSem.Claim
import GoSem.ClaimJoined
import GoSem.ClaimMapViews
import Derived.JoinedTies
import Derived.KernelRfl
namespace Go.Proofs.Ytlbdkjhfnjofiaa
/- THE CELL 'sum', in the pinned program and in every row, IS THE sha256 OF THE DUMP (.gsa) THAT YtlbdkjhfnjofiaaProg.lean LOADS. Nothing in Lean hashes anything: it is a label: what it is worth is what the hold of that sum in a sandbox is worth. -/
noncomputable def Try.pinned : Pinned := { name := "ytlbdkjhfnjofiaa", sum := "9d7094e08f08dae66749e6fc3491b1279ab0426f5425bfd3448ff077344fa4df", checked := Try.checked }
namespace Rows
def none {H : Type} : Left H := { results := [], args := [] }

/-- 'laws.FnTight': WHATEVER THE INPUT: true; the input reads as it did. -/
def fnTightSpec : ChangeSpec := { name := "fnTight", fn := fun _ => fun
  | [d] => { results := [.lit (.bool true)], args := [d] }
  | _ => none }
def fnTightRow : OpenClaim := { program := "ytlbdkjhfnjofiaa", sum := "9d7094e08f08dae66749e6fc3491b1279ab0426f5425bfd3448ff077344fa4df", func := "loop.example/floorrooms/laws.FnTight", spec := "fnTight", unfollowed := true, recurses := true, plainKeys := false, apart := false }
def FnTightSaid : Prop := fnTightRow.holds Try.pinned (OpenSpec.ofChange fnTightSpec)

/-- ITS FALSE NEIGHBOUR: 'it returns false'. Refute it at one input. -/
def fnTightWrong : ChangeSpec := { name := "fnTight", fn := fun _ => fun
  | [d] => { results := [.lit (.bool false)], args := [d] }
  | _ => none }
def FnTightWrongFalsely : Prop := fnTightRow.holds Try.pinned (OpenSpec.ofChange fnTightWrong)

/-- 'laws.FnSplit': WHATEVER THE INPUT: true; the input reads as it did. -/
def fnSplitSpec : ChangeSpec := { name := "fnSplit", fn := fun _ => fun
  | [d] => { results := [.lit (.bool true)], args := [d] }
  | _ => none }
def fnSplitRow : OpenClaim := { program := "ytlbdkjhfnjofiaa", sum := "9d7094e08f08dae66749e6fc3491b1279ab0426f5425bfd3448ff077344fa4df", func := "loop.example/floorrooms/laws.FnSplit", spec := "fnSplit", unfollowed := true, recurses := true, plainKeys := false, apart := false }
def FnSplitSaid : Prop := fnSplitRow.holds Try.pinned (OpenSpec.ofChange fnSplitSpec)

/-- ITS FALSE NEIGHBOUR: 'it returns false'. Refute it at one input. -/
def fnSplitWrong : ChangeSpec := { name := "fnSplit", fn := fun _ => fun
  | [d] => { results := [.lit (.bool false)], args := [d] }
  | _ => none }
def FnSplitWrongFalsely : Prop := fnSplitRow.holds Try.pinned (OpenSpec.ofChange fnSplitWrong)

/-- 'laws.FnWalls': WHATEVER THE INPUT: true; the input reads as it did. -/
def fnWallsSpec : ChangeSpec := { name := "fnWalls", fn := fun _ => fun
  | [d] => { results := [.lit (.bool true)], args := [d] }
  | _ => none }
def fnWallsRow : OpenClaim := { program := "ytlbdkjhfnjofiaa", sum := "9d7094e08f08dae66749e6fc3491b1279ab0426f5425bfd3448ff077344fa4df", func := "loop.example/floorrooms/laws.FnWalls", spec := "fnWalls", unfollowed := true, recurses := true, plainKeys := false, apart := false }
def FnWallsSaid : Prop := fnWallsRow.holds Try.pinned (OpenSpec.ofChange fnWallsSpec)

/-- ITS FALSE NEIGHBOUR: 'it returns false'. Refute it at one input. -/
def fnWallsWrong : ChangeSpec := { name := "fnWalls", fn := fun _ => fun
  | [d] => { results := [.lit (.bool false)], args := [d] }
  | _ => none }
def FnWallsWrongFalsely : Prop := fnWallsRow.holds Try.pinned (OpenSpec.ofChange fnWallsWrong)

/-- 'laws.FnWallList': WHATEVER THE INPUT: true; the input reads as it did. -/
def fnWallListSpec : ChangeSpec := { name := "fnWallList", fn := fun _ => fun
  | [d] => { results := [.lit (.bool true)], args := [d] }
  | _ => none }
def fnWallListRow : OpenClaim := { program := "ytlbdkjhfnjofiaa", sum := "9d7094e08f08dae66749e6fc3491b1279ab0426f5425bfd3448ff077344fa4df", func := "loop.example/floorrooms/laws.FnWallList", spec := "fnWallList", unfollowed := true, recurses := true, plainKeys := false, apart := false }
def FnWallListSaid : Prop := fnWallListRow.holds Try.pinned (OpenSpec.ofChange fnWallListSpec)

/-- ITS FALSE NEIGHBOUR: 'it returns false'. Refute it at one input. -/
def fnWallListWrong : ChangeSpec := { name := "fnWallList", fn := fun _ => fun
  | [d] => { results := [.lit (.bool false)], args := [d] }
  | _ => none }
def FnWallListWrongFalsely : Prop := fnWallListRow.holds Try.pinned (OpenSpec.ofChange fnWallListWrong)

/-- 'laws.FnCross': WHATEVER THE INPUT: true; the input reads as it did. -/
def fnCrossSpec : ChangeSpec := { name := "fnCross", fn := fun _ => fun
  | [d] => { results := [.lit (.bool true)], args := [d] }
  | _ => none }
def fnCrossRow : OpenClaim := { program := "ytlbdkjhfnjofiaa", sum := "9d7094e08f08dae66749e6fc3491b1279ab0426f5425bfd3448ff077344fa4df", func := "loop.example/floorrooms/laws.FnCross", spec := "fnCross", unfollowed := true, recurses := true, plainKeys := false, apart := false }
def FnCrossSaid : Prop := fnCrossRow.holds Try.pinned (OpenSpec.ofChange fnCrossSpec)

/-- ITS FALSE NEIGHBOUR: 'it returns false'. Refute it at one input. -/
def fnCrossWrong : ChangeSpec := { name := "fnCross", fn := fun _ => fun
  | [d] => { results := [.lit (.bool false)], args := [d] }
  | _ => none }
def FnCrossWrongFalsely : Prop := fnCrossRow.holds Try.pinned (OpenSpec.ofChange fnCrossWrong)

/-- 'laws.FnPlain': WHATEVER THE INPUT: true; the input reads as it did. -/
def fnPlainSpec : ChangeSpec := { name := "fnPlain", fn := fun _ => fun
  | [d] => { results := [.lit (.bool true)], args := [d] }
  | _ => none }
def fnPlainRow : OpenClaim := { program := "ytlbdkjhfnjofiaa", sum := "9d7094e08f08dae66749e6fc3491b1279ab0426f5425bfd3448ff077344fa4df", func := "loop.example/floorrooms/laws.FnPlain", spec := "fnPlain", unfollowed := true, recurses := true, plainKeys := false, apart := false }
def FnPlainSaid : Prop := fnPlainRow.holds Try.pinned (OpenSpec.ofChange fnPlainSpec)

/-- ITS FALSE NEIGHBOUR: 'it returns false'. Refute it at one input. -/
def fnPlainWrong : ChangeSpec := { name := "fnPlain", fn := fun _ => fun
  | [d] => { results := [.lit (.bool false)], args := [d] }
  | _ => none }
def FnPlainWrongFalsely : Prop := fnPlainRow.holds Try.pinned (OpenSpec.ofChange fnPlainWrong)

/-- 'laws.FnTees': WHATEVER THE INPUT: true; the input reads as it did. -/
def fnTeesSpec : ChangeSpec := { name := "fnTees", fn := fun _ => fun
  | [d] => { results := [.lit (.bool true)], args := [d] }
  | _ => none }
def fnTeesRow : OpenClaim := { program := "ytlbdkjhfnjofiaa", sum := "9d7094e08f08dae66749e6fc3491b1279ab0426f5425bfd3448ff077344fa4df", func := "loop.example/floorrooms/laws.FnTees", spec := "fnTees", unfollowed := true, recurses := true, plainKeys := false, apart := false }
def FnTeesSaid : Prop := fnTeesRow.holds Try.pinned (OpenSpec.ofChange fnTeesSpec)

/-- ITS FALSE NEIGHBOUR: 'it returns false'. Refute it at one input. -/
def fnTeesWrong : ChangeSpec := { name := "fnTees", fn := fun _ => fun
  | [d] => { results := [.lit (.bool false)], args := [d] }
  | _ => none }
def FnTeesWrongFalsely : Prop := fnTeesRow.holds Try.pinned (OpenSpec.ofChange fnTeesWrong)

/-- 'laws.FnCutMany': WHATEVER THE INPUT: true; the input reads as it did. -/
def fnCutManySpec : ChangeSpec := { name := "fnCutMany", fn := fun _ => fun
  | [d] => { results := [.lit (.bool true)], args := [d] }
  | _ => none }
def fnCutManyRow : OpenClaim := { program := "ytlbdkjhfnjofiaa", sum := "9d7094e08f08dae66749e6fc3491b1279ab0426f5425bfd3448ff077344fa4df", func := "loop.example/floorrooms/laws.FnCutMany", spec := "fnCutMany", unfollowed := true, recurses := true, plainKeys := false, apart := false }
def FnCutManySaid : Prop := fnCutManyRow.holds Try.pinned (OpenSpec.ofChange fnCutManySpec)

/-- ITS FALSE NEIGHBOUR: 'it returns false'. Refute it at one input. -/
def fnCutManyWrong : ChangeSpec := { name := "fnCutMany", fn := fun _ => fun
  | [d] => { results := [.lit (.bool false)], args := [d] }
  | _ => none }
def FnCutManyWrongFalsely : Prop := fnCutManyRow.holds Try.pinned (OpenSpec.ofChange fnCutManyWrong)

/-- 'laws.FnEnds': WHATEVER THE INPUT: true; the input reads as it did. -/
def fnEndsSpec : ChangeSpec := { name := "fnEnds", fn := fun _ => fun
  | [d] => { results := [.lit (.bool true)], args := [d] }
  | _ => none }
def fnEndsRow : OpenClaim := { program := "ytlbdkjhfnjofiaa", sum := "9d7094e08f08dae66749e6fc3491b1279ab0426f5425bfd3448ff077344fa4df", func := "loop.example/floorrooms/laws.FnEnds", spec := "fnEnds", unfollowed := true, recurses := true, plainKeys := false, apart := false }
def FnEndsSaid : Prop := fnEndsRow.holds Try.pinned (OpenSpec.ofChange fnEndsSpec)

/-- ITS FALSE NEIGHBOUR: 'it returns false'. Refute it at one input. -/
def fnEndsWrong : ChangeSpec := { name := "fnEnds", fn := fun _ => fun
  | [d] => { results := [.lit (.bool false)], args := [d] }
  | _ => none }
def FnEndsWrongFalsely : Prop := fnEndsRow.holds Try.pinned (OpenSpec.ofChange fnEndsWrong)

/- THE SECOND FORM. 'bulk': how many values and letters a reading holds, each counted each time it is reached (what is shared counts as often as it is met; a slice's spare places count too). A statement '..UptoSaid' is the law's where the arguments, and the package variables that the reading takes, are together of bulk at most 1048576: NARROWER than '..Said'. Prove '..Said' where nothing that the law and all that it calls make is longer than what came in: it says more and counts as full. Else prove '..UptoSaid'. A law counts once. -/
mutual
def uptoBulk {H : Type} : DataW H → Nat
  | .lit (.string bytes) => bytes.length + 1
  | .lit _ => 1
  | .nil => 1
  | .ptr d => uptoBulk d + 1
  | .slice elems spare => uptoBulkAll elems + uptoBulkAll spare + 1
  | .agg parts => uptoBulkAll parts + 1
  | .iface _ d => uptoBulk d + 1
  | .map entries => uptoBulkEntries entries + 1
  | .held _ => 1
def uptoBulkAll {H : Type} : List (DataW H) → Nat
  | [] => 0
  | d :: r => uptoBulk d + uptoBulkAll r
def uptoBulkEntries {H : Type} : List (Lit × DataW H) → Nat
  | [] => 0
  | x :: r => uptoBulkEntry x + uptoBulkEntries r
def uptoBulkEntry {H : Type} : Lit × DataW H → Nat
  | (.string bytes, d) => bytes.length + uptoBulk d + 1
  | (_, d) => uptoBulk d + 1
 end
def uptoSmall : (H : Type) → List (DataW H) → Bool := fun _ ds => decide (uptoBulkAll ds ≤ 1048576)
def OpenSpec.upto (s : _root_.Go.ChangeSpec) : _root_.Go.OpenSpec := { _root_.Go.OpenSpec.ofChange s with cond := some uptoSmall }

/-- 'laws.FnTight', WHERE WHAT IT READS IS OF BULK AT MOST 1048576: true; the input reads as it did. -/
def fnTightUptoRow : OpenClaim := { program := "ytlbdkjhfnjofiaa", sum := "9d7094e08f08dae66749e6fc3491b1279ab0426f5425bfd3448ff077344fa4df", func := "loop.example/floorrooms/laws.FnTight", spec := "fnTight", unfollowed := true, recurses := true, plainKeys := false, apart := false, narrowed := true }
def FnTightUptoSaid : Prop := fnTightUptoRow.holds Try.pinned (OpenSpec.upto fnTightSpec)

/-- 'laws.FnSplit', WHERE WHAT IT READS IS OF BULK AT MOST 1048576: true; the input reads as it did. -/
def fnSplitUptoRow : OpenClaim := { program := "ytlbdkjhfnjofiaa", sum := "9d7094e08f08dae66749e6fc3491b1279ab0426f5425bfd3448ff077344fa4df", func := "loop.example/floorrooms/laws.FnSplit", spec := "fnSplit", unfollowed := true, recurses := true, plainKeys := false, apart := false, narrowed := true }
def FnSplitUptoSaid : Prop := fnSplitUptoRow.holds Try.pinned (OpenSpec.upto fnSplitSpec)

/-- 'laws.FnWalls', WHERE WHAT IT READS IS OF BULK AT MOST 1048576: true; the input reads as it did. -/
def fnWallsUptoRow : OpenClaim := { program := "ytlbdkjhfnjofiaa", sum := "9d7094e08f08dae66749e6fc3491b1279ab0426f5425bfd3448ff077344fa4df", func := "loop.example/floorrooms/laws.FnWalls", spec := "fnWalls", unfollowed := true, recurses := true, plainKeys := false, apart := false, narrowed := true }
def FnWallsUptoSaid : Prop := fnWallsUptoRow.holds Try.pinned (OpenSpec.upto fnWallsSpec)

/-- 'laws.FnWallList', WHERE WHAT IT READS IS OF BULK AT MOST 1048576: true; the input reads as it did. -/
def fnWallListUptoRow : OpenClaim := { program := "ytlbdkjhfnjofiaa", sum := "9d7094e08f08dae66749e6fc3491b1279ab0426f5425bfd3448ff077344fa4df", func := "loop.example/floorrooms/laws.FnWallList", spec := "fnWallList", unfollowed := true, recurses := true, plainKeys := false, apart := false, narrowed := true }
def FnWallListUptoSaid : Prop := fnWallListUptoRow.holds Try.pinned (OpenSpec.upto fnWallListSpec)

/-- 'laws.FnCross', WHERE WHAT IT READS IS OF BULK AT MOST 1048576: true; the input reads as it did. -/
def fnCrossUptoRow : OpenClaim := { program := "ytlbdkjhfnjofiaa", sum := "9d7094e08f08dae66749e6fc3491b1279ab0426f5425bfd3448ff077344fa4df", func := "loop.example/floorrooms/laws.FnCross", spec := "fnCross", unfollowed := true, recurses := true, plainKeys := false, apart := false, narrowed := true }
def FnCrossUptoSaid : Prop := fnCrossUptoRow.holds Try.pinned (OpenSpec.upto fnCrossSpec)

/-- 'laws.FnPlain', WHERE WHAT IT READS IS OF BULK AT MOST 1048576: true; the input reads as it did. -/
def fnPlainUptoRow : OpenClaim := { program := "ytlbdkjhfnjofiaa", sum := "9d7094e08f08dae66749e6fc3491b1279ab0426f5425bfd3448ff077344fa4df", func := "loop.example/floorrooms/laws.FnPlain", spec := "fnPlain", unfollowed := true, recurses := true, plainKeys := false, apart := false, narrowed := true }
def FnPlainUptoSaid : Prop := fnPlainUptoRow.holds Try.pinned (OpenSpec.upto fnPlainSpec)

/-- 'laws.FnTees', WHERE WHAT IT READS IS OF BULK AT MOST 1048576: true; the input reads as it did. -/
def fnTeesUptoRow : OpenClaim := { program := "ytlbdkjhfnjofiaa", sum := "9d7094e08f08dae66749e6fc3491b1279ab0426f5425bfd3448ff077344fa4df", func := "loop.example/floorrooms/laws.FnTees", spec := "fnTees", unfollowed := true, recurses := true, plainKeys := false, apart := false, narrowed := true }
def FnTeesUptoSaid : Prop := fnTeesUptoRow.holds Try.pinned (OpenSpec.upto fnTeesSpec)

/-- 'laws.FnCutMany', WHERE WHAT IT READS IS OF BULK AT MOST 1048576: true; the input reads as it did. -/
def fnCutManyUptoRow : OpenClaim := { program := "ytlbdkjhfnjofiaa", sum := "9d7094e08f08dae66749e6fc3491b1279ab0426f5425bfd3448ff077344fa4df", func := "loop.example/floorrooms/laws.FnCutMany", spec := "fnCutMany", unfollowed := true, recurses := true, plainKeys := false, apart := false, narrowed := true }
def FnCutManyUptoSaid : Prop := fnCutManyUptoRow.holds Try.pinned (OpenSpec.upto fnCutManySpec)

/-- 'laws.FnEnds', WHERE WHAT IT READS IS OF BULK AT MOST 1048576: true; the input reads as it did. -/
def fnEndsUptoRow : OpenClaim := { program := "ytlbdkjhfnjofiaa", sum := "9d7094e08f08dae66749e6fc3491b1279ab0426f5425bfd3448ff077344fa4df", func := "loop.example/floorrooms/laws.FnEnds", spec := "fnEnds", unfollowed := true, recurses := true, plainKeys := false, apart := false, narrowed := true }
def FnEndsUptoSaid : Prop := fnEndsUptoRow.holds Try.pinned (OpenSpec.upto fnEndsSpec)

end Rows
end Go.Proofs.Ytlbdkjhfnjofiaa
