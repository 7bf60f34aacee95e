/-
  No cell of these rows narrows 'for every input' (looked for: loops, veiled, ifaces, maps, wideKeys, modest, calm, conditions, laid).
  DERIVED. THE GIVEN ROWS OF THIS SEAT. 8 by the template 'for every input the law returns true; each argument reads behind the call as it read before'; 0 by the template 'total and deterministic' (their statements: YteallnkaapdifaaTotals.lean).
  GIVEN WITH THE SEED: the statements are not yours to turn. If you find one false, say at which input.
  Laid BY PROGRAM, IN A SANDBOX (cutbox-rows.mjs): the forced cells as the released guide's own fill.sh prints them over the translation dcb79ef17f639081… (all of the seat's roots in one cut). By AI agents, Wed Nov 11 2026. No macro, syntax, notation, axiom, sorry.
-/
import Derived.Test.YteallnkaapdifaaChecked
import GoSem.Claim
import GoSem.ClaimJoined
import GoSem.ClaimMapViews
import Derived.JoinedTies
import Derived.KernelRfl
namespace Go.Proofs.Yteallnkaapdifaa
/- THE CELL 'sum', in the pinned program and in every row, IS THE sha256 OF THE DUMP (.gsa) THAT YteallnkaapdifaaProg.lean LOADS. Nothing in Lean hashes anything: it is a label: what it is worth is what the hold of that sum in a sandbox is worth. -/
noncomputable def Try.pinned : Pinned := { name := "yteallnkaapdifaa", sum := "dcb79ef17f639081b10d5b5d919c97da5f2b8e1a8bdb0fab0eb2d87af38abe52", checked := Try.checked }
namespace Rows
def none {H : Type} : Left H := { results := [], args := [] }

/-- 'laws.FnExactOrderLeft': WHATEVER THE INPUT: true; the input reads as it did. -/
def fnExactOrderLeftSpec : ChangeSpec := { name := "fnExactOrderLeft", fn := fun _ => fun
  | [d1, d2, d3] => { results := [.lit (.bool true)], args := [d1, d2, d3] }
  | _ => none }
def fnExactOrderLeftRow : OpenClaim := { program := "yteallnkaapdifaa", sum := "dcb79ef17f639081b10d5b5d919c97da5f2b8e1a8bdb0fab0eb2d87af38abe52", func := "loop.example/floorrooms/laws.FnExactOrderLeft", spec := "fnExactOrderLeft", unfollowed := true, recurses := true, plainKeys := false, apart := false }
def FnExactOrderLeftSaid : Prop := fnExactOrderLeftRow.holds Try.pinned (OpenSpec.ofChange fnExactOrderLeftSpec)

/-- ITS FALSE NEIGHBOUR: 'it returns false'. Refute it at one input. -/
def fnExactOrderLeftWrong : ChangeSpec := { name := "fnExactOrderLeft", fn := fun _ => fun
  | [d1, d2, d3] => { results := [.lit (.bool false)], args := [d1, d2, d3] }
  | _ => none }
def FnExactOrderLeftWrongFalsely : Prop := fnExactOrderLeftRow.holds Try.pinned (OpenSpec.ofChange fnExactOrderLeftWrong)

/-- 'laws.FnExactOrderAbove': WHATEVER THE INPUT: true; the input reads as it did. -/
def fnExactOrderAboveSpec : ChangeSpec := { name := "fnExactOrderAbove", fn := fun _ => fun
  | [d1, d2, d3] => { results := [.lit (.bool true)], args := [d1, d2, d3] }
  | _ => none }
def fnExactOrderAboveRow : OpenClaim := { program := "yteallnkaapdifaa", sum := "dcb79ef17f639081b10d5b5d919c97da5f2b8e1a8bdb0fab0eb2d87af38abe52", func := "loop.example/floorrooms/laws.FnExactOrderAbove", spec := "fnExactOrderAbove", unfollowed := true, recurses := true, plainKeys := false, apart := false }
def FnExactOrderAboveSaid : Prop := fnExactOrderAboveRow.holds Try.pinned (OpenSpec.ofChange fnExactOrderAboveSpec)

/-- ITS FALSE NEIGHBOUR: 'it returns false'. Refute it at one input. -/
def fnExactOrderAboveWrong : ChangeSpec := { name := "fnExactOrderAbove", fn := fun _ => fun
  | [d1, d2, d3] => { results := [.lit (.bool false)], args := [d1, d2, d3] }
  | _ => none }
def FnExactOrderAboveWrongFalsely : Prop := fnExactOrderAboveRow.holds Try.pinned (OpenSpec.ofChange fnExactOrderAboveWrong)

/-- 'laws.FnExactOrderKind': WHATEVER THE INPUT: true; the input reads as it did. -/
def fnExactOrderKindSpec : ChangeSpec := { name := "fnExactOrderKind", fn := fun _ => fun
  | [d1, d2, d3] => { results := [.lit (.bool true)], args := [d1, d2, d3] }
  | _ => none }
def fnExactOrderKindRow : OpenClaim := { program := "yteallnkaapdifaa", sum := "dcb79ef17f639081b10d5b5d919c97da5f2b8e1a8bdb0fab0eb2d87af38abe52", func := "loop.example/floorrooms/laws.FnExactOrderKind", spec := "fnExactOrderKind", unfollowed := true, recurses := true, plainKeys := false, apart := false }
def FnExactOrderKindSaid : Prop := fnExactOrderKindRow.holds Try.pinned (OpenSpec.ofChange fnExactOrderKindSpec)

/-- ITS FALSE NEIGHBOUR: 'it returns false'. Refute it at one input. -/
def fnExactOrderKindWrong : ChangeSpec := { name := "fnExactOrderKind", fn := fun _ => fun
  | [d1, d2, d3] => { results := [.lit (.bool false)], args := [d1, d2, d3] }
  | _ => none }
def FnExactOrderKindWrongFalsely : Prop := fnExactOrderKindRow.holds Try.pinned (OpenSpec.ofChange fnExactOrderKindWrong)

/-- 'laws.FnExactOrderFirst': WHATEVER THE INPUT: true; the input reads as it did. -/
def fnExactOrderFirstSpec : ChangeSpec := { name := "fnExactOrderFirst", fn := fun _ => fun
  | [d] => { results := [.lit (.bool true)], args := [d] }
  | _ => none }
def fnExactOrderFirstRow : OpenClaim := { program := "yteallnkaapdifaa", sum := "dcb79ef17f639081b10d5b5d919c97da5f2b8e1a8bdb0fab0eb2d87af38abe52", func := "loop.example/floorrooms/laws.FnExactOrderFirst", spec := "fnExactOrderFirst", unfollowed := true, recurses := true, plainKeys := false, apart := false }
def FnExactOrderFirstSaid : Prop := fnExactOrderFirstRow.holds Try.pinned (OpenSpec.ofChange fnExactOrderFirstSpec)

/-- ITS FALSE NEIGHBOUR: 'it returns false'. Refute it at one input. -/
def fnExactOrderFirstWrong : ChangeSpec := { name := "fnExactOrderFirst", fn := fun _ => fun
  | [d] => { results := [.lit (.bool false)], args := [d] }
  | _ => none }
def FnExactOrderFirstWrongFalsely : Prop := fnExactOrderFirstRow.holds Try.pinned (OpenSpec.ofChange fnExactOrderFirstWrong)

/-- 'laws.FnExactOrderSecond': WHATEVER THE INPUT: true; the input reads as it did. -/
def fnExactOrderSecondSpec : ChangeSpec := { name := "fnExactOrderSecond", fn := fun _ => fun
  | [d] => { results := [.lit (.bool true)], args := [d] }
  | _ => none }
def fnExactOrderSecondRow : OpenClaim := { program := "yteallnkaapdifaa", sum := "dcb79ef17f639081b10d5b5d919c97da5f2b8e1a8bdb0fab0eb2d87af38abe52", func := "loop.example/floorrooms/laws.FnExactOrderSecond", spec := "fnExactOrderSecond", unfollowed := true, recurses := true, plainKeys := false, apart := false }
def FnExactOrderSecondSaid : Prop := fnExactOrderSecondRow.holds Try.pinned (OpenSpec.ofChange fnExactOrderSecondSpec)

/-- ITS FALSE NEIGHBOUR: 'it returns false'. Refute it at one input. -/
def fnExactOrderSecondWrong : ChangeSpec := { name := "fnExactOrderSecond", fn := fun _ => fun
  | [d] => { results := [.lit (.bool false)], args := [d] }
  | _ => none }
def FnExactOrderSecondWrongFalsely : Prop := fnExactOrderSecondRow.holds Try.pinned (OpenSpec.ofChange fnExactOrderSecondWrong)

/-- 'laws.FnExactOrderPerm': WHATEVER THE INPUT: true; the input reads as it did. -/
def fnExactOrderPermSpec : ChangeSpec := { name := "fnExactOrderPerm", fn := fun _ => fun
  | [d] => { results := [.lit (.bool true)], args := [d] }
  | _ => none }
def fnExactOrderPermRow : OpenClaim := { program := "yteallnkaapdifaa", sum := "dcb79ef17f639081b10d5b5d919c97da5f2b8e1a8bdb0fab0eb2d87af38abe52", func := "loop.example/floorrooms/laws.FnExactOrderPerm", spec := "fnExactOrderPerm", unfollowed := true, recurses := true, plainKeys := false, apart := false }
def FnExactOrderPermSaid : Prop := fnExactOrderPermRow.holds Try.pinned (OpenSpec.ofChange fnExactOrderPermSpec)

/-- ITS FALSE NEIGHBOUR: 'it returns false'. Refute it at one input. -/
def fnExactOrderPermWrong : ChangeSpec := { name := "fnExactOrderPerm", fn := fun _ => fun
  | [d] => { results := [.lit (.bool false)], args := [d] }
  | _ => none }
def FnExactOrderPermWrongFalsely : Prop := fnExactOrderPermRow.holds Try.pinned (OpenSpec.ofChange fnExactOrderPermWrong)

/-- 'laws.FnExactOrderSame': WHATEVER THE INPUT: true; the input reads as it did. -/
def fnExactOrderSameSpec : ChangeSpec := { name := "fnExactOrderSame", fn := fun _ => fun
  | [d1, d2] => { results := [.lit (.bool true)], args := [d1, d2] }
  | _ => none }
def fnExactOrderSameRow : OpenClaim := { program := "yteallnkaapdifaa", sum := "dcb79ef17f639081b10d5b5d919c97da5f2b8e1a8bdb0fab0eb2d87af38abe52", func := "loop.example/floorrooms/laws.FnExactOrderSame", spec := "fnExactOrderSame", unfollowed := true, recurses := true, plainKeys := false, apart := false }
def FnExactOrderSameSaid : Prop := fnExactOrderSameRow.holds Try.pinned (OpenSpec.ofChange fnExactOrderSameSpec)

/-- ITS FALSE NEIGHBOUR: 'it returns false'. Refute it at one input. -/
def fnExactOrderSameWrong : ChangeSpec := { name := "fnExactOrderSame", fn := fun _ => fun
  | [d1, d2] => { results := [.lit (.bool false)], args := [d1, d2] }
  | _ => none }
def FnExactOrderSameWrongFalsely : Prop := fnExactOrderSameRow.holds Try.pinned (OpenSpec.ofChange fnExactOrderSameWrong)

/-- 'laws.FnExactOrderLong': WHATEVER THE INPUT: true; the input reads as it did. -/
def fnExactOrderLongSpec : ChangeSpec := { name := "fnExactOrderLong", fn := fun _ => fun
  | [d] => { results := [.lit (.bool true)], args := [d] }
  | _ => none }
def fnExactOrderLongRow : OpenClaim := { program := "yteallnkaapdifaa", sum := "dcb79ef17f639081b10d5b5d919c97da5f2b8e1a8bdb0fab0eb2d87af38abe52", func := "loop.example/floorrooms/laws.FnExactOrderLong", spec := "fnExactOrderLong", unfollowed := true, recurses := true, plainKeys := false, apart := false }
def FnExactOrderLongSaid : Prop := fnExactOrderLongRow.holds Try.pinned (OpenSpec.ofChange fnExactOrderLongSpec)

/-- ITS FALSE NEIGHBOUR: 'it returns false'. Refute it at one input. -/
def fnExactOrderLongWrong : ChangeSpec := { name := "fnExactOrderLong", fn := fun _ => fun
  | [d] => { results := [.lit (.bool false)], args := [d] }
  | _ => none }
def FnExactOrderLongWrongFalsely : Prop := fnExactOrderLongRow.holds Try.pinned (OpenSpec.ofChange fnExactOrderLongWrong)

/- THE SECOND FORM. 'bulk': how many values and letters a reading holds, each counted each time it is reached (what is shared counts as often as it is met; a slice's spare places count too). A statement '..UptoSaid' is the law's where the arguments, and the package variables that the reading takes, are together of bulk at most 1048576: NARROWER than '..Said'. Prove '..Said' where nothing that the law and all that it calls make is longer than what came in: it says more and counts as full. Else prove '..UptoSaid'. A law counts once. -/
mutual
def uptoBulk {H : Type} : DataW H → Nat
  | .lit (.string bytes) => bytes.length + 1
  | .lit _ => 1
  | .nil => 1
  | .ptr d => uptoBulk d + 1
  | .slice elems spare => uptoBulkAll elems + uptoBulkAll spare + 1
  | .agg parts => uptoBulkAll parts + 1
  | .iface _ d => uptoBulk d + 1
  | .map entries => uptoBulkEntries entries + 1
  | .held _ => 1
def uptoBulkAll {H : Type} : List (DataW H) → Nat
  | [] => 0
  | d :: r => uptoBulk d + uptoBulkAll r
def uptoBulkEntries {H : Type} : List (Lit × DataW H) → Nat
  | [] => 0
  | x :: r => uptoBulkEntry x + uptoBulkEntries r
def uptoBulkEntry {H : Type} : Lit × DataW H → Nat
  | (.string bytes, d) => bytes.length + uptoBulk d + 1
  | (_, d) => uptoBulk d + 1
 end
def uptoSmall : (H : Type) → List (DataW H) → Bool := fun _ ds => decide (uptoBulkAll ds ≤ 1048576)
def OpenSpec.upto (s : _root_.Go.ChangeSpec) : _root_.Go.OpenSpec := { _root_.Go.OpenSpec.ofChange s with cond := some uptoSmall }

/-- 'laws.FnExactOrderLeft', WHERE WHAT IT READS IS OF BULK AT MOST 1048576: true; the input reads as it did. -/
def fnExactOrderLeftUptoRow : OpenClaim := { program := "yteallnkaapdifaa", sum := "dcb79ef17f639081b10d5b5d919c97da5f2b8e1a8bdb0fab0eb2d87af38abe52", func := "loop.example/floorrooms/laws.FnExactOrderLeft", spec := "fnExactOrderLeft", unfollowed := true, recurses := true, plainKeys := false, apart := false, narrowed := true }
def FnExactOrderLeftUptoSaid : Prop := fnExactOrderLeftUptoRow.holds Try.pinned (OpenSpec.upto fnExactOrderLeftSpec)

/-- 'laws.FnExactOrderAbove', WHERE WHAT IT READS IS OF BULK AT MOST 1048576: true; the input reads as it did. -/
def fnExactOrderAboveUptoRow : OpenClaim := { program := "yteallnkaapdifaa", sum := "dcb79ef17f639081b10d5b5d919c97da5f2b8e1a8bdb0fab0eb2d87af38abe52", func := "loop.example/floorrooms/laws.FnExactOrderAbove", spec := "fnExactOrderAbove", unfollowed := true, recurses := true, plainKeys := false, apart := false, narrowed := true }
def FnExactOrderAboveUptoSaid : Prop := fnExactOrderAboveUptoRow.holds Try.pinned (OpenSpec.upto fnExactOrderAboveSpec)

/-- 'laws.FnExactOrderKind', WHERE WHAT IT READS IS OF BULK AT MOST 1048576: true; the input reads as it did. -/
def fnExactOrderKindUptoRow : OpenClaim := { program := "yteallnkaapdifaa", sum := "dcb79ef17f639081b10d5b5d919c97da5f2b8e1a8bdb0fab0eb2d87af38abe52", func := "loop.example/floorrooms/laws.FnExactOrderKind", spec := "fnExactOrderKind", unfollowed := true, recurses := true, plainKeys := false, apart := false, narrowed := true }
def FnExactOrderKindUptoSaid : Prop := fnExactOrderKindUptoRow.holds Try.pinned (OpenSpec.upto fnExactOrderKindSpec)

/-- 'laws.FnExactOrderFirst', WHERE WHAT IT READS IS OF BULK AT MOST 1048576: true; the input reads as it did. -/
def fnExactOrderFirstUptoRow : OpenClaim := { program := "yteallnkaapdifaa", sum := "dcb79ef17f639081b10d5b5d919c97da5f2b8e1a8bdb0fab0eb2d87af38abe52", func := "loop.example/floorrooms/laws.FnExactOrderFirst", spec := "fnExactOrderFirst", unfollowed := true, recurses := true, plainKeys := false, apart := false, narrowed := true }
def FnExactOrderFirstUptoSaid : Prop := fnExactOrderFirstUptoRow.holds Try.pinned (OpenSpec.upto fnExactOrderFirstSpec)

/-- 'laws.FnExactOrderSecond', WHERE WHAT IT READS IS OF BULK AT MOST 1048576: true; the input reads as it did. -/
def fnExactOrderSecondUptoRow : OpenClaim := { program := "yteallnkaapdifaa", sum := "dcb79ef17f639081b10d5b5d919c97da5f2b8e1a8bdb0fab0eb2d87af38abe52", func := "loop.example/floorrooms/laws.FnExactOrderSecond", spec := "fnExactOrderSecond", unfollowed := true, recurses := true, plainKeys := false, apart := false, narrowed := true }
def FnExactOrderSecondUptoSaid : Prop := fnExactOrderSecondUptoRow.holds Try.pinned (OpenSpec.upto fnExactOrderSecondSpec)

/-- 'laws.FnExactOrderPerm', WHERE WHAT IT READS IS OF BULK AT MOST 1048576: true; the input reads as it did. -/
def fnExactOrderPermUptoRow : OpenClaim := { program := "yteallnkaapdifaa", sum := "dcb79ef17f639081b10d5b5d919c97da5f2b8e1a8bdb0fab0eb2d87af38abe52", func := "loop.example/floorrooms/laws.FnExactOrderPerm", spec := "fnExactOrderPerm", unfollowed := true, recurses := true, plainKeys := false, apart := false, narrowed := true }
def FnExactOrderPermUptoSaid : Prop := fnExactOrderPermUptoRow.holds Try.pinned (OpenSpec.upto fnExactOrderPermSpec)

/-- 'laws.FnExactOrderSame', WHERE WHAT IT READS IS OF BULK AT MOST 1048576: true; the input reads as it did. -/
def fnExactOrderSameUptoRow : OpenClaim := { program := "yteallnkaapdifaa", sum := "dcb79ef17f639081b10d5b5d919c97da5f2b8e1a8bdb0fab0eb2d87af38abe52", func := "loop.example/floorrooms/laws.FnExactOrderSame", spec := "fnExactOrderSame", unfollowed := true, recurses := true, plainKeys := false, apart := false, narrowed := true }
def FnExactOrderSameUptoSaid : Prop := fnExactOrderSameUptoRow.holds Try.pinned (OpenSpec.upto fnExactOrderSameSpec)

/-- 'laws.FnExactOrderLong', WHERE WHAT IT READS IS OF BULK AT MOST 1048576: true; the input reads as it did. -/
def fnExactOrderLongUptoRow : OpenClaim := { program := "yteallnkaapdifaa", sum := "dcb79ef17f639081b10d5b5d919c97da5f2b8e1a8bdb0fab0eb2d87af38abe52", func := "loop.example/floorrooms/laws.FnExactOrderLong", spec := "fnExactOrderLong", unfollowed := true, recurses := true, plainKeys := false, apart := false, narrowed := true }
def FnExactOrderLongUptoSaid : Prop := fnExactOrderLongUptoRow.holds Try.pinned (OpenSpec.upto fnExactOrderLongSpec)

end Rows
end Go.Proofs.Yteallnkaapdifaa
