/-
  No cell of these rows narrows 'for every input' (looked for: loops, veiled, ifaces, maps, wideKeys, modest, calm, conditions, laid).
  DERIVED. THE GIVEN ROWS OF THIS SEAT. 7 by the template 'for every input the law returns true; each argument reads behind the call as it read before'; 0 by the template 'total and deterministic' (their statements: YtcapagegeomebaaTotals.lean).
  GIVEN WITH THE SEED: the statements are not yours to turn. If you find one false, say at which input.
  Laid BY PROGRAM, IN A SANDBOX (cutbox-rows.mjs): the forced cells as the released guide's own fill.sh prints them over the translation 3e4154cef07cc3b9… (all of the seat's roots in one cut). By AI agents, Wed Nov 11 2026. No macro, syntax, notation, axiom, sorry.
-/
import Derived.Test.YtcapagegeomebaaChecked
import GoSem.Claim
import GoSem.ClaimJoined
import GoSem.ClaimMapViews
import Derived.JoinedTies
import Derived.KernelRfl
namespace Go.Proofs.Ytcapagegeomebaa
/- THE CELL 'sum', in the pinned program and in every row, IS THE sha256 OF THE DUMP (.gsa) THAT YtcapagegeomebaaProg.lean LOADS. Nothing in Lean hashes anything: it is a label: what it is worth is what the hold of that sum in a sandbox is worth. -/
noncomputable def Try.pinned : Pinned := { name := "ytcapagegeomebaa", sum := "3e4154cef07cc3b90966f4947814affb7c4598c013997b93ec713dc646699154", checked := Try.checked }
namespace Rows
def none {H : Type} : Left H := { results := [], args := [] }

/-- 'laws.FnLeft': WHATEVER THE INPUT: true; the input reads as it did. -/
def fnLeftSpec : ChangeSpec := { name := "fnLeft", fn := fun _ => fun
  | [d] => { results := [.lit (.bool true)], args := [d] }
  | _ => none }
def fnLeftRow : OpenClaim := { program := "ytcapagegeomebaa", sum := "3e4154cef07cc3b90966f4947814affb7c4598c013997b93ec713dc646699154", func := "loop.example/floorrooms/laws.FnLeft", spec := "fnLeft", unfollowed := true, recurses := true, plainKeys := false, apart := false }
def FnLeftSaid : Prop := fnLeftRow.holds Try.pinned (OpenSpec.ofChange fnLeftSpec)

/-- ITS FALSE NEIGHBOUR: 'it returns false'. Refute it at one input. -/
def fnLeftWrong : ChangeSpec := { name := "fnLeft", fn := fun _ => fun
  | [d] => { results := [.lit (.bool false)], args := [d] }
  | _ => none }
def FnLeftWrongFalsely : Prop := fnLeftRow.holds Try.pinned (OpenSpec.ofChange fnLeftWrong)

/-- 'laws.FnAbove': WHATEVER THE INPUT: true; the input reads as it did. -/
def fnAboveSpec : ChangeSpec := { name := "fnAbove", fn := fun _ => fun
  | [d] => { results := [.lit (.bool true)], args := [d] }
  | _ => none }
def fnAboveRow : OpenClaim := { program := "ytcapagegeomebaa", sum := "3e4154cef07cc3b90966f4947814affb7c4598c013997b93ec713dc646699154", func := "loop.example/floorrooms/laws.FnAbove", spec := "fnAbove", unfollowed := true, recurses := true, plainKeys := false, apart := false }
def FnAboveSaid : Prop := fnAboveRow.holds Try.pinned (OpenSpec.ofChange fnAboveSpec)

/-- ITS FALSE NEIGHBOUR: 'it returns false'. Refute it at one input. -/
def fnAboveWrong : ChangeSpec := { name := "fnAbove", fn := fun _ => fun
  | [d] => { results := [.lit (.bool false)], args := [d] }
  | _ => none }
def FnAboveWrongFalsely : Prop := fnAboveRow.holds Try.pinned (OpenSpec.ofChange fnAboveWrong)

/-- 'laws.FnKind': WHATEVER THE INPUT: true; the input reads as it did. -/
def fnKindSpec : ChangeSpec := { name := "fnKind", fn := fun _ => fun
  | [d] => { results := [.lit (.bool true)], args := [d] }
  | _ => none }
def fnKindRow : OpenClaim := { program := "ytcapagegeomebaa", sum := "3e4154cef07cc3b90966f4947814affb7c4598c013997b93ec713dc646699154", func := "loop.example/floorrooms/laws.FnKind", spec := "fnKind", unfollowed := true, recurses := true, plainKeys := false, apart := false }
def FnKindSaid : Prop := fnKindRow.holds Try.pinned (OpenSpec.ofChange fnKindSpec)

/-- ITS FALSE NEIGHBOUR: 'it returns false'. Refute it at one input. -/
def fnKindWrong : ChangeSpec := { name := "fnKind", fn := fun _ => fun
  | [d] => { results := [.lit (.bool false)], args := [d] }
  | _ => none }
def FnKindWrongFalsely : Prop := fnKindRow.holds Try.pinned (OpenSpec.ofChange fnKindWrong)

/-- 'laws.FnKindPlace': WHATEVER THE INPUT: true; the input reads as it did. -/
def fnKindPlaceSpec : ChangeSpec := { name := "fnKindPlace", fn := fun _ => fun
  | [d] => { results := [.lit (.bool true)], args := [d] }
  | _ => none }
def fnKindPlaceRow : OpenClaim := { program := "ytcapagegeomebaa", sum := "3e4154cef07cc3b90966f4947814affb7c4598c013997b93ec713dc646699154", func := "loop.example/floorrooms/laws.FnKindPlace", spec := "fnKindPlace", unfollowed := true, recurses := true, plainKeys := false, apart := false }
def FnKindPlaceSaid : Prop := fnKindPlaceRow.holds Try.pinned (OpenSpec.ofChange fnKindPlaceSpec)

/-- ITS FALSE NEIGHBOUR: 'it returns false'. Refute it at one input. -/
def fnKindPlaceWrong : ChangeSpec := { name := "fnKindPlace", fn := fun _ => fun
  | [d] => { results := [.lit (.bool false)], args := [d] }
  | _ => none }
def FnKindPlaceWrongFalsely : Prop := fnKindPlaceRow.holds Try.pinned (OpenSpec.ofChange fnKindPlaceWrong)

/-- 'laws.FnFirst': WHATEVER THE INPUT: true; the input reads as it did. -/
def fnFirstSpec : ChangeSpec := { name := "fnFirst", fn := fun _ => fun
  | [d] => { results := [.lit (.bool true)], args := [d] }
  | _ => none }
def fnFirstRow : OpenClaim := { program := "ytcapagegeomebaa", sum := "3e4154cef07cc3b90966f4947814affb7c4598c013997b93ec713dc646699154", func := "loop.example/floorrooms/laws.FnFirst", spec := "fnFirst", unfollowed := true, recurses := true, plainKeys := false, apart := false }
def FnFirstSaid : Prop := fnFirstRow.holds Try.pinned (OpenSpec.ofChange fnFirstSpec)

/-- ITS FALSE NEIGHBOUR: 'it returns false'. Refute it at one input. -/
def fnFirstWrong : ChangeSpec := { name := "fnFirst", fn := fun _ => fun
  | [d] => { results := [.lit (.bool false)], args := [d] }
  | _ => none }
def FnFirstWrongFalsely : Prop := fnFirstRow.holds Try.pinned (OpenSpec.ofChange fnFirstWrong)

/-- 'laws.FnSecond': WHATEVER THE INPUT: true; the input reads as it did. -/
def fnSecondSpec : ChangeSpec := { name := "fnSecond", fn := fun _ => fun
  | [d] => { results := [.lit (.bool true)], args := [d] }
  | _ => none }
def fnSecondRow : OpenClaim := { program := "ytcapagegeomebaa", sum := "3e4154cef07cc3b90966f4947814affb7c4598c013997b93ec713dc646699154", func := "loop.example/floorrooms/laws.FnSecond", spec := "fnSecond", unfollowed := true, recurses := true, plainKeys := false, apart := false }
def FnSecondSaid : Prop := fnSecondRow.holds Try.pinned (OpenSpec.ofChange fnSecondSpec)

/-- ITS FALSE NEIGHBOUR: 'it returns false'. Refute it at one input. -/
def fnSecondWrong : ChangeSpec := { name := "fnSecond", fn := fun _ => fun
  | [d] => { results := [.lit (.bool false)], args := [d] }
  | _ => none }
def FnSecondWrongFalsely : Prop := fnSecondRow.holds Try.pinned (OpenSpec.ofChange fnSecondWrong)

/-- 'laws.FnOrderLong': WHATEVER THE INPUT: true; the input reads as it did. -/
def fnOrderLongSpec : ChangeSpec := { name := "fnOrderLong", fn := fun _ => fun
  | [d] => { results := [.lit (.bool true)], args := [d] }
  | _ => none }
def fnOrderLongRow : OpenClaim := { program := "ytcapagegeomebaa", sum := "3e4154cef07cc3b90966f4947814affb7c4598c013997b93ec713dc646699154", func := "loop.example/floorrooms/laws.FnOrderLong", spec := "fnOrderLong", unfollowed := true, recurses := true, plainKeys := false, apart := false }
def FnOrderLongSaid : Prop := fnOrderLongRow.holds Try.pinned (OpenSpec.ofChange fnOrderLongSpec)

/-- ITS FALSE NEIGHBOUR: 'it returns false'. Refute it at one input. -/
def fnOrderLongWrong : ChangeSpec := { name := "fnOrderLong", fn := fun _ => fun
  | [d] => { results := [.lit (.bool false)], args := [d] }
  | _ => none }
def FnOrderLongWrongFalsely : Prop := fnOrderLongRow.holds Try.pinned (OpenSpec.ofChange fnOrderLongWrong)

/- THE SECOND FORM. 'bulk': how many values and letters a reading holds, each counted each time it is reached (what is shared counts as often as it is met; a slice's spare places count too). A statement '..UptoSaid' is the law's where the arguments, and the package variables that the reading takes, are together of bulk at most 1048576: NARROWER than '..Said'. Prove '..Said' where nothing that the law and all that it calls make is longer than what came in: it says more and counts as full. Else prove '..UptoSaid'. A law counts once. -/
mutual
def uptoBulk {H : Type} : DataW H → Nat
  | .lit (.string bytes) => bytes.length + 1
  | .lit _ => 1
  | .nil => 1
  | .ptr d => uptoBulk d + 1
  | .slice elems spare => uptoBulkAll elems + uptoBulkAll spare + 1
  | .agg parts => uptoBulkAll parts + 1
  | .iface _ d => uptoBulk d + 1
  | .map entries => uptoBulkEntries entries + 1
  | .held _ => 1
def uptoBulkAll {H : Type} : List (DataW H) → Nat
  | [] => 0
  | d :: r => uptoBulk d + uptoBulkAll r
def uptoBulkEntries {H : Type} : List (Lit × DataW H) → Nat
  | [] => 0
  | x :: r => uptoBulkEntry x + uptoBulkEntries r
def uptoBulkEntry {H : Type} : Lit × DataW H → Nat
  | (.string bytes, d) => bytes.length + uptoBulk d + 1
  | (_, d) => uptoBulk d + 1
 end
def uptoSmall : (H : Type) → List (DataW H) → Bool := fun _ ds => decide (uptoBulkAll ds ≤ 1048576)
def OpenSpec.upto (s : _root_.Go.ChangeSpec) : _root_.Go.OpenSpec := { _root_.Go.OpenSpec.ofChange s with cond := some uptoSmall }

/-- 'laws.FnLeft', WHERE WHAT IT READS IS OF BULK AT MOST 1048576: true; the input reads as it did. -/
def fnLeftUptoRow : OpenClaim := { program := "ytcapagegeomebaa", sum := "3e4154cef07cc3b90966f4947814affb7c4598c013997b93ec713dc646699154", func := "loop.example/floorrooms/laws.FnLeft", spec := "fnLeft", unfollowed := true, recurses := true, plainKeys := false, apart := false, narrowed := true }
def FnLeftUptoSaid : Prop := fnLeftUptoRow.holds Try.pinned (OpenSpec.upto fnLeftSpec)

/-- 'laws.FnAbove', WHERE WHAT IT READS IS OF BULK AT MOST 1048576: true; the input reads as it did. -/
def fnAboveUptoRow : OpenClaim := { program := "ytcapagegeomebaa", sum := "3e4154cef07cc3b90966f4947814affb7c4598c013997b93ec713dc646699154", func := "loop.example/floorrooms/laws.FnAbove", spec := "fnAbove", unfollowed := true, recurses := true, plainKeys := false, apart := false, narrowed := true }
def FnAboveUptoSaid : Prop := fnAboveUptoRow.holds Try.pinned (OpenSpec.upto fnAboveSpec)

/-- 'laws.FnKind', WHERE WHAT IT READS IS OF BULK AT MOST 1048576: true; the input reads as it did. -/
def fnKindUptoRow : OpenClaim := { program := "ytcapagegeomebaa", sum := "3e4154cef07cc3b90966f4947814affb7c4598c013997b93ec713dc646699154", func := "loop.example/floorrooms/laws.FnKind", spec := "fnKind", unfollowed := true, recurses := true, plainKeys := false, apart := false, narrowed := true }
def FnKindUptoSaid : Prop := fnKindUptoRow.holds Try.pinned (OpenSpec.upto fnKindSpec)

/-- 'laws.FnKindPlace', WHERE WHAT IT READS IS OF BULK AT MOST 1048576: true; the input reads as it did. -/
def fnKindPlaceUptoRow : OpenClaim := { program := "ytcapagegeomebaa", sum := "3e4154cef07cc3b90966f4947814affb7c4598c013997b93ec713dc646699154", func := "loop.example/floorrooms/laws.FnKindPlace", spec := "fnKindPlace", unfollowed := true, recurses := true, plainKeys := false, apart := false, narrowed := true }
def FnKindPlaceUptoSaid : Prop := fnKindPlaceUptoRow.holds Try.pinned (OpenSpec.upto fnKindPlaceSpec)

/-- 'laws.FnFirst', WHERE WHAT IT READS IS OF BULK AT MOST 1048576: true; the input reads as it did. -/
def fnFirstUptoRow : OpenClaim := { program := "ytcapagegeomebaa", sum := "3e4154cef07cc3b90966f4947814affb7c4598c013997b93ec713dc646699154", func := "loop.example/floorrooms/laws.FnFirst", spec := "fnFirst", unfollowed := true, recurses := true, plainKeys := false, apart := false, narrowed := true }
def FnFirstUptoSaid : Prop := fnFirstUptoRow.holds Try.pinned (OpenSpec.upto fnFirstSpec)

/-- 'laws.FnSecond', WHERE WHAT IT READS IS OF BULK AT MOST 1048576: true; the input reads as it did. -/
def fnSecondUptoRow : OpenClaim := { program := "ytcapagegeomebaa", sum := "3e4154cef07cc3b90966f4947814affb7c4598c013997b93ec713dc646699154", func := "loop.example/floorrooms/laws.FnSecond", spec := "fnSecond", unfollowed := true, recurses := true, plainKeys := false, apart := false, narrowed := true }
def FnSecondUptoSaid : Prop := fnSecondUptoRow.holds Try.pinned (OpenSpec.upto fnSecondSpec)

/-- 'laws.FnOrderLong', WHERE WHAT IT READS IS OF BULK AT MOST 1048576: true; the input reads as it did. -/
def fnOrderLongUptoRow : OpenClaim := { program := "ytcapagegeomebaa", sum := "3e4154cef07cc3b90966f4947814affb7c4598c013997b93ec713dc646699154", func := "loop.example/floorrooms/laws.FnOrderLong", spec := "fnOrderLong", unfollowed := true, recurses := true, plainKeys := false, apart := false, narrowed := true }
def FnOrderLongUptoSaid : Prop := fnOrderLongUptoRow.holds Try.pinned (OpenSpec.upto fnOrderLongSpec)

end Rows
end Go.Proofs.Ytcapagegeomebaa
