/-
  No cell of these rows narrows 'for every input' (looked for: loops, veiled, ifaces, maps, wideKeys, modest, calm, conditions, laid).
  DERIVED. THE GIVEN ROWS OF THIS SEAT. 5 by the template 'for every input the law returns true; each argument reads behind the call as it read before'; 0 by the template 'total and deterministic' (their statements: YtjcbfijliacicaaTotals.lean).
  GIVEN WITH THE SEED: the statements are not yours to turn. If you find one false, say at which input.
  Laid BY PROGRAM, IN A SANDBOX (cutbox-rows.mjs): the forced cells as the released guide's own fill.sh prints them over the translation 2acd157311ed6d26… (all of the seat's roots in one cut). By AI agents, Wed Nov 11 2026. No macro, syntax, notation, axiom, sorry.
-/
import Derived.Test.YtjcbfijliacicaaChecked
import GoSem.Claim
import GoSem.ClaimJoined
import GoSem.ClaimMapViews
import Derived.JoinedTies
import Derived.KernelRfl
namespace Go.Proofs.Ytjcbfijliacicaa
/- THE CELL 'sum', in the pinned program and in every row, IS THE sha256 OF THE DUMP (.gsa) THAT YtjcbfijliacicaaProg.lean LOADS. Nothing in Lean hashes anything: it is a label: what it is worth is what the hold of that sum in a sandbox is worth. -/
noncomputable def Try.pinned : Pinned := { name := "ytjcbfijliacicaa", sum := "2acd157311ed6d26cec50f8832273855133b7230e8b2fc8ddbb86f3b8b059bbe", checked := Try.checked }
namespace Rows
def none {H : Type} : Left H := { results := [], args := [] }

/-- 'laws.FnMerge': WHATEVER THE INPUT: true; the input reads as it did. -/
def fnMergeSpec : ChangeSpec := { name := "fnMerge", fn := fun _ => fun
  | [d] => { results := [.lit (.bool true)], args := [d] }
  | _ => none }
def fnMergeRow : OpenClaim := { program := "ytjcbfijliacicaa", sum := "2acd157311ed6d26cec50f8832273855133b7230e8b2fc8ddbb86f3b8b059bbe", func := "loop.example/floorrooms/laws.FnMerge", spec := "fnMerge", inPlace := ["slices.overlaps[loop.example/floorrooms/impl.link]"], unfollowed := true, recurses := true, plainKeys := false, apart := false }
def FnMergeSaid : Prop := fnMergeRow.holds Try.pinned (OpenSpec.ofChange fnMergeSpec)

/-- ITS FALSE NEIGHBOUR: 'it returns false'. Refute it at one input. -/
def fnMergeWrong : ChangeSpec := { name := "fnMerge", fn := fun _ => fun
  | [d] => { results := [.lit (.bool false)], args := [d] }
  | _ => none }
def FnMergeWrongFalsely : Prop := fnMergeRow.holds Try.pinned (OpenSpec.ofChange fnMergeWrong)

/-- 'laws.FnSides': WHATEVER THE INPUT: true; the input reads as it did. -/
def fnSidesSpec : ChangeSpec := { name := "fnSides", fn := fun _ => fun
  | [d] => { results := [.lit (.bool true)], args := [d] }
  | _ => none }
def fnSidesRow : OpenClaim := { program := "ytjcbfijliacicaa", sum := "2acd157311ed6d26cec50f8832273855133b7230e8b2fc8ddbb86f3b8b059bbe", func := "loop.example/floorrooms/laws.FnSides", spec := "fnSides", inPlace := ["slices.overlaps[loop.example/floorrooms/impl.link]"], unfollowed := true, recurses := true, plainKeys := false, apart := false }
def FnSidesSaid : Prop := fnSidesRow.holds Try.pinned (OpenSpec.ofChange fnSidesSpec)

/-- ITS FALSE NEIGHBOUR: 'it returns false'. Refute it at one input. -/
def fnSidesWrong : ChangeSpec := { name := "fnSides", fn := fun _ => fun
  | [d] => { results := [.lit (.bool false)], args := [d] }
  | _ => none }
def FnSidesWrongFalsely : Prop := fnSidesRow.holds Try.pinned (OpenSpec.ofChange fnSidesWrong)

/-- 'laws.FnNearLength': WHATEVER THE INPUT: true; the input reads as it did. -/
def fnNearLengthSpec : ChangeSpec := { name := "fnNearLength", fn := fun _ => fun
  | [d] => { results := [.lit (.bool true)], args := [d] }
  | _ => none }
def fnNearLengthRow : OpenClaim := { program := "ytjcbfijliacicaa", sum := "2acd157311ed6d26cec50f8832273855133b7230e8b2fc8ddbb86f3b8b059bbe", func := "loop.example/floorrooms/laws.FnNearLength", spec := "fnNearLength", inPlace := ["slices.overlaps[loop.example/floorrooms/impl.link]"], unfollowed := true, recurses := true, plainKeys := false, apart := false }
def FnNearLengthSaid : Prop := fnNearLengthRow.holds Try.pinned (OpenSpec.ofChange fnNearLengthSpec)

/-- ITS FALSE NEIGHBOUR: 'it returns false'. Refute it at one input. -/
def fnNearLengthWrong : ChangeSpec := { name := "fnNearLength", fn := fun _ => fun
  | [d] => { results := [.lit (.bool false)], args := [d] }
  | _ => none }
def FnNearLengthWrongFalsely : Prop := fnNearLengthRow.holds Try.pinned (OpenSpec.ofChange fnNearLengthWrong)

/-- 'laws.FnNearMany': WHATEVER THE INPUT: true; the input reads as it did. -/
def fnNearManySpec : ChangeSpec := { name := "fnNearMany", fn := fun _ => fun
  | [d] => { results := [.lit (.bool true)], args := [d] }
  | _ => none }
def fnNearManyRow : OpenClaim := { program := "ytjcbfijliacicaa", sum := "2acd157311ed6d26cec50f8832273855133b7230e8b2fc8ddbb86f3b8b059bbe", func := "loop.example/floorrooms/laws.FnNearMany", spec := "fnNearMany", inPlace := ["slices.overlaps[loop.example/floorrooms/impl.link]"], unfollowed := true, recurses := true, plainKeys := false, apart := false }
def FnNearManySaid : Prop := fnNearManyRow.holds Try.pinned (OpenSpec.ofChange fnNearManySpec)

/-- ITS FALSE NEIGHBOUR: 'it returns false'. Refute it at one input. -/
def fnNearManyWrong : ChangeSpec := { name := "fnNearMany", fn := fun _ => fun
  | [d] => { results := [.lit (.bool false)], args := [d] }
  | _ => none }
def FnNearManyWrongFalsely : Prop := fnNearManyRow.holds Try.pinned (OpenSpec.ofChange fnNearManyWrong)

/-- 'laws.FnNearOf': WHATEVER THE INPUT: true; the input reads as it did. -/
def fnNearOfSpec : ChangeSpec := { name := "fnNearOf", fn := fun _ => fun
  | [d] => { results := [.lit (.bool true)], args := [d] }
  | _ => none }
def fnNearOfRow : OpenClaim := { program := "ytjcbfijliacicaa", sum := "2acd157311ed6d26cec50f8832273855133b7230e8b2fc8ddbb86f3b8b059bbe", func := "loop.example/floorrooms/laws.FnNearOf", spec := "fnNearOf", inPlace := ["slices.overlaps[loop.example/floorrooms/impl.link]"], unfollowed := true, recurses := true, plainKeys := false, apart := false }
def FnNearOfSaid : Prop := fnNearOfRow.holds Try.pinned (OpenSpec.ofChange fnNearOfSpec)

/-- ITS FALSE NEIGHBOUR: 'it returns false'. Refute it at one input. -/
def fnNearOfWrong : ChangeSpec := { name := "fnNearOf", fn := fun _ => fun
  | [d] => { results := [.lit (.bool false)], args := [d] }
  | _ => none }
def FnNearOfWrongFalsely : Prop := fnNearOfRow.holds Try.pinned (OpenSpec.ofChange fnNearOfWrong)

/- THE SECOND FORM. 'bulk': how many values and letters a reading holds, each counted each time it is reached (what is shared counts as often as it is met; a slice's spare places count too). A statement '..UptoSaid' is the law's where the arguments, and the package variables that the reading takes, are together of bulk at most 1048576: NARROWER than '..Said'. Prove '..Said' where nothing that the law and all that it calls make is longer than what came in: it says more and counts as full. Else prove '..UptoSaid'. A law counts once. -/
mutual
def uptoBulk {H : Type} : DataW H → Nat
  | .lit (.string bytes) => bytes.length + 1
  | .lit _ => 1
  | .nil => 1
  | .ptr d => uptoBulk d + 1
  | .slice elems spare => uptoBulkAll elems + uptoBulkAll spare + 1
  | .agg parts => uptoBulkAll parts + 1
  | .iface _ d => uptoBulk d + 1
  | .map entries => uptoBulkEntries entries + 1
  | .held _ => 1
def uptoBulkAll {H : Type} : List (DataW H) → Nat
  | [] => 0
  | d :: r => uptoBulk d + uptoBulkAll r
def uptoBulkEntries {H : Type} : List (Lit × DataW H) → Nat
  | [] => 0
  | x :: r => uptoBulkEntry x + uptoBulkEntries r
def uptoBulkEntry {H : Type} : Lit × DataW H → Nat
  | (.string bytes, d) => bytes.length + uptoBulk d + 1
  | (_, d) => uptoBulk d + 1
 end
def uptoSmall : (H : Type) → List (DataW H) → Bool := fun _ ds => decide (uptoBulkAll ds ≤ 1048576)
def OpenSpec.upto (s : _root_.Go.ChangeSpec) : _root_.Go.OpenSpec := { _root_.Go.OpenSpec.ofChange s with cond := some uptoSmall }

/-- 'laws.FnMerge', WHERE WHAT IT READS IS OF BULK AT MOST 1048576: true; the input reads as it did. -/
def fnMergeUptoRow : OpenClaim := { program := "ytjcbfijliacicaa", sum := "2acd157311ed6d26cec50f8832273855133b7230e8b2fc8ddbb86f3b8b059bbe", func := "loop.example/floorrooms/laws.FnMerge", spec := "fnMerge", inPlace := ["slices.overlaps[loop.example/floorrooms/impl.link]"], unfollowed := true, recurses := true, plainKeys := false, apart := false, narrowed := true }
def FnMergeUptoSaid : Prop := fnMergeUptoRow.holds Try.pinned (OpenSpec.upto fnMergeSpec)

/-- 'laws.FnSides', WHERE WHAT IT READS IS OF BULK AT MOST 1048576: true; the input reads as it did. -/
def fnSidesUptoRow : OpenClaim := { program := "ytjcbfijliacicaa", sum := "2acd157311ed6d26cec50f8832273855133b7230e8b2fc8ddbb86f3b8b059bbe", func := "loop.example/floorrooms/laws.FnSides", spec := "fnSides", inPlace := ["slices.overlaps[loop.example/floorrooms/impl.link]"], unfollowed := true, recurses := true, plainKeys := false, apart := false, narrowed := true }
def FnSidesUptoSaid : Prop := fnSidesUptoRow.holds Try.pinned (OpenSpec.upto fnSidesSpec)

/-- 'laws.FnNearLength', WHERE WHAT IT READS IS OF BULK AT MOST 1048576: true; the input reads as it did. -/
def fnNearLengthUptoRow : OpenClaim := { program := "ytjcbfijliacicaa", sum := "2acd157311ed6d26cec50f8832273855133b7230e8b2fc8ddbb86f3b8b059bbe", func := "loop.example/floorrooms/laws.FnNearLength", spec := "fnNearLength", inPlace := ["slices.overlaps[loop.example/floorrooms/impl.link]"], unfollowed := true, recurses := true, plainKeys := false, apart := false, narrowed := true }
def FnNearLengthUptoSaid : Prop := fnNearLengthUptoRow.holds Try.pinned (OpenSpec.upto fnNearLengthSpec)

/-- 'laws.FnNearMany', WHERE WHAT IT READS IS OF BULK AT MOST 1048576: true; the input reads as it did. -/
def fnNearManyUptoRow : OpenClaim := { program := "ytjcbfijliacicaa", sum := "2acd157311ed6d26cec50f8832273855133b7230e8b2fc8ddbb86f3b8b059bbe", func := "loop.example/floorrooms/laws.FnNearMany", spec := "fnNearMany", inPlace := ["slices.overlaps[loop.example/floorrooms/impl.link]"], unfollowed := true, recurses := true, plainKeys := false, apart := false, narrowed := true }
def FnNearManyUptoSaid : Prop := fnNearManyUptoRow.holds Try.pinned (OpenSpec.upto fnNearManySpec)

/-- 'laws.FnNearOf', WHERE WHAT IT READS IS OF BULK AT MOST 1048576: true; the input reads as it did. -/
def fnNearOfUptoRow : OpenClaim := { program := "ytjcbfijliacicaa", sum := "2acd157311ed6d26cec50f8832273855133b7230e8b2fc8ddbb86f3b8b059bbe", func := "loop.example/floorrooms/laws.FnNearOf", spec := "fnNearOf", inPlace := ["slices.overlaps[loop.example/floorrooms/impl.link]"], unfollowed := true, recurses := true, plainKeys := false, apart := false, narrowed := true }
def FnNearOfUptoSaid : Prop := fnNearOfUptoRow.holds Try.pinned (OpenSpec.upto fnNearOfSpec)

end Rows
end Go.Proofs.Ytjcbfijliacicaa
