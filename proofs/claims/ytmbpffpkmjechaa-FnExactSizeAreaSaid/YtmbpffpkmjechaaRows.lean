/-
  No cell of these rows narrows 'for every input' (looked for: loops, veiled, ifaces, maps, wideKeys, modest, calm, conditions, laid).
  DERIVED. THE GIVEN ROWS OF THIS SEAT. 5 by the template 'for every input the law returns true; each argument reads behind the call as it read before'; 0 by the template 'total and deterministic' (their statements: YtmbpffpkmjechaaTotals.lean).
  GIVEN WITH THE SEED: the statements are not yours to turn. If you find one false, say at which input.
  Laid BY PROGRAM, IN A SANDBOX (cutbox-rows.mjs): the forced cells as the released guide's own fill.sh prints them over the translation a4ea435805f69bf9… (all of the seat's roots in one cut). By AI agents, Wed Nov 11 2026. No macro, syntax, notation, axiom, sorry.
-/
import Derived.Test.YtmbpffpkmjechaaChecked
import GoSem.Claim
import GoSem.ClaimJoined
import GoSem.ClaimMapViews
import Derived.JoinedTies
import Derived.KernelRfl
namespace Go.Proofs.Ytmbpffpkmjechaa
/- THE CELL 'sum', in the pinned program and in every row, IS THE sha256 OF THE DUMP (.gsa) THAT YtmbpffpkmjechaaProg.lean LOADS. Nothing in Lean hashes anything: it is a label: what it is worth is what the hold of that sum in a sandbox is worth. -/
noncomputable def Try.pinned : Pinned := { name := "ytmbpffpkmjechaa", sum := "a4ea435805f69bf97262b1ecb439caf25be6ec2eb074c118395e5296f2b84fa0", checked := Try.checked }
namespace Rows
def none {H : Type} : Left H := { results := [], args := [] }

/-- 'laws.FnExactSizeWide': WHATEVER THE INPUT: true; the input reads as it did. -/
def fnExactSizeWideSpec : ChangeSpec := { name := "fnExactSizeWide", fn := fun _ => fun
  | [d1, d2] => { results := [.lit (.bool true)], args := [d1, d2] }
  | _ => none }
def fnExactSizeWideRow : OpenClaim := { program := "ytmbpffpkmjechaa", sum := "a4ea435805f69bf97262b1ecb439caf25be6ec2eb074c118395e5296f2b84fa0", func := "loop.example/floorrooms/laws.FnExactSizeWide", spec := "fnExactSizeWide", unfollowed := true, recurses := true, plainKeys := false, apart := false }
def FnExactSizeWideSaid : Prop := fnExactSizeWideRow.holds Try.pinned (OpenSpec.ofChange fnExactSizeWideSpec)

/-- ITS FALSE NEIGHBOUR: 'it returns false'. Refute it at one input. -/
def fnExactSizeWideWrong : ChangeSpec := { name := "fnExactSizeWide", fn := fun _ => fun
  | [d1, d2] => { results := [.lit (.bool false)], args := [d1, d2] }
  | _ => none }
def FnExactSizeWideWrongFalsely : Prop := fnExactSizeWideRow.holds Try.pinned (OpenSpec.ofChange fnExactSizeWideWrong)

/-- 'laws.FnExactSizeHigh': WHATEVER THE INPUT: true; the input reads as it did. -/
def fnExactSizeHighSpec : ChangeSpec := { name := "fnExactSizeHigh", fn := fun _ => fun
  | [d1, d2] => { results := [.lit (.bool true)], args := [d1, d2] }
  | _ => none }
def fnExactSizeHighRow : OpenClaim := { program := "ytmbpffpkmjechaa", sum := "a4ea435805f69bf97262b1ecb439caf25be6ec2eb074c118395e5296f2b84fa0", func := "loop.example/floorrooms/laws.FnExactSizeHigh", spec := "fnExactSizeHigh", unfollowed := true, recurses := true, plainKeys := false, apart := false }
def FnExactSizeHighSaid : Prop := fnExactSizeHighRow.holds Try.pinned (OpenSpec.ofChange fnExactSizeHighSpec)

/-- ITS FALSE NEIGHBOUR: 'it returns false'. Refute it at one input. -/
def fnExactSizeHighWrong : ChangeSpec := { name := "fnExactSizeHigh", fn := fun _ => fun
  | [d1, d2] => { results := [.lit (.bool false)], args := [d1, d2] }
  | _ => none }
def FnExactSizeHighWrongFalsely : Prop := fnExactSizeHighRow.holds Try.pinned (OpenSpec.ofChange fnExactSizeHighWrong)

/-- 'laws.FnExactSizePlaces': WHATEVER THE INPUT: true; the input reads as it did. -/
def fnExactSizePlacesSpec : ChangeSpec := { name := "fnExactSizePlaces", fn := fun _ => fun
  | [d1, d2] => { results := [.lit (.bool true)], args := [d1, d2] }
  | _ => none }
def fnExactSizePlacesRow : OpenClaim := { program := "ytmbpffpkmjechaa", sum := "a4ea435805f69bf97262b1ecb439caf25be6ec2eb074c118395e5296f2b84fa0", func := "loop.example/floorrooms/laws.FnExactSizePlaces", spec := "fnExactSizePlaces", unfollowed := true, recurses := true, plainKeys := false, apart := false }
def FnExactSizePlacesSaid : Prop := fnExactSizePlacesRow.holds Try.pinned (OpenSpec.ofChange fnExactSizePlacesSpec)

/-- ITS FALSE NEIGHBOUR: 'it returns false'. Refute it at one input. -/
def fnExactSizePlacesWrong : ChangeSpec := { name := "fnExactSizePlaces", fn := fun _ => fun
  | [d1, d2] => { results := [.lit (.bool false)], args := [d1, d2] }
  | _ => none }
def FnExactSizePlacesWrongFalsely : Prop := fnExactSizePlacesRow.holds Try.pinned (OpenSpec.ofChange fnExactSizePlacesWrong)

/-- 'laws.FnExactSizeSlack': WHATEVER THE INPUT: true; the input reads as it did. -/
def fnExactSizeSlackSpec : ChangeSpec := { name := "fnExactSizeSlack", fn := fun _ => fun
  | [d1, d2] => { results := [.lit (.bool true)], args := [d1, d2] }
  | _ => none }
def fnExactSizeSlackRow : OpenClaim := { program := "ytmbpffpkmjechaa", sum := "a4ea435805f69bf97262b1ecb439caf25be6ec2eb074c118395e5296f2b84fa0", func := "loop.example/floorrooms/laws.FnExactSizeSlack", spec := "fnExactSizeSlack", unfollowed := true, recurses := true, plainKeys := false, apart := false }
def FnExactSizeSlackSaid : Prop := fnExactSizeSlackRow.holds Try.pinned (OpenSpec.ofChange fnExactSizeSlackSpec)

/-- ITS FALSE NEIGHBOUR: 'it returns false'. Refute it at one input. -/
def fnExactSizeSlackWrong : ChangeSpec := { name := "fnExactSizeSlack", fn := fun _ => fun
  | [d1, d2] => { results := [.lit (.bool false)], args := [d1, d2] }
  | _ => none }
def FnExactSizeSlackWrongFalsely : Prop := fnExactSizeSlackRow.holds Try.pinned (OpenSpec.ofChange fnExactSizeSlackWrong)

/-- 'laws.FnExactSizeArea': WHATEVER THE INPUT: true; the input reads as it did. -/
def fnExactSizeAreaSpec : ChangeSpec := { name := "fnExactSizeArea", fn := fun _ => fun
  | [d1, d2, d3] => { results := [.lit (.bool true)], args := [d1, d2, d3] }
  | _ => none }
def fnExactSizeAreaRow : OpenClaim := { program := "ytmbpffpkmjechaa", sum := "a4ea435805f69bf97262b1ecb439caf25be6ec2eb074c118395e5296f2b84fa0", func := "loop.example/floorrooms/laws.FnExactSizeArea", spec := "fnExactSizeArea", unfollowed := true, recurses := true, plainKeys := false, apart := false }
def FnExactSizeAreaSaid : Prop := fnExactSizeAreaRow.holds Try.pinned (OpenSpec.ofChange fnExactSizeAreaSpec)

/-- ITS FALSE NEIGHBOUR: 'it returns false'. Refute it at one input. -/
def fnExactSizeAreaWrong : ChangeSpec := { name := "fnExactSizeArea", fn := fun _ => fun
  | [d1, d2, d3] => { results := [.lit (.bool false)], args := [d1, d2, d3] }
  | _ => none }
def FnExactSizeAreaWrongFalsely : Prop := fnExactSizeAreaRow.holds Try.pinned (OpenSpec.ofChange fnExactSizeAreaWrong)

/- THE SECOND FORM. 'bulk': how many values and letters a reading holds, each counted each time it is reached (what is shared counts as often as it is met; a slice's spare places count too). A statement '..UptoSaid' is the law's where the arguments, and the package variables that the reading takes, are together of bulk at most 1048576: NARROWER than '..Said'. Prove '..Said' where nothing that the law and all that it calls make is longer than what came in: it says more and counts as full. Else prove '..UptoSaid'. A law counts once. -/
mutual
def uptoBulk {H : Type} : DataW H → Nat
  | .lit (.string bytes) => bytes.length + 1
  | .lit _ => 1
  | .nil => 1
  | .ptr d => uptoBulk d + 1
  | .slice elems spare => uptoBulkAll elems + uptoBulkAll spare + 1
  | .agg parts => uptoBulkAll parts + 1
  | .iface _ d => uptoBulk d + 1
  | .map entries => uptoBulkEntries entries + 1
  | .held _ => 1
def uptoBulkAll {H : Type} : List (DataW H) → Nat
  | [] => 0
  | d :: r => uptoBulk d + uptoBulkAll r
def uptoBulkEntries {H : Type} : List (Lit × DataW H) → Nat
  | [] => 0
  | x :: r => uptoBulkEntry x + uptoBulkEntries r
def uptoBulkEntry {H : Type} : Lit × DataW H → Nat
  | (.string bytes, d) => bytes.length + uptoBulk d + 1
  | (_, d) => uptoBulk d + 1
 end
def uptoSmall : (H : Type) → List (DataW H) → Bool := fun _ ds => decide (uptoBulkAll ds ≤ 1048576)
def OpenSpec.upto (s : _root_.Go.ChangeSpec) : _root_.Go.OpenSpec := { _root_.Go.OpenSpec.ofChange s with cond := some uptoSmall }

/-- 'laws.FnExactSizeWide', WHERE WHAT IT READS IS OF BULK AT MOST 1048576: true; the input reads as it did. -/
def fnExactSizeWideUptoRow : OpenClaim := { program := "ytmbpffpkmjechaa", sum := "a4ea435805f69bf97262b1ecb439caf25be6ec2eb074c118395e5296f2b84fa0", func := "loop.example/floorrooms/laws.FnExactSizeWide", spec := "fnExactSizeWide", unfollowed := true, recurses := true, plainKeys := false, apart := false, narrowed := true }
def FnExactSizeWideUptoSaid : Prop := fnExactSizeWideUptoRow.holds Try.pinned (OpenSpec.upto fnExactSizeWideSpec)

/-- 'laws.FnExactSizeHigh', WHERE WHAT IT READS IS OF BULK AT MOST 1048576: true; the input reads as it did. -/
def fnExactSizeHighUptoRow : OpenClaim := { program := "ytmbpffpkmjechaa", sum := "a4ea435805f69bf97262b1ecb439caf25be6ec2eb074c118395e5296f2b84fa0", func := "loop.example/floorrooms/laws.FnExactSizeHigh", spec := "fnExactSizeHigh", unfollowed := true, recurses := true, plainKeys := false, apart := false, narrowed := true }
def FnExactSizeHighUptoSaid : Prop := fnExactSizeHighUptoRow.holds Try.pinned (OpenSpec.upto fnExactSizeHighSpec)

/-- 'laws.FnExactSizePlaces', WHERE WHAT IT READS IS OF BULK AT MOST 1048576: true; the input reads as it did. -/
def fnExactSizePlacesUptoRow : OpenClaim := { program := "ytmbpffpkmjechaa", sum := "a4ea435805f69bf97262b1ecb439caf25be6ec2eb074c118395e5296f2b84fa0", func := "loop.example/floorrooms/laws.FnExactSizePlaces", spec := "fnExactSizePlaces", unfollowed := true, recurses := true, plainKeys := false, apart := false, narrowed := true }
def FnExactSizePlacesUptoSaid : Prop := fnExactSizePlacesUptoRow.holds Try.pinned (OpenSpec.upto fnExactSizePlacesSpec)

/-- 'laws.FnExactSizeSlack', WHERE WHAT IT READS IS OF BULK AT MOST 1048576: true; the input reads as it did. -/
def fnExactSizeSlackUptoRow : OpenClaim := { program := "ytmbpffpkmjechaa", sum := "a4ea435805f69bf97262b1ecb439caf25be6ec2eb074c118395e5296f2b84fa0", func := "loop.example/floorrooms/laws.FnExactSizeSlack", spec := "fnExactSizeSlack", unfollowed := true, recurses := true, plainKeys := false, apart := false, narrowed := true }
def FnExactSizeSlackUptoSaid : Prop := fnExactSizeSlackUptoRow.holds Try.pinned (OpenSpec.upto fnExactSizeSlackSpec)

/-- 'laws.FnExactSizeArea', WHERE WHAT IT READS IS OF BULK AT MOST 1048576: true; the input reads as it did. -/
def fnExactSizeAreaUptoRow : OpenClaim := { program := "ytmbpffpkmjechaa", sum := "a4ea435805f69bf97262b1ecb439caf25be6ec2eb074c118395e5296f2b84fa0", func := "loop.example/floorrooms/laws.FnExactSizeArea", spec := "fnExactSizeArea", unfollowed := true, recurses := true, plainKeys := false, apart := false, narrowed := true }
def FnExactSizeAreaUptoSaid : Prop := fnExactSizeAreaUptoRow.holds Try.pinned (OpenSpec.upto fnExactSizeAreaSpec)

end Rows
end Go.Proofs.Ytmbpffpkmjechaa
