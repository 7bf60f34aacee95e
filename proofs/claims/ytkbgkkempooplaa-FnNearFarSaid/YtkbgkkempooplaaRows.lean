/-
  No cell of these rows narrows 'for every input' (looked for: loops, veiled, ifaces, maps, wideKeys, modest, calm, conditions, laid).
  DERIVED. THE GIVEN ROWS OF THIS SEAT. 4 by the template 'for every input the law returns true; each argument reads behind the call as it read before'; 0 by the template 'total and deterministic' (their statements: YtkbgkkempooplaaTotals.lean).
  GIVEN WITH THE SEED: the statements are not yours to turn. If you find one false, say at which input.
  Laid BY PROGRAM, IN A SANDBOX (cutbox-rows.mjs): the forced cells as the released guide's own fill.sh prints them over the translation 7cfbe961793165aa… (all of the seat's roots in one cut). By AI agents, Wed Nov 11 2026. No macro, syntax, notation, axiom, sorry.
-/
import Derived.Test.YtkbgkkempooplaaChecked
import GoSem.Claim
import GoSem.ClaimJoined
import GoSem.ClaimMapViews
import Derived.JoinedTies
import Derived.KernelRfl
namespace Go.Proofs.Ytkbgkkempooplaa
/- THE CELL 'sum', in the pinned program and in every row, IS THE sha256 OF THE DUMP (.gsa) THAT YtkbgkkempooplaaProg.lean LOADS. Nothing in Lean hashes anything: it is a label: what it is worth is what the hold of that sum in a sandbox is worth. -/
noncomputable def Try.pinned : Pinned := { name := "ytkbgkkempooplaa", sum := "7cfbe961793165aadfb21c06a0b27c50522a237695c0fafae0da7621703e2347", checked := Try.checked }
namespace Rows
def none {H : Type} : Left H := { results := [], args := [] }

/-- 'laws.FnNear': WHATEVER THE INPUT: true; the input reads as it did. -/
def fnNearSpec : ChangeSpec := { name := "fnNear", fn := fun _ => fun
  | [d] => { results := [.lit (.bool true)], args := [d] }
  | _ => none }
def fnNearRow : OpenClaim := { program := "ytkbgkkempooplaa", sum := "7cfbe961793165aadfb21c06a0b27c50522a237695c0fafae0da7621703e2347", func := "loop.example/floorrooms/laws.FnNear", spec := "fnNear", inPlace := ["slices.overlaps[loop.example/floorrooms/impl.link]"], unfollowed := true, recurses := true, apart := false }
def FnNearSaid : Prop := fnNearRow.holds Try.pinned (OpenSpec.ofChange fnNearSpec)

/-- ITS FALSE NEIGHBOUR: 'it returns false'. Refute it at one input. -/
def fnNearWrong : ChangeSpec := { name := "fnNear", fn := fun _ => fun
  | [d] => { results := [.lit (.bool false)], args := [d] }
  | _ => none }
def FnNearWrongFalsely : Prop := fnNearRow.holds Try.pinned (OpenSpec.ofChange fnNearWrong)

/-- 'laws.FnNearWay': WHATEVER THE INPUT: true; the input reads as it did. -/
def fnNearWaySpec : ChangeSpec := { name := "fnNearWay", fn := fun _ => fun
  | [d] => { results := [.lit (.bool true)], args := [d] }
  | _ => none }
def fnNearWayRow : OpenClaim := { program := "ytkbgkkempooplaa", sum := "7cfbe961793165aadfb21c06a0b27c50522a237695c0fafae0da7621703e2347", func := "loop.example/floorrooms/laws.FnNearWay", spec := "fnNearWay", inPlace := ["slices.overlaps[loop.example/floorrooms/impl.link]"], unfollowed := true, recurses := true, apart := false }
def FnNearWaySaid : Prop := fnNearWayRow.holds Try.pinned (OpenSpec.ofChange fnNearWaySpec)

/-- ITS FALSE NEIGHBOUR: 'it returns false'. Refute it at one input. -/
def fnNearWayWrong : ChangeSpec := { name := "fnNearWay", fn := fun _ => fun
  | [d] => { results := [.lit (.bool false)], args := [d] }
  | _ => none }
def FnNearWayWrongFalsely : Prop := fnNearWayRow.holds Try.pinned (OpenSpec.ofChange fnNearWayWrong)

/-- 'laws.FnNearFar': WHATEVER THE INPUT: true; the input reads as it did. -/
def fnNearFarSpec : ChangeSpec := { name := "fnNearFar", fn := fun _ => fun
  | [d] => { results := [.lit (.bool true)], args := [d] }
  | _ => none }
def fnNearFarRow : OpenClaim := { program := "ytkbgkkempooplaa", sum := "7cfbe961793165aadfb21c06a0b27c50522a237695c0fafae0da7621703e2347", func := "loop.example/floorrooms/laws.FnNearFar", spec := "fnNearFar", inPlace := ["slices.overlaps[loop.example/floorrooms/impl.link]"], unfollowed := true, recurses := true, apart := false }
def FnNearFarSaid : Prop := fnNearFarRow.holds Try.pinned (OpenSpec.ofChange fnNearFarSpec)

/-- ITS FALSE NEIGHBOUR: 'it returns false'. Refute it at one input. -/
def fnNearFarWrong : ChangeSpec := { name := "fnNearFar", fn := fun _ => fun
  | [d] => { results := [.lit (.bool false)], args := [d] }
  | _ => none }
def FnNearFarWrongFalsely : Prop := fnNearFarRow.holds Try.pinned (OpenSpec.ofChange fnNearFarWrong)

/-- 'laws.FnNearFirst': WHATEVER THE INPUT: true; the input reads as it did. -/
def fnNearFirstSpec : ChangeSpec := { name := "fnNearFirst", fn := fun _ => fun
  | [d] => { results := [.lit (.bool true)], args := [d] }
  | _ => none }
def fnNearFirstRow : OpenClaim := { program := "ytkbgkkempooplaa", sum := "7cfbe961793165aadfb21c06a0b27c50522a237695c0fafae0da7621703e2347", func := "loop.example/floorrooms/laws.FnNearFirst", spec := "fnNearFirst", inPlace := ["slices.overlaps[loop.example/floorrooms/impl.link]"], unfollowed := true, recurses := true, apart := false }
def FnNearFirstSaid : Prop := fnNearFirstRow.holds Try.pinned (OpenSpec.ofChange fnNearFirstSpec)

/-- ITS FALSE NEIGHBOUR: 'it returns false'. Refute it at one input. -/
def fnNearFirstWrong : ChangeSpec := { name := "fnNearFirst", fn := fun _ => fun
  | [d] => { results := [.lit (.bool false)], args := [d] }
  | _ => none }
def FnNearFirstWrongFalsely : Prop := fnNearFirstRow.holds Try.pinned (OpenSpec.ofChange fnNearFirstWrong)

/- THE SECOND FORM. 'bulk': how many values and letters a reading holds, each counted each time it is reached (what is shared counts as often as it is met; a slice's spare places count too). A statement '..UptoSaid' is the law's where the arguments, and the package variables that the reading takes, are together of bulk at most 1048576: NARROWER than '..Said'. Prove '..Said' where nothing that the law and all that it calls make is longer than what came in: it says more and counts as full. Else prove '..UptoSaid'. A law counts once. -/
mutual
def uptoBulk {H : Type} : DataW H → Nat
  | .lit (.string bytes) => bytes.length + 1
  | .lit _ => 1
  | .nil => 1
  | .ptr d => uptoBulk d + 1
  | .slice elems spare => uptoBulkAll elems + uptoBulkAll spare + 1
  | .agg parts => uptoBulkAll parts + 1
  | .iface _ d => uptoBulk d + 1
  | .map entries => uptoBulkEntries entries + 1
  | .held _ => 1
def uptoBulkAll {H : Type} : List (DataW H) → Nat
  | [] => 0
  | d :: r => uptoBulk d + uptoBulkAll r
def uptoBulkEntries {H : Type} : List (Lit × DataW H) → Nat
  | [] => 0
  | x :: r => uptoBulkEntry x + uptoBulkEntries r
def uptoBulkEntry {H : Type} : Lit × DataW H → Nat
  | (.string bytes, d) => bytes.length + uptoBulk d + 1
  | (_, d) => uptoBulk d + 1
 end
def uptoSmall : (H : Type) → List (DataW H) → Bool := fun _ ds => decide (uptoBulkAll ds ≤ 1048576)
def OpenSpec.upto (s : _root_.Go.ChangeSpec) : _root_.Go.OpenSpec := { _root_.Go.OpenSpec.ofChange s with cond := some uptoSmall }

/-- 'laws.FnNear', WHERE WHAT IT READS IS OF BULK AT MOST 1048576: true; the input reads as it did. -/
def fnNearUptoRow : OpenClaim := { program := "ytkbgkkempooplaa", sum := "7cfbe961793165aadfb21c06a0b27c50522a237695c0fafae0da7621703e2347", func := "loop.example/floorrooms/laws.FnNear", spec := "fnNear", inPlace := ["slices.overlaps[loop.example/floorrooms/impl.link]"], unfollowed := true, recurses := true, apart := false, narrowed := true }
def FnNearUptoSaid : Prop := fnNearUptoRow.holds Try.pinned (OpenSpec.upto fnNearSpec)

/-- 'laws.FnNearWay', WHERE WHAT IT READS IS OF BULK AT MOST 1048576: true; the input reads as it did. -/
def fnNearWayUptoRow : OpenClaim := { program := "ytkbgkkempooplaa", sum := "7cfbe961793165aadfb21c06a0b27c50522a237695c0fafae0da7621703e2347", func := "loop.example/floorrooms/laws.FnNearWay", spec := "fnNearWay", inPlace := ["slices.overlaps[loop.example/floorrooms/impl.link]"], unfollowed := true, recurses := true, apart := false, narrowed := true }
def FnNearWayUptoSaid : Prop := fnNearWayUptoRow.holds Try.pinned (OpenSpec.upto fnNearWaySpec)

/-- 'laws.FnNearFar', WHERE WHAT IT READS IS OF BULK AT MOST 1048576: true; the input reads as it did. -/
def fnNearFarUptoRow : OpenClaim := { program := "ytkbgkkempooplaa", sum := "7cfbe961793165aadfb21c06a0b27c50522a237695c0fafae0da7621703e2347", func := "loop.example/floorrooms/laws.FnNearFar", spec := "fnNearFar", inPlace := ["slices.overlaps[loop.example/floorrooms/impl.link]"], unfollowed := true, recurses := true, apart := false, narrowed := true }
def FnNearFarUptoSaid : Prop := fnNearFarUptoRow.holds Try.pinned (OpenSpec.upto fnNearFarSpec)

/-- 'laws.FnNearFirst', WHERE WHAT IT READS IS OF BULK AT MOST 1048576: true; the input reads as it did. -/
def fnNearFirstUptoRow : OpenClaim := { program := "ytkbgkkempooplaa", sum := "7cfbe961793165aadfb21c06a0b27c50522a237695c0fafae0da7621703e2347", func := "loop.example/floorrooms/laws.FnNearFirst", spec := "fnNearFirst", inPlace := ["slices.overlaps[loop.example/floorrooms/impl.link]"], unfollowed := true, recurses := true, apart := false, narrowed := true }
def FnNearFirstUptoSaid : Prop := fnNearFirstUptoRow.holds Try.pinned (OpenSpec.upto fnNearFirstSpec)

end Rows
end Go.Proofs.Ytkbgkkempooplaa
