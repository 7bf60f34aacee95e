/-
  No cell of these rows narrows 'for every input' (looked for: loops, veiled, ifaces, maps, wideKeys, modest, calm, conditions, laid).
  DERIVED. THE GIVEN ROWS OF THIS SEAT. 4 by the template 'for every input the law returns true; each argument reads behind the call as it read before'; 0 by the template 'total and deterministic' (their statements: YtgiikdcjigcnlaaTotals.lean).
  GIVEN WITH THE SEED: the statements are not yours to turn. If you find one false, say at which input.
  Laid BY PROGRAM, IN A SANDBOX (cutbox-rows.mjs): the forced cells as the released guide's own fill.sh prints them over the translation d380fad953711fdf… (all of the seat's roots in one cut). By AI agents, Wed Nov 11 2026. No macro, syntax, notation, axiom, sorry.
-/
import Derived.Test.YtgiikdcjigcnlaaChecked
import GoSem.Claim
import GoSem.ClaimJoined
import GoSem.ClaimMapViews
import Derived.JoinedTies
import Derived.KernelRfl
namespace Go.Proofs.Ytgiikdcjigcnlaa
/- THE CELL 'sum', in the pinned program and in every row, IS THE sha256 OF THE DUMP (.gsa) THAT YtgiikdcjigcnlaaProg.lean LOADS. Nothing in Lean hashes anything: it is a label: what it is worth is what the hold of that sum in a sandbox is worth. -/
noncomputable def Try.pinned : Pinned := { name := "ytgiikdcjigcnlaa", sum := "d380fad953711fdfd28ee419a262c8c9b4b306efbfd3bcb5728d6c21bb8156d5", checked := Try.checked }
namespace Rows
def none {H : Type} : Left H := { results := [], args := [] }

/-- 'laws.FnExactNearWay': WHATEVER THE INPUT: true; the input reads as it did. -/
def fnExactNearWaySpec : ChangeSpec := { name := "fnExactNearWay", fn := fun _ => fun
  | [d1, d2, d3] => { results := [.lit (.bool true)], args := [d1, d2, d3] }
  | _ => none }
def fnExactNearWayRow : OpenClaim := { program := "ytgiikdcjigcnlaa", sum := "d380fad953711fdfd28ee419a262c8c9b4b306efbfd3bcb5728d6c21bb8156d5", func := "loop.example/floorrooms/laws.FnExactNearWay", spec := "fnExactNearWay", inPlace := ["slices.overlaps[loop.example/floorrooms/impl.link]"], unfollowed := true, recurses := true, apart := false }
def FnExactNearWaySaid : Prop := fnExactNearWayRow.holds Try.pinned (OpenSpec.ofChange fnExactNearWaySpec)

/-- ITS FALSE NEIGHBOUR: 'it returns false'. Refute it at one input. -/
def fnExactNearWayWrong : ChangeSpec := { name := "fnExactNearWay", fn := fun _ => fun
  | [d1, d2, d3] => { results := [.lit (.bool false)], args := [d1, d2, d3] }
  | _ => none }
def FnExactNearWayWrongFalsely : Prop := fnExactNearWayRow.holds Try.pinned (OpenSpec.ofChange fnExactNearWayWrong)

/-- 'laws.FnExactNearFar': WHATEVER THE INPUT: true; the input reads as it did. -/
def fnExactNearFarSpec : ChangeSpec := { name := "fnExactNearFar", fn := fun _ => fun
  | [d] => { results := [.lit (.bool true)], args := [d] }
  | _ => none }
def fnExactNearFarRow : OpenClaim := { program := "ytgiikdcjigcnlaa", sum := "d380fad953711fdfd28ee419a262c8c9b4b306efbfd3bcb5728d6c21bb8156d5", func := "loop.example/floorrooms/laws.FnExactNearFar", spec := "fnExactNearFar", inPlace := ["slices.overlaps[loop.example/floorrooms/impl.link]"], unfollowed := true, recurses := true, apart := false }
def FnExactNearFarSaid : Prop := fnExactNearFarRow.holds Try.pinned (OpenSpec.ofChange fnExactNearFarSpec)

/-- ITS FALSE NEIGHBOUR: 'it returns false'. Refute it at one input. -/
def fnExactNearFarWrong : ChangeSpec := { name := "fnExactNearFar", fn := fun _ => fun
  | [d] => { results := [.lit (.bool false)], args := [d] }
  | _ => none }
def FnExactNearFarWrongFalsely : Prop := fnExactNearFarRow.holds Try.pinned (OpenSpec.ofChange fnExactNearFarWrong)

/-- 'laws.FnExactNearColours': WHATEVER THE INPUT: true; the input reads as it did. -/
def fnExactNearColoursSpec : ChangeSpec := { name := "fnExactNearColours", fn := fun _ => fun
  | [d] => { results := [.lit (.bool true)], args := [d] }
  | _ => none }
def fnExactNearColoursRow : OpenClaim := { program := "ytgiikdcjigcnlaa", sum := "d380fad953711fdfd28ee419a262c8c9b4b306efbfd3bcb5728d6c21bb8156d5", func := "loop.example/floorrooms/laws.FnExactNearColours", spec := "fnExactNearColours", inPlace := ["slices.overlaps[loop.example/floorrooms/impl.link]"], unfollowed := true, recurses := true, apart := false }
def FnExactNearColoursSaid : Prop := fnExactNearColoursRow.holds Try.pinned (OpenSpec.ofChange fnExactNearColoursSpec)

/-- ITS FALSE NEIGHBOUR: 'it returns false'. Refute it at one input. -/
def fnExactNearColoursWrong : ChangeSpec := { name := "fnExactNearColours", fn := fun _ => fun
  | [d] => { results := [.lit (.bool false)], args := [d] }
  | _ => none }
def FnExactNearColoursWrongFalsely : Prop := fnExactNearColoursRow.holds Try.pinned (OpenSpec.ofChange fnExactNearColoursWrong)

/-- 'laws.FnExactNearFirst': WHATEVER THE INPUT: true; the input reads as it did. -/
def fnExactNearFirstSpec : ChangeSpec := { name := "fnExactNearFirst", fn := fun _ => fun
  | [d] => { results := [.lit (.bool true)], args := [d] }
  | _ => none }
def fnExactNearFirstRow : OpenClaim := { program := "ytgiikdcjigcnlaa", sum := "d380fad953711fdfd28ee419a262c8c9b4b306efbfd3bcb5728d6c21bb8156d5", func := "loop.example/floorrooms/laws.FnExactNearFirst", spec := "fnExactNearFirst", inPlace := ["slices.overlaps[loop.example/floorrooms/impl.link]"], unfollowed := true, recurses := true, apart := false }
def FnExactNearFirstSaid : Prop := fnExactNearFirstRow.holds Try.pinned (OpenSpec.ofChange fnExactNearFirstSpec)

/-- ITS FALSE NEIGHBOUR: 'it returns false'. Refute it at one input. -/
def fnExactNearFirstWrong : ChangeSpec := { name := "fnExactNearFirst", fn := fun _ => fun
  | [d] => { results := [.lit (.bool false)], args := [d] }
  | _ => none }
def FnExactNearFirstWrongFalsely : Prop := fnExactNearFirstRow.holds Try.pinned (OpenSpec.ofChange fnExactNearFirstWrong)

/- THE SECOND FORM. 'bulk': how many values and letters a reading holds, each counted each time it is reached (what is shared counts as often as it is met; a slice's spare places count too). A statement '..UptoSaid' is the law's where the arguments, and the package variables that the reading takes, are together of bulk at most 1048576: NARROWER than '..Said'. Prove '..Said' where nothing that the law and all that it calls make is longer than what came in: it says more and counts as full. Else prove '..UptoSaid'. A law counts once. -/
mutual
def uptoBulk {H : Type} : DataW H → Nat
  | .lit (.string bytes) => bytes.length + 1
  | .lit _ => 1
  | .nil => 1
  | .ptr d => uptoBulk d + 1
  | .slice elems spare => uptoBulkAll elems + uptoBulkAll spare + 1
  | .agg parts => uptoBulkAll parts + 1
  | .iface _ d => uptoBulk d + 1
  | .map entries => uptoBulkEntries entries + 1
  | .held _ => 1
def uptoBulkAll {H : Type} : List (DataW H) → Nat
  | [] => 0
  | d :: r => uptoBulk d + uptoBulkAll r
def uptoBulkEntries {H : Type} : List (Lit × DataW H) → Nat
  | [] => 0
  | x :: r => uptoBulkEntry x + uptoBulkEntries r
def uptoBulkEntry {H : Type} : Lit × DataW H → Nat
  | (.string bytes, d) => bytes.length + uptoBulk d + 1
  | (_, d) => uptoBulk d + 1
 end
def uptoSmall : (H : Type) → List (DataW H) → Bool := fun _ ds => decide (uptoBulkAll ds ≤ 1048576)
def OpenSpec.upto (s : _root_.Go.ChangeSpec) : _root_.Go.OpenSpec := { _root_.Go.OpenSpec.ofChange s with cond := some uptoSmall }

/-- 'laws.FnExactNearWay', WHERE WHAT IT READS IS OF BULK AT MOST 1048576: true; the input reads as it did. -/
def fnExactNearWayUptoRow : OpenClaim := { program := "ytgiikdcjigcnlaa", sum := "d380fad953711fdfd28ee419a262c8c9b4b306efbfd3bcb5728d6c21bb8156d5", func := "loop.example/floorrooms/laws.FnExactNearWay", spec := "fnExactNearWay", inPlace := ["slices.overlaps[loop.example/floorrooms/impl.link]"], unfollowed := true, recurses := true, apart := false, narrowed := true }
def FnExactNearWayUptoSaid : Prop := fnExactNearWayUptoRow.holds Try.pinned (OpenSpec.upto fnExactNearWaySpec)

/-- 'laws.FnExactNearFar', WHERE WHAT IT READS IS OF BULK AT MOST 1048576: true; the input reads as it did. -/
def fnExactNearFarUptoRow : OpenClaim := { program := "ytgiikdcjigcnlaa", sum := "d380fad953711fdfd28ee419a262c8c9b4b306efbfd3bcb5728d6c21bb8156d5", func := "loop.example/floorrooms/laws.FnExactNearFar", spec := "fnExactNearFar", inPlace := ["slices.overlaps[loop.example/floorrooms/impl.link]"], unfollowed := true, recurses := true, apart := false, narrowed := true }
def FnExactNearFarUptoSaid : Prop := fnExactNearFarUptoRow.holds Try.pinned (OpenSpec.upto fnExactNearFarSpec)

/-- 'laws.FnExactNearColours', WHERE WHAT IT READS IS OF BULK AT MOST 1048576: true; the input reads as it did. -/
def fnExactNearColoursUptoRow : OpenClaim := { program := "ytgiikdcjigcnlaa", sum := "d380fad953711fdfd28ee419a262c8c9b4b306efbfd3bcb5728d6c21bb8156d5", func := "loop.example/floorrooms/laws.FnExactNearColours", spec := "fnExactNearColours", inPlace := ["slices.overlaps[loop.example/floorrooms/impl.link]"], unfollowed := true, recurses := true, apart := false, narrowed := true }
def FnExactNearColoursUptoSaid : Prop := fnExactNearColoursUptoRow.holds Try.pinned (OpenSpec.upto fnExactNearColoursSpec)

/-- 'laws.FnExactNearFirst', WHERE WHAT IT READS IS OF BULK AT MOST 1048576: true; the input reads as it did. -/
def fnExactNearFirstUptoRow : OpenClaim := { program := "ytgiikdcjigcnlaa", sum := "d380fad953711fdfd28ee419a262c8c9b4b306efbfd3bcb5728d6c21bb8156d5", func := "loop.example/floorrooms/laws.FnExactNearFirst", spec := "fnExactNearFirst", inPlace := ["slices.overlaps[loop.example/floorrooms/impl.link]"], unfollowed := true, recurses := true, apart := false, narrowed := true }
def FnExactNearFirstUptoSaid : Prop := fnExactNearFirstUptoRow.holds Try.pinned (OpenSpec.upto fnExactNearFirstSpec)

end Rows
end Go.Proofs.Ytgiikdcjigcnlaa
