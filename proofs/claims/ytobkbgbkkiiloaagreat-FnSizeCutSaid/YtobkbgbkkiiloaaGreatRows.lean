/-
  No cell of these rows narrows 'for every input' (looked for: loops, veiled, ifaces, maps, wideKeys, modest, calm, conditions, laid).
  DERIVED. THE GIVEN ROWS OF THIS SEAT. 5 by the template 'for every input the law returns true; each argument reads behind the call as it read before'; 0 by the template 'total and deterministic' (their statements: YtobkbgbkkiiloaaGreatTotals.lean).
  GIVEN WITH THE SEED: the statements are not yours to turn. If you find one false, say at which input.
  Laid BY PROGRAM, IN A SANDBOX (cutbox-rows.mjs): the forced cells as the released guide's own fill.sh prints them over the translation bbaeed0559592352… (all of the seat's roots in one cut). By AI agents, Wed Nov 11 2026. No macro, syntax, notation, axiom, sorry.
-/
import Derived.Test.YtobkbgbkkiiloaaGreatChecked
import GoSem.Claim
import GoSem.ClaimJoined
import GoSem.ClaimMapViews
import Derived.JoinedTies
import Derived.KernelRfl
namespace Go.Proofs.YtobkbgbkkiiloaaGreat
/- THE CELL 'sum', in the pinned program and in every row, IS THE sha256 OF THE DUMP (.gsa) THAT YtobkbgbkkiiloaaGreatProg.lean LOADS. Nothing in Lean hashes anything: it is a label: what it is worth is what the hold of that sum in a sandbox is worth. -/
noncomputable def Tryz.pinned : Pinned := { name := "ytobkbgbkkiiloaagreat", sum := "bbaeed05595923525982144c737010c255a3e75178563351fb0ed4ef4ef9f9eb", checked := Tryz.checked }
namespace Rows
def none {H : Type} : Left H := { results := [], args := [] }

/-- 'laws.FnWideNeeds': WHATEVER THE INPUT: true; the input reads as it did. -/
def fnWideNeedsSpec : ChangeSpec := { name := "fnWideNeeds", fn := fun _ => fun
  | [d] => { results := [.lit (.bool true)], args := [d] }
  | _ => none }
def fnWideNeedsRow : OpenClaim := { program := "ytobkbgbkkiiloaagreat", sum := "bbaeed05595923525982144c737010c255a3e75178563351fb0ed4ef4ef9f9eb", func := "loop.example/floorrooms/laws.FnWideNeeds", spec := "fnWideNeeds", unfollowed := true, recurses := true, plainKeys := false, apart := false }
def FnWideNeedsSaid : Prop := fnWideNeedsRow.holds Tryz.pinned (OpenSpec.ofChange fnWideNeedsSpec)

/-- ITS FALSE NEIGHBOUR: 'it returns false'. Refute it at one input. -/
def fnWideNeedsWrong : ChangeSpec := { name := "fnWideNeeds", fn := fun _ => fun
  | [d] => { results := [.lit (.bool false)], args := [d] }
  | _ => none }
def FnWideNeedsWrongFalsely : Prop := fnWideNeedsRow.holds Tryz.pinned (OpenSpec.ofChange fnWideNeedsWrong)

/-- 'laws.FnHighNeeds': WHATEVER THE INPUT: true; the input reads as it did. -/
def fnHighNeedsSpec : ChangeSpec := { name := "fnHighNeeds", fn := fun _ => fun
  | [d] => { results := [.lit (.bool true)], args := [d] }
  | _ => none }
def fnHighNeedsRow : OpenClaim := { program := "ytobkbgbkkiiloaagreat", sum := "bbaeed05595923525982144c737010c255a3e75178563351fb0ed4ef4ef9f9eb", func := "loop.example/floorrooms/laws.FnHighNeeds", spec := "fnHighNeeds", unfollowed := true, recurses := true, plainKeys := false, apart := false }
def FnHighNeedsSaid : Prop := fnHighNeedsRow.holds Tryz.pinned (OpenSpec.ofChange fnHighNeedsSpec)

/-- ITS FALSE NEIGHBOUR: 'it returns false'. Refute it at one input. -/
def fnHighNeedsWrong : ChangeSpec := { name := "fnHighNeeds", fn := fun _ => fun
  | [d] => { results := [.lit (.bool false)], args := [d] }
  | _ => none }
def FnHighNeedsWrongFalsely : Prop := fnHighNeedsRow.holds Tryz.pinned (OpenSpec.ofChange fnHighNeedsWrong)

/-- 'laws.FnPlaces': WHATEVER THE INPUT: true; the input reads as it did. -/
def fnPlacesSpec : ChangeSpec := { name := "fnPlaces", fn := fun _ => fun
  | [d] => { results := [.lit (.bool true)], args := [d] }
  | _ => none }
def fnPlacesRow : OpenClaim := { program := "ytobkbgbkkiiloaagreat", sum := "bbaeed05595923525982144c737010c255a3e75178563351fb0ed4ef4ef9f9eb", func := "loop.example/floorrooms/laws.FnPlaces", spec := "fnPlaces", unfollowed := true, recurses := true, plainKeys := false, apart := false }
def FnPlacesSaid : Prop := fnPlacesRow.holds Tryz.pinned (OpenSpec.ofChange fnPlacesSpec)

/-- ITS FALSE NEIGHBOUR: 'it returns false'. Refute it at one input. -/
def fnPlacesWrong : ChangeSpec := { name := "fnPlaces", fn := fun _ => fun
  | [d] => { results := [.lit (.bool false)], args := [d] }
  | _ => none }
def FnPlacesWrongFalsely : Prop := fnPlacesRow.holds Tryz.pinned (OpenSpec.ofChange fnPlacesWrong)

/-- 'laws.FnSlack': WHATEVER THE INPUT: true; the input reads as it did. -/
def fnSlackSpec : ChangeSpec := { name := "fnSlack", fn := fun _ => fun
  | [d] => { results := [.lit (.bool true)], args := [d] }
  | _ => none }
def fnSlackRow : OpenClaim := { program := "ytobkbgbkkiiloaagreat", sum := "bbaeed05595923525982144c737010c255a3e75178563351fb0ed4ef4ef9f9eb", func := "loop.example/floorrooms/laws.FnSlack", spec := "fnSlack", unfollowed := true, recurses := true, plainKeys := false, apart := false }
def FnSlackSaid : Prop := fnSlackRow.holds Tryz.pinned (OpenSpec.ofChange fnSlackSpec)

/-- ITS FALSE NEIGHBOUR: 'it returns false'. Refute it at one input. -/
def fnSlackWrong : ChangeSpec := { name := "fnSlack", fn := fun _ => fun
  | [d] => { results := [.lit (.bool false)], args := [d] }
  | _ => none }
def FnSlackWrongFalsely : Prop := fnSlackRow.holds Tryz.pinned (OpenSpec.ofChange fnSlackWrong)

/-- 'laws.FnSizeCut': WHATEVER THE INPUT: true; the input reads as it did. -/
def fnSizeCutSpec : ChangeSpec := { name := "fnSizeCut", fn := fun _ => fun
  | [d] => { results := [.lit (.bool true)], args := [d] }
  | _ => none }
def fnSizeCutRow : OpenClaim := { program := "ytobkbgbkkiiloaagreat", sum := "bbaeed05595923525982144c737010c255a3e75178563351fb0ed4ef4ef9f9eb", func := "loop.example/floorrooms/laws.FnSizeCut", spec := "fnSizeCut", unfollowed := true, recurses := true, plainKeys := false, apart := false }
def FnSizeCutSaid : Prop := fnSizeCutRow.holds Tryz.pinned (OpenSpec.ofChange fnSizeCutSpec)

/-- ITS FALSE NEIGHBOUR: 'it returns false'. Refute it at one input. -/
def fnSizeCutWrong : ChangeSpec := { name := "fnSizeCut", fn := fun _ => fun
  | [d] => { results := [.lit (.bool false)], args := [d] }
  | _ => none }
def FnSizeCutWrongFalsely : Prop := fnSizeCutRow.holds Tryz.pinned (OpenSpec.ofChange fnSizeCutWrong)

/- THE SECOND FORM. 'bulk': how many values and letters a reading holds, each counted each time it is reached (what is shared counts as often as it is met; a slice's spare places count too). A statement '..UptoSaid' is the law's where the arguments, and the package variables that the reading takes, are together of bulk at most 1048576: NARROWER than '..Said'. Prove '..Said' where nothing that the law and all that it calls make is longer than what came in: it says more and counts as full. Else prove '..UptoSaid'. A law counts once. -/
mutual
def uptoBulk {H : Type} : DataW H → Nat
  | .lit (.string bytes) => bytes.length + 1
  | .lit _ => 1
  | .nil => 1
  | .ptr d => uptoBulk d + 1
  | .slice elems spare => uptoBulkAll elems + uptoBulkAll spare + 1
  | .agg parts => uptoBulkAll parts + 1
  | .iface _ d => uptoBulk d + 1
  | .map entries => uptoBulkEntries entries + 1
  | .held _ => 1
def uptoBulkAll {H : Type} : List (DataW H) → Nat
  | [] => 0
  | d :: r => uptoBulk d + uptoBulkAll r
def uptoBulkEntries {H : Type} : List (Lit × DataW H) → Nat
  | [] => 0
  | x :: r => uptoBulkEntry x + uptoBulkEntries r
def uptoBulkEntry {H : Type} : Lit × DataW H → Nat
  | (.string bytes, d) => bytes.length + uptoBulk d + 1
  | (_, d) => uptoBulk d + 1
 end
def uptoSmall : (H : Type) → List (DataW H) → Bool := fun _ ds => decide (uptoBulkAll ds ≤ 1048576)
def OpenSpec.upto (s : _root_.Go.ChangeSpec) : _root_.Go.OpenSpec := { _root_.Go.OpenSpec.ofChange s with cond := some uptoSmall }

/-- 'laws.FnWideNeeds', WHERE WHAT IT READS IS OF BULK AT MOST 1048576: true; the input reads as it did. -/
def fnWideNeedsUptoRow : OpenClaim := { program := "ytobkbgbkkiiloaagreat", sum := "bbaeed05595923525982144c737010c255a3e75178563351fb0ed4ef4ef9f9eb", func := "loop.example/floorrooms/laws.FnWideNeeds", spec := "fnWideNeeds", unfollowed := true, recurses := true, plainKeys := false, apart := false, narrowed := true }
def FnWideNeedsUptoSaid : Prop := fnWideNeedsUptoRow.holds Tryz.pinned (OpenSpec.upto fnWideNeedsSpec)

/-- 'laws.FnHighNeeds', WHERE WHAT IT READS IS OF BULK AT MOST 1048576: true; the input reads as it did. -/
def fnHighNeedsUptoRow : OpenClaim := { program := "ytobkbgbkkiiloaagreat", sum := "bbaeed05595923525982144c737010c255a3e75178563351fb0ed4ef4ef9f9eb", func := "loop.example/floorrooms/laws.FnHighNeeds", spec := "fnHighNeeds", unfollowed := true, recurses := true, plainKeys := false, apart := false, narrowed := true }
def FnHighNeedsUptoSaid : Prop := fnHighNeedsUptoRow.holds Tryz.pinned (OpenSpec.upto fnHighNeedsSpec)

/-- 'laws.FnPlaces', WHERE WHAT IT READS IS OF BULK AT MOST 1048576: true; the input reads as it did. -/
def fnPlacesUptoRow : OpenClaim := { program := "ytobkbgbkkiiloaagreat", sum := "bbaeed05595923525982144c737010c255a3e75178563351fb0ed4ef4ef9f9eb", func := "loop.example/floorrooms/laws.FnPlaces", spec := "fnPlaces", unfollowed := true, recurses := true, plainKeys := false, apart := false, narrowed := true }
def FnPlacesUptoSaid : Prop := fnPlacesUptoRow.holds Tryz.pinned (OpenSpec.upto fnPlacesSpec)

/-- 'laws.FnSlack', WHERE WHAT IT READS IS OF BULK AT MOST 1048576: true; the input reads as it did. -/
def fnSlackUptoRow : OpenClaim := { program := "ytobkbgbkkiiloaagreat", sum := "bbaeed05595923525982144c737010c255a3e75178563351fb0ed4ef4ef9f9eb", func := "loop.example/floorrooms/laws.FnSlack", spec := "fnSlack", unfollowed := true, recurses := true, plainKeys := false, apart := false, narrowed := true }
def FnSlackUptoSaid : Prop := fnSlackUptoRow.holds Tryz.pinned (OpenSpec.upto fnSlackSpec)

/-- 'laws.FnSizeCut', WHERE WHAT IT READS IS OF BULK AT MOST 1048576: true; the input reads as it did. -/
def fnSizeCutUptoRow : OpenClaim := { program := "ytobkbgbkkiiloaagreat", sum := "bbaeed05595923525982144c737010c255a3e75178563351fb0ed4ef4ef9f9eb", func := "loop.example/floorrooms/laws.FnSizeCut", spec := "fnSizeCut", unfollowed := true, recurses := true, plainKeys := false, apart := false, narrowed := true }
def FnSizeCutUptoSaid : Prop := fnSizeCutUptoRow.holds Tryz.pinned (OpenSpec.upto fnSizeCutSpec)

end Rows
end Go.Proofs.YtobkbgbkkiiloaaGreat
