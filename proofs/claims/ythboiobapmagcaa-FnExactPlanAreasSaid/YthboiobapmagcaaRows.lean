/-
  No cell of these rows narrows 'for every input' (looked for: loops, veiled, ifaces, maps, wideKeys, modest, calm, conditions, laid).
  DERIVED. THE GIVEN ROWS OF THIS SEAT. 14 by the template 'for every input the law returns true; each argument reads behind the call as it read before'; 0 by the template 'total and deterministic' (their statements: YthboiobapmagcaaTotals.lean).
  GIVEN WITH THE SEED: the statements are not yours to turn. If you find one false, say at which input.
  Laid BY PROGRAM, IN A SANDBOX (cutbox-rows.mjs): the forced cells as the released guide's own fill.sh prints them over the translation 3e6b58d8ad94abbc… (all of the seat's roots in one cut). By AI agents, Wed Nov 11 2026. No macro, syntax, notation, axiom, sorry.
-/
import Derived.Test.YthboiobapmagcaaChecked
import GoSem.Claim
import GoSem.ClaimJoined
import GoSem.ClaimMapViews
import Derived.JoinedTies
import Derived.KernelRfl
namespace Go.Proofs.Ythboiobapmagcaa
/- THE CELL 'sum', in the pinned program and in every row, IS THE sha256 OF THE DUMP (.gsa) THAT YthboiobapmagcaaProg.lean LOADS. Nothing in Lean hashes anything: it is a label: what it is worth is what the hold of that sum in a sandbox is worth. -/
noncomputable def Try.pinned : Pinned := { name := "ythboiobapmagcaa", sum := "3e6b58d8ad94abbc258374a01324ba8fe09eb7529dc07fd2dc72539eb838a38f", checked := Try.checked }
namespace Rows
def none {H : Type} : Left H := { results := [], args := [] }

/-- 'laws.FnExactPlanIn': WHATEVER THE INPUT: true; the input reads as it did. -/
def fnExactPlanInSpec : ChangeSpec := { name := "fnExactPlanIn", fn := fun _ => fun
  | [d] => { results := [.lit (.bool true)], args := [d] }
  | _ => none }
def fnExactPlanInRow : OpenClaim := { program := "ythboiobapmagcaa", sum := "3e6b58d8ad94abbc258374a01324ba8fe09eb7529dc07fd2dc72539eb838a38f", func := "loop.example/floorrooms/laws.FnExactPlanIn", spec := "fnExactPlanIn", unfollowed := true, recurses := true, apart := false }
def FnExactPlanInSaid : Prop := fnExactPlanInRow.holds Try.pinned (OpenSpec.ofChange fnExactPlanInSpec)

/-- ITS FALSE NEIGHBOUR: 'it returns false'. Refute it at one input. -/
def fnExactPlanInWrong : ChangeSpec := { name := "fnExactPlanIn", fn := fun _ => fun
  | [d] => { results := [.lit (.bool false)], args := [d] }
  | _ => none }
def FnExactPlanInWrongFalsely : Prop := fnExactPlanInRow.holds Try.pinned (OpenSpec.ofChange fnExactPlanInWrong)

/-- 'laws.FnExactPlanName': WHATEVER THE INPUT: true; the input reads as it did. -/
def fnExactPlanNameSpec : ChangeSpec := { name := "fnExactPlanName", fn := fun _ => fun
  | [d] => { results := [.lit (.bool true)], args := [d] }
  | _ => none }
def fnExactPlanNameRow : OpenClaim := { program := "ythboiobapmagcaa", sum := "3e6b58d8ad94abbc258374a01324ba8fe09eb7529dc07fd2dc72539eb838a38f", func := "loop.example/floorrooms/laws.FnExactPlanName", spec := "fnExactPlanName", unfollowed := true, recurses := true, apart := false }
def FnExactPlanNameSaid : Prop := fnExactPlanNameRow.holds Try.pinned (OpenSpec.ofChange fnExactPlanNameSpec)

/-- ITS FALSE NEIGHBOUR: 'it returns false'. Refute it at one input. -/
def fnExactPlanNameWrong : ChangeSpec := { name := "fnExactPlanName", fn := fun _ => fun
  | [d] => { results := [.lit (.bool false)], args := [d] }
  | _ => none }
def FnExactPlanNameWrongFalsely : Prop := fnExactPlanNameRow.holds Try.pinned (OpenSpec.ofChange fnExactPlanNameWrong)

/-- 'laws.FnExactPlanRooms': WHATEVER THE INPUT: true; the input reads as it did. -/
def fnExactPlanRoomsSpec : ChangeSpec := { name := "fnExactPlanRooms", fn := fun _ => fun
  | [d] => { results := [.lit (.bool true)], args := [d] }
  | _ => none }
def fnExactPlanRoomsRow : OpenClaim := { program := "ythboiobapmagcaa", sum := "3e6b58d8ad94abbc258374a01324ba8fe09eb7529dc07fd2dc72539eb838a38f", func := "loop.example/floorrooms/laws.FnExactPlanRooms", spec := "fnExactPlanRooms", unfollowed := true, recurses := true, apart := false }
def FnExactPlanRoomsSaid : Prop := fnExactPlanRoomsRow.holds Try.pinned (OpenSpec.ofChange fnExactPlanRoomsSpec)

/-- ITS FALSE NEIGHBOUR: 'it returns false'. Refute it at one input. -/
def fnExactPlanRoomsWrong : ChangeSpec := { name := "fnExactPlanRooms", fn := fun _ => fun
  | [d] => { results := [.lit (.bool false)], args := [d] }
  | _ => none }
def FnExactPlanRoomsWrongFalsely : Prop := fnExactPlanRoomsRow.holds Try.pinned (OpenSpec.ofChange fnExactPlanRoomsWrong)

/-- 'laws.FnExactPlanRoom': WHATEVER THE INPUT: true; the input reads as it did. -/
def fnExactPlanRoomSpec : ChangeSpec := { name := "fnExactPlanRoom", fn := fun _ => fun
  | [d1, d2] => { results := [.lit (.bool true)], args := [d1, d2] }
  | _ => none }
def fnExactPlanRoomRow : OpenClaim := { program := "ythboiobapmagcaa", sum := "3e6b58d8ad94abbc258374a01324ba8fe09eb7529dc07fd2dc72539eb838a38f", func := "loop.example/floorrooms/laws.FnExactPlanRoom", spec := "fnExactPlanRoom", unfollowed := true, recurses := true, apart := false }
def FnExactPlanRoomSaid : Prop := fnExactPlanRoomRow.holds Try.pinned (OpenSpec.ofChange fnExactPlanRoomSpec)

/-- ITS FALSE NEIGHBOUR: 'it returns false'. Refute it at one input. -/
def fnExactPlanRoomWrong : ChangeSpec := { name := "fnExactPlanRoom", fn := fun _ => fun
  | [d1, d2] => { results := [.lit (.bool false)], args := [d1, d2] }
  | _ => none }
def FnExactPlanRoomWrongFalsely : Prop := fnExactPlanRoomRow.holds Try.pinned (OpenSpec.ofChange fnExactPlanRoomWrong)

/-- 'laws.FnExactPlanTurn': WHATEVER THE INPUT: true; the input reads as it did. -/
def fnExactPlanTurnSpec : ChangeSpec := { name := "fnExactPlanTurn", fn := fun _ => fun
  | [d] => { results := [.lit (.bool true)], args := [d] }
  | _ => none }
def fnExactPlanTurnRow : OpenClaim := { program := "ythboiobapmagcaa", sum := "3e6b58d8ad94abbc258374a01324ba8fe09eb7529dc07fd2dc72539eb838a38f", func := "loop.example/floorrooms/laws.FnExactPlanTurn", spec := "fnExactPlanTurn", unfollowed := true, recurses := true, apart := false }
def FnExactPlanTurnSaid : Prop := fnExactPlanTurnRow.holds Try.pinned (OpenSpec.ofChange fnExactPlanTurnSpec)

/-- ITS FALSE NEIGHBOUR: 'it returns false'. Refute it at one input. -/
def fnExactPlanTurnWrong : ChangeSpec := { name := "fnExactPlanTurn", fn := fun _ => fun
  | [d] => { results := [.lit (.bool false)], args := [d] }
  | _ => none }
def FnExactPlanTurnWrongFalsely : Prop := fnExactPlanTurnRow.holds Try.pinned (OpenSpec.ofChange fnExactPlanTurnWrong)

/-- 'laws.FnExactPlanFlip': WHATEVER THE INPUT: true; the input reads as it did. -/
def fnExactPlanFlipSpec : ChangeSpec := { name := "fnExactPlanFlip", fn := fun _ => fun
  | [d] => { results := [.lit (.bool true)], args := [d] }
  | _ => none }
def fnExactPlanFlipRow : OpenClaim := { program := "ythboiobapmagcaa", sum := "3e6b58d8ad94abbc258374a01324ba8fe09eb7529dc07fd2dc72539eb838a38f", func := "loop.example/floorrooms/laws.FnExactPlanFlip", spec := "fnExactPlanFlip", unfollowed := true, recurses := true, apart := false }
def FnExactPlanFlipSaid : Prop := fnExactPlanFlipRow.holds Try.pinned (OpenSpec.ofChange fnExactPlanFlipSpec)

/-- ITS FALSE NEIGHBOUR: 'it returns false'. Refute it at one input. -/
def fnExactPlanFlipWrong : ChangeSpec := { name := "fnExactPlanFlip", fn := fun _ => fun
  | [d] => { results := [.lit (.bool false)], args := [d] }
  | _ => none }
def FnExactPlanFlipWrongFalsely : Prop := fnExactPlanFlipRow.holds Try.pinned (OpenSpec.ofChange fnExactPlanFlipWrong)

/-- 'laws.FnExactPlanTight': WHATEVER THE INPUT: true; the input reads as it did. -/
def fnExactPlanTightSpec : ChangeSpec := { name := "fnExactPlanTight", fn := fun _ => fun
  | [d] => { results := [.lit (.bool true)], args := [d] }
  | _ => none }
def fnExactPlanTightRow : OpenClaim := { program := "ythboiobapmagcaa", sum := "3e6b58d8ad94abbc258374a01324ba8fe09eb7529dc07fd2dc72539eb838a38f", func := "loop.example/floorrooms/laws.FnExactPlanTight", spec := "fnExactPlanTight", unfollowed := true, recurses := true, apart := false }
def FnExactPlanTightSaid : Prop := fnExactPlanTightRow.holds Try.pinned (OpenSpec.ofChange fnExactPlanTightSpec)

/-- ITS FALSE NEIGHBOUR: 'it returns false'. Refute it at one input. -/
def fnExactPlanTightWrong : ChangeSpec := { name := "fnExactPlanTight", fn := fun _ => fun
  | [d] => { results := [.lit (.bool false)], args := [d] }
  | _ => none }
def FnExactPlanTightWrongFalsely : Prop := fnExactPlanTightRow.holds Try.pinned (OpenSpec.ofChange fnExactPlanTightWrong)

/-- 'laws.FnExactPlanWide': WHATEVER THE INPUT: true; the input reads as it did. -/
def fnExactPlanWideSpec : ChangeSpec := { name := "fnExactPlanWide", fn := fun _ => fun
  | [d1, d2] => { results := [.lit (.bool true)], args := [d1, d2] }
  | _ => none }
def fnExactPlanWideRow : OpenClaim := { program := "ythboiobapmagcaa", sum := "3e6b58d8ad94abbc258374a01324ba8fe09eb7529dc07fd2dc72539eb838a38f", func := "loop.example/floorrooms/laws.FnExactPlanWide", spec := "fnExactPlanWide", unfollowed := true, recurses := true, apart := false }
def FnExactPlanWideSaid : Prop := fnExactPlanWideRow.holds Try.pinned (OpenSpec.ofChange fnExactPlanWideSpec)

/-- ITS FALSE NEIGHBOUR: 'it returns false'. Refute it at one input. -/
def fnExactPlanWideWrong : ChangeSpec := { name := "fnExactPlanWide", fn := fun _ => fun
  | [d1, d2] => { results := [.lit (.bool false)], args := [d1, d2] }
  | _ => none }
def FnExactPlanWideWrongFalsely : Prop := fnExactPlanWideRow.holds Try.pinned (OpenSpec.ofChange fnExactPlanWideWrong)

/-- 'laws.FnExactPlanBeside': WHATEVER THE INPUT: true; the input reads as it did. -/
def fnExactPlanBesideSpec : ChangeSpec := { name := "fnExactPlanBeside", fn := fun _ => fun
  | [d1, d2] => { results := [.lit (.bool true)], args := [d1, d2] }
  | _ => none }
def fnExactPlanBesideRow : OpenClaim := { program := "ythboiobapmagcaa", sum := "3e6b58d8ad94abbc258374a01324ba8fe09eb7529dc07fd2dc72539eb838a38f", func := "loop.example/floorrooms/laws.FnExactPlanBeside", spec := "fnExactPlanBeside", unfollowed := true, recurses := true, apart := false }
def FnExactPlanBesideSaid : Prop := fnExactPlanBesideRow.holds Try.pinned (OpenSpec.ofChange fnExactPlanBesideSpec)

/-- ITS FALSE NEIGHBOUR: 'it returns false'. Refute it at one input. -/
def fnExactPlanBesideWrong : ChangeSpec := { name := "fnExactPlanBeside", fn := fun _ => fun
  | [d1, d2] => { results := [.lit (.bool false)], args := [d1, d2] }
  | _ => none }
def FnExactPlanBesideWrongFalsely : Prop := fnExactPlanBesideRow.holds Try.pinned (OpenSpec.ofChange fnExactPlanBesideWrong)

/-- 'laws.FnExactPlanUnder': WHATEVER THE INPUT: true; the input reads as it did. -/
def fnExactPlanUnderSpec : ChangeSpec := { name := "fnExactPlanUnder", fn := fun _ => fun
  | [d1, d2] => { results := [.lit (.bool true)], args := [d1, d2] }
  | _ => none }
def fnExactPlanUnderRow : OpenClaim := { program := "ythboiobapmagcaa", sum := "3e6b58d8ad94abbc258374a01324ba8fe09eb7529dc07fd2dc72539eb838a38f", func := "loop.example/floorrooms/laws.FnExactPlanUnder", spec := "fnExactPlanUnder", unfollowed := true, recurses := true, apart := false }
def FnExactPlanUnderSaid : Prop := fnExactPlanUnderRow.holds Try.pinned (OpenSpec.ofChange fnExactPlanUnderSpec)

/-- ITS FALSE NEIGHBOUR: 'it returns false'. Refute it at one input. -/
def fnExactPlanUnderWrong : ChangeSpec := { name := "fnExactPlanUnder", fn := fun _ => fun
  | [d1, d2] => { results := [.lit (.bool false)], args := [d1, d2] }
  | _ => none }
def FnExactPlanUnderWrongFalsely : Prop := fnExactPlanUnderRow.holds Try.pinned (OpenSpec.ofChange fnExactPlanUnderWrong)

/-- 'laws.FnExactPlanSplit': WHATEVER THE INPUT: true; the input reads as it did. -/
def fnExactPlanSplitSpec : ChangeSpec := { name := "fnExactPlanSplit", fn := fun _ => fun
  | [d1, d2, d3, d4] => { results := [.lit (.bool true)], args := [d1, d2, d3, d4] }
  | _ => none }
def fnExactPlanSplitRow : OpenClaim := { program := "ythboiobapmagcaa", sum := "3e6b58d8ad94abbc258374a01324ba8fe09eb7529dc07fd2dc72539eb838a38f", func := "loop.example/floorrooms/laws.FnExactPlanSplit", spec := "fnExactPlanSplit", unfollowed := true, recurses := true, apart := false }
def FnExactPlanSplitSaid : Prop := fnExactPlanSplitRow.holds Try.pinned (OpenSpec.ofChange fnExactPlanSplitSpec)

/-- ITS FALSE NEIGHBOUR: 'it returns false'. Refute it at one input. -/
def fnExactPlanSplitWrong : ChangeSpec := { name := "fnExactPlanSplit", fn := fun _ => fun
  | [d1, d2, d3, d4] => { results := [.lit (.bool false)], args := [d1, d2, d3, d4] }
  | _ => none }
def FnExactPlanSplitWrongFalsely : Prop := fnExactPlanSplitRow.holds Try.pinned (OpenSpec.ofChange fnExactPlanSplitWrong)

/-- 'laws.FnExactPlanMerge': WHATEVER THE INPUT: true; the input reads as it did. -/
def fnExactPlanMergeSpec : ChangeSpec := { name := "fnExactPlanMerge", fn := fun _ => fun
  | [d1, d2, d3] => { results := [.lit (.bool true)], args := [d1, d2, d3] }
  | _ => none }
def fnExactPlanMergeRow : OpenClaim := { program := "ythboiobapmagcaa", sum := "3e6b58d8ad94abbc258374a01324ba8fe09eb7529dc07fd2dc72539eb838a38f", func := "loop.example/floorrooms/laws.FnExactPlanMerge", spec := "fnExactPlanMerge", unfollowed := true, recurses := true, apart := false }
def FnExactPlanMergeSaid : Prop := fnExactPlanMergeRow.holds Try.pinned (OpenSpec.ofChange fnExactPlanMergeSpec)

/-- ITS FALSE NEIGHBOUR: 'it returns false'. Refute it at one input. -/
def fnExactPlanMergeWrong : ChangeSpec := { name := "fnExactPlanMerge", fn := fun _ => fun
  | [d1, d2, d3] => { results := [.lit (.bool false)], args := [d1, d2, d3] }
  | _ => none }
def FnExactPlanMergeWrongFalsely : Prop := fnExactPlanMergeRow.holds Try.pinned (OpenSpec.ofChange fnExactPlanMergeWrong)

/-- 'laws.FnExactPlanAreas': WHATEVER THE INPUT: true; the input reads as it did. -/
def fnExactPlanAreasSpec : ChangeSpec := { name := "fnExactPlanAreas", fn := fun _ => fun
  | [d] => { results := [.lit (.bool true)], args := [d] }
  | _ => none }
def fnExactPlanAreasRow : OpenClaim := { program := "ythboiobapmagcaa", sum := "3e6b58d8ad94abbc258374a01324ba8fe09eb7529dc07fd2dc72539eb838a38f", func := "loop.example/floorrooms/laws.FnExactPlanAreas", spec := "fnExactPlanAreas", unfollowed := true, recurses := true, apart := false }
def FnExactPlanAreasSaid : Prop := fnExactPlanAreasRow.holds Try.pinned (OpenSpec.ofChange fnExactPlanAreasSpec)

/-- ITS FALSE NEIGHBOUR: 'it returns false'. Refute it at one input. -/
def fnExactPlanAreasWrong : ChangeSpec := { name := "fnExactPlanAreas", fn := fun _ => fun
  | [d] => { results := [.lit (.bool false)], args := [d] }
  | _ => none }
def FnExactPlanAreasWrongFalsely : Prop := fnExactPlanAreasRow.holds Try.pinned (OpenSpec.ofChange fnExactPlanAreasWrong)

/-- 'laws.FnExactPlanTrans': WHATEVER THE INPUT: true; the input reads as it did. -/
def fnExactPlanTransSpec : ChangeSpec := { name := "fnExactPlanTrans", fn := fun _ => fun
  | [d] => { results := [.lit (.bool true)], args := [d] }
  | _ => none }
def fnExactPlanTransRow : OpenClaim := { program := "ythboiobapmagcaa", sum := "3e6b58d8ad94abbc258374a01324ba8fe09eb7529dc07fd2dc72539eb838a38f", func := "loop.example/floorrooms/laws.FnExactPlanTrans", spec := "fnExactPlanTrans", unfollowed := true, recurses := true, apart := false }
def FnExactPlanTransSaid : Prop := fnExactPlanTransRow.holds Try.pinned (OpenSpec.ofChange fnExactPlanTransSpec)

/-- ITS FALSE NEIGHBOUR: 'it returns false'. Refute it at one input. -/
def fnExactPlanTransWrong : ChangeSpec := { name := "fnExactPlanTrans", fn := fun _ => fun
  | [d] => { results := [.lit (.bool false)], args := [d] }
  | _ => none }
def FnExactPlanTransWrongFalsely : Prop := fnExactPlanTransRow.holds Try.pinned (OpenSpec.ofChange fnExactPlanTransWrong)

/- THE SECOND FORM. 'bulk': how many values and letters a reading holds, each counted each time it is reached (what is shared counts as often as it is met; a slice's spare places count too). A statement '..UptoSaid' is the law's where the arguments, and the package variables that the reading takes, are together of bulk at most 1048576: NARROWER than '..Said'. Prove '..Said' where nothing that the law and all that it calls make is longer than what came in: it says more and counts as full. Else prove '..UptoSaid'. A law counts once. -/
mutual
def uptoBulk {H : Type} : DataW H → Nat
  | .lit (.string bytes) => bytes.length + 1
  | .lit _ => 1
  | .nil => 1
  | .ptr d => uptoBulk d + 1
  | .slice elems spare => uptoBulkAll elems + uptoBulkAll spare + 1
  | .agg parts => uptoBulkAll parts + 1
  | .iface _ d => uptoBulk d + 1
  | .map entries => uptoBulkEntries entries + 1
  | .held _ => 1
def uptoBulkAll {H : Type} : List (DataW H) → Nat
  | [] => 0
  | d :: r => uptoBulk d + uptoBulkAll r
def uptoBulkEntries {H : Type} : List (Lit × DataW H) → Nat
  | [] => 0
  | x :: r => uptoBulkEntry x + uptoBulkEntries r
def uptoBulkEntry {H : Type} : Lit × DataW H → Nat
  | (.string bytes, d) => bytes.length + uptoBulk d + 1
  | (_, d) => uptoBulk d + 1
 end
def uptoSmall : (H : Type) → List (DataW H) → Bool := fun _ ds => decide (uptoBulkAll ds ≤ 1048576)
def OpenSpec.upto (s : _root_.Go.ChangeSpec) : _root_.Go.OpenSpec := { _root_.Go.OpenSpec.ofChange s with cond := some uptoSmall }

/-- 'laws.FnExactPlanIn', WHERE WHAT IT READS IS OF BULK AT MOST 1048576: true; the input reads as it did. -/
def fnExactPlanInUptoRow : OpenClaim := { program := "ythboiobapmagcaa", sum := "3e6b58d8ad94abbc258374a01324ba8fe09eb7529dc07fd2dc72539eb838a38f", func := "loop.example/floorrooms/laws.FnExactPlanIn", spec := "fnExactPlanIn", unfollowed := true, recurses := true, apart := false, narrowed := true }
def FnExactPlanInUptoSaid : Prop := fnExactPlanInUptoRow.holds Try.pinned (OpenSpec.upto fnExactPlanInSpec)

/-- 'laws.FnExactPlanName', WHERE WHAT IT READS IS OF BULK AT MOST 1048576: true; the input reads as it did. -/
def fnExactPlanNameUptoRow : OpenClaim := { program := "ythboiobapmagcaa", sum := "3e6b58d8ad94abbc258374a01324ba8fe09eb7529dc07fd2dc72539eb838a38f", func := "loop.example/floorrooms/laws.FnExactPlanName", spec := "fnExactPlanName", unfollowed := true, recurses := true, apart := false, narrowed := true }
def FnExactPlanNameUptoSaid : Prop := fnExactPlanNameUptoRow.holds Try.pinned (OpenSpec.upto fnExactPlanNameSpec)

/-- 'laws.FnExactPlanRooms', WHERE WHAT IT READS IS OF BULK AT MOST 1048576: true; the input reads as it did. -/
def fnExactPlanRoomsUptoRow : OpenClaim := { program := "ythboiobapmagcaa", sum := "3e6b58d8ad94abbc258374a01324ba8fe09eb7529dc07fd2dc72539eb838a38f", func := "loop.example/floorrooms/laws.FnExactPlanRooms", spec := "fnExactPlanRooms", unfollowed := true, recurses := true, apart := false, narrowed := true }
def FnExactPlanRoomsUptoSaid : Prop := fnExactPlanRoomsUptoRow.holds Try.pinned (OpenSpec.upto fnExactPlanRoomsSpec)

/-- 'laws.FnExactPlanRoom', WHERE WHAT IT READS IS OF BULK AT MOST 1048576: true; the input reads as it did. -/
def fnExactPlanRoomUptoRow : OpenClaim := { program := "ythboiobapmagcaa", sum := "3e6b58d8ad94abbc258374a01324ba8fe09eb7529dc07fd2dc72539eb838a38f", func := "loop.example/floorrooms/laws.FnExactPlanRoom", spec := "fnExactPlanRoom", unfollowed := true, recurses := true, apart := false, narrowed := true }
def FnExactPlanRoomUptoSaid : Prop := fnExactPlanRoomUptoRow.holds Try.pinned (OpenSpec.upto fnExactPlanRoomSpec)

/-- 'laws.FnExactPlanTurn', WHERE WHAT IT READS IS OF BULK AT MOST 1048576: true; the input reads as it did. -/
def fnExactPlanTurnUptoRow : OpenClaim := { program := "ythboiobapmagcaa", sum := "3e6b58d8ad94abbc258374a01324ba8fe09eb7529dc07fd2dc72539eb838a38f", func := "loop.example/floorrooms/laws.FnExactPlanTurn", spec := "fnExactPlanTurn", unfollowed := true, recurses := true, apart := false, narrowed := true }
def FnExactPlanTurnUptoSaid : Prop := fnExactPlanTurnUptoRow.holds Try.pinned (OpenSpec.upto fnExactPlanTurnSpec)

/-- 'laws.FnExactPlanFlip', WHERE WHAT IT READS IS OF BULK AT MOST 1048576: true; the input reads as it did. -/
def fnExactPlanFlipUptoRow : OpenClaim := { program := "ythboiobapmagcaa", sum := "3e6b58d8ad94abbc258374a01324ba8fe09eb7529dc07fd2dc72539eb838a38f", func := "loop.example/floorrooms/laws.FnExactPlanFlip", spec := "fnExactPlanFlip", unfollowed := true, recurses := true, apart := false, narrowed := true }
def FnExactPlanFlipUptoSaid : Prop := fnExactPlanFlipUptoRow.holds Try.pinned (OpenSpec.upto fnExactPlanFlipSpec)

/-- 'laws.FnExactPlanTight', WHERE WHAT IT READS IS OF BULK AT MOST 1048576: true; the input reads as it did. -/
def fnExactPlanTightUptoRow : OpenClaim := { program := "ythboiobapmagcaa", sum := "3e6b58d8ad94abbc258374a01324ba8fe09eb7529dc07fd2dc72539eb838a38f", func := "loop.example/floorrooms/laws.FnExactPlanTight", spec := "fnExactPlanTight", unfollowed := true, recurses := true, apart := false, narrowed := true }
def FnExactPlanTightUptoSaid : Prop := fnExactPlanTightUptoRow.holds Try.pinned (OpenSpec.upto fnExactPlanTightSpec)

/-- 'laws.FnExactPlanWide', WHERE WHAT IT READS IS OF BULK AT MOST 1048576: true; the input reads as it did. -/
def fnExactPlanWideUptoRow : OpenClaim := { program := "ythboiobapmagcaa", sum := "3e6b58d8ad94abbc258374a01324ba8fe09eb7529dc07fd2dc72539eb838a38f", func := "loop.example/floorrooms/laws.FnExactPlanWide", spec := "fnExactPlanWide", unfollowed := true, recurses := true, apart := false, narrowed := true }
def FnExactPlanWideUptoSaid : Prop := fnExactPlanWideUptoRow.holds Try.pinned (OpenSpec.upto fnExactPlanWideSpec)

/-- 'laws.FnExactPlanBeside', WHERE WHAT IT READS IS OF BULK AT MOST 1048576: true; the input reads as it did. -/
def fnExactPlanBesideUptoRow : OpenClaim := { program := "ythboiobapmagcaa", sum := "3e6b58d8ad94abbc258374a01324ba8fe09eb7529dc07fd2dc72539eb838a38f", func := "loop.example/floorrooms/laws.FnExactPlanBeside", spec := "fnExactPlanBeside", unfollowed := true, recurses := true, apart := false, narrowed := true }
def FnExactPlanBesideUptoSaid : Prop := fnExactPlanBesideUptoRow.holds Try.pinned (OpenSpec.upto fnExactPlanBesideSpec)

/-- 'laws.FnExactPlanUnder', WHERE WHAT IT READS IS OF BULK AT MOST 1048576: true; the input reads as it did. -/
def fnExactPlanUnderUptoRow : OpenClaim := { program := "ythboiobapmagcaa", sum := "3e6b58d8ad94abbc258374a01324ba8fe09eb7529dc07fd2dc72539eb838a38f", func := "loop.example/floorrooms/laws.FnExactPlanUnder", spec := "fnExactPlanUnder", unfollowed := true, recurses := true, apart := false, narrowed := true }
def FnExactPlanUnderUptoSaid : Prop := fnExactPlanUnderUptoRow.holds Try.pinned (OpenSpec.upto fnExactPlanUnderSpec)

/-- 'laws.FnExactPlanSplit', WHERE WHAT IT READS IS OF BULK AT MOST 1048576: true; the input reads as it did. -/
def fnExactPlanSplitUptoRow : OpenClaim := { program := "ythboiobapmagcaa", sum := "3e6b58d8ad94abbc258374a01324ba8fe09eb7529dc07fd2dc72539eb838a38f", func := "loop.example/floorrooms/laws.FnExactPlanSplit", spec := "fnExactPlanSplit", unfollowed := true, recurses := true, apart := false, narrowed := true }
def FnExactPlanSplitUptoSaid : Prop := fnExactPlanSplitUptoRow.holds Try.pinned (OpenSpec.upto fnExactPlanSplitSpec)

/-- 'laws.FnExactPlanMerge', WHERE WHAT IT READS IS OF BULK AT MOST 1048576: true; the input reads as it did. -/
def fnExactPlanMergeUptoRow : OpenClaim := { program := "ythboiobapmagcaa", sum := "3e6b58d8ad94abbc258374a01324ba8fe09eb7529dc07fd2dc72539eb838a38f", func := "loop.example/floorrooms/laws.FnExactPlanMerge", spec := "fnExactPlanMerge", unfollowed := true, recurses := true, apart := false, narrowed := true }
def FnExactPlanMergeUptoSaid : Prop := fnExactPlanMergeUptoRow.holds Try.pinned (OpenSpec.upto fnExactPlanMergeSpec)

/-- 'laws.FnExactPlanAreas', WHERE WHAT IT READS IS OF BULK AT MOST 1048576: true; the input reads as it did. -/
def fnExactPlanAreasUptoRow : OpenClaim := { program := "ythboiobapmagcaa", sum := "3e6b58d8ad94abbc258374a01324ba8fe09eb7529dc07fd2dc72539eb838a38f", func := "loop.example/floorrooms/laws.FnExactPlanAreas", spec := "fnExactPlanAreas", unfollowed := true, recurses := true, apart := false, narrowed := true }
def FnExactPlanAreasUptoSaid : Prop := fnExactPlanAreasUptoRow.holds Try.pinned (OpenSpec.upto fnExactPlanAreasSpec)

/-- 'laws.FnExactPlanTrans', WHERE WHAT IT READS IS OF BULK AT MOST 1048576: true; the input reads as it did. -/
def fnExactPlanTransUptoRow : OpenClaim := { program := "ythboiobapmagcaa", sum := "3e6b58d8ad94abbc258374a01324ba8fe09eb7529dc07fd2dc72539eb838a38f", func := "loop.example/floorrooms/laws.FnExactPlanTrans", spec := "fnExactPlanTrans", unfollowed := true, recurses := true, apart := false, narrowed := true }
def FnExactPlanTransUptoSaid : Prop := fnExactPlanTransUptoRow.holds Try.pinned (OpenSpec.upto fnExactPlanTransSpec)

end Rows
end Go.Proofs.Ythboiobapmagcaa
