/-
  No cell of these rows narrows 'for every input' (looked for: loops, veiled, ifaces, maps, wideKeys, modest, calm, conditions, laid).
  DERIVED. THE GIVEN ROWS OF THIS SEAT. 6 by the template 'for every input the law returns true; each argument reads behind the call as it read before'; 0 by the template 'total and deterministic' (their statements: YtlgbefmgpmdolaaTotals.lean).
  GIVEN WITH THE SEED: the statements are not yours to turn. If you find one false, say at which input.
  Laid BY PROGRAM, IN A SANDBOX (cutbox-rows.mjs): the forced cells as the released guide's own fill.sh prints them over the translation aee01380930b7077… (all of the seat's roots in one cut). By AI agents, Wed Nov 11 2026. No macro, syntax, notation, axiom, sorry.
-/
import Derived.Test.YtlgbefmgpmdolaaChecked
import GoSem.Claim
import GoSem.ClaimJoined
import GoSem.ClaimMapViews
import Derived.JoinedTies
import Derived.KernelRfl
namespace Go.Proofs.Ytlgbefmgpmdolaa
/- THE CELL 'sum', in the pinned program and in every row, IS THE sha256 OF THE DUMP (.gsa) THAT YtlgbefmgpmdolaaProg.lean LOADS. Nothing in Lean hashes anything: it is a label: what it is worth is what the hold of that sum in a sandbox is worth. -/
noncomputable def Try.pinned : Pinned := { name := "ytlgbefmgpmdolaa", sum := "aee01380930b707797c539730f81cb7a77f15968c6b925aec7a067d25abd7f3b", checked := Try.checked }
namespace Rows
def none {H : Type} : Left H := { results := [], args := [] }

/-- 'laws.FnExactCountRooms': WHATEVER THE INPUT: true; the input reads as it did. -/
def fnExactCountRoomsSpec : ChangeSpec := { name := "fnExactCountRooms", fn := fun _ => fun
  | [d1, d2] => { results := [.lit (.bool true)], args := [d1, d2] }
  | _ => none }
def fnExactCountRoomsRow : OpenClaim := { program := "ytlgbefmgpmdolaa", sum := "aee01380930b707797c539730f81cb7a77f15968c6b925aec7a067d25abd7f3b", func := "loop.example/floorrooms/laws.FnExactCountRooms", spec := "fnExactCountRooms", unfollowed := true, recurses := true, plainKeys := false, apart := false }
def FnExactCountRoomsSaid : Prop := fnExactCountRoomsRow.holds Try.pinned (OpenSpec.ofChange fnExactCountRoomsSpec)

/-- ITS FALSE NEIGHBOUR: 'it returns false'. Refute it at one input. -/
def fnExactCountRoomsWrong : ChangeSpec := { name := "fnExactCountRooms", fn := fun _ => fun
  | [d1, d2] => { results := [.lit (.bool false)], args := [d1, d2] }
  | _ => none }
def FnExactCountRoomsWrongFalsely : Prop := fnExactCountRoomsRow.holds Try.pinned (OpenSpec.ofChange fnExactCountRoomsWrong)

/-- 'laws.FnExactCountPlain': WHATEVER THE INPUT: true; the input reads as it did. -/
def fnExactCountPlainSpec : ChangeSpec := { name := "fnExactCountPlain", fn := fun _ => fun
  | [d1, d2] => { results := [.lit (.bool true)], args := [d1, d2] }
  | _ => none }
def fnExactCountPlainRow : OpenClaim := { program := "ytlgbefmgpmdolaa", sum := "aee01380930b707797c539730f81cb7a77f15968c6b925aec7a067d25abd7f3b", func := "loop.example/floorrooms/laws.FnExactCountPlain", spec := "fnExactCountPlain", unfollowed := true, recurses := true, plainKeys := false, apart := false }
def FnExactCountPlainSaid : Prop := fnExactCountPlainRow.holds Try.pinned (OpenSpec.ofChange fnExactCountPlainSpec)

/-- ITS FALSE NEIGHBOUR: 'it returns false'. Refute it at one input. -/
def fnExactCountPlainWrong : ChangeSpec := { name := "fnExactCountPlain", fn := fun _ => fun
  | [d1, d2] => { results := [.lit (.bool false)], args := [d1, d2] }
  | _ => none }
def FnExactCountPlainWrongFalsely : Prop := fnExactCountPlainRow.holds Try.pinned (OpenSpec.ofChange fnExactCountPlainWrong)

/-- 'laws.FnExactCountCut': WHATEVER THE INPUT: true; the input reads as it did. -/
def fnExactCountCutSpec : ChangeSpec := { name := "fnExactCountCut", fn := fun _ => fun
  | [d1, d2] => { results := [.lit (.bool true)], args := [d1, d2] }
  | _ => none }
def fnExactCountCutRow : OpenClaim := { program := "ytlgbefmgpmdolaa", sum := "aee01380930b707797c539730f81cb7a77f15968c6b925aec7a067d25abd7f3b", func := "loop.example/floorrooms/laws.FnExactCountCut", spec := "fnExactCountCut", unfollowed := true, recurses := true, plainKeys := false, apart := false }
def FnExactCountCutSaid : Prop := fnExactCountCutRow.holds Try.pinned (OpenSpec.ofChange fnExactCountCutSpec)

/-- ITS FALSE NEIGHBOUR: 'it returns false'. Refute it at one input. -/
def fnExactCountCutWrong : ChangeSpec := { name := "fnExactCountCut", fn := fun _ => fun
  | [d1, d2] => { results := [.lit (.bool false)], args := [d1, d2] }
  | _ => none }
def FnExactCountCutWrongFalsely : Prop := fnExactCountCutRow.holds Try.pinned (OpenSpec.ofChange fnExactCountCutWrong)

/-- 'laws.FnExactCountOrders': WHATEVER THE INPUT: true; the input reads as it did. -/
def fnExactCountOrdersSpec : ChangeSpec := { name := "fnExactCountOrders", fn := fun _ => fun
  | [d1, d2, d3] => { results := [.lit (.bool true)], args := [d1, d2, d3] }
  | _ => none }
def fnExactCountOrdersRow : OpenClaim := { program := "ytlgbefmgpmdolaa", sum := "aee01380930b707797c539730f81cb7a77f15968c6b925aec7a067d25abd7f3b", func := "loop.example/floorrooms/laws.FnExactCountOrders", spec := "fnExactCountOrders", unfollowed := true, recurses := true, plainKeys := false, apart := false }
def FnExactCountOrdersSaid : Prop := fnExactCountOrdersRow.holds Try.pinned (OpenSpec.ofChange fnExactCountOrdersSpec)

/-- ITS FALSE NEIGHBOUR: 'it returns false'. Refute it at one input. -/
def fnExactCountOrdersWrong : ChangeSpec := { name := "fnExactCountOrders", fn := fun _ => fun
  | [d1, d2, d3] => { results := [.lit (.bool false)], args := [d1, d2, d3] }
  | _ => none }
def FnExactCountOrdersWrongFalsely : Prop := fnExactCountOrdersRow.holds Try.pinned (OpenSpec.ofChange fnExactCountOrdersWrong)

/-- 'laws.FnExactCountFirst': WHATEVER THE INPUT: true; the input reads as it did. -/
def fnExactCountFirstSpec : ChangeSpec := { name := "fnExactCountFirst", fn := fun _ => fun
  | [d1, d2, d3] => { results := [.lit (.bool true)], args := [d1, d2, d3] }
  | _ => none }
def fnExactCountFirstRow : OpenClaim := { program := "ytlgbefmgpmdolaa", sum := "aee01380930b707797c539730f81cb7a77f15968c6b925aec7a067d25abd7f3b", func := "loop.example/floorrooms/laws.FnExactCountFirst", spec := "fnExactCountFirst", unfollowed := true, recurses := true, plainKeys := false, apart := false }
def FnExactCountFirstSaid : Prop := fnExactCountFirstRow.holds Try.pinned (OpenSpec.ofChange fnExactCountFirstSpec)

/-- ITS FALSE NEIGHBOUR: 'it returns false'. Refute it at one input. -/
def fnExactCountFirstWrong : ChangeSpec := { name := "fnExactCountFirst", fn := fun _ => fun
  | [d1, d2, d3] => { results := [.lit (.bool false)], args := [d1, d2, d3] }
  | _ => none }
def FnExactCountFirstWrongFalsely : Prop := fnExactCountFirstRow.holds Try.pinned (OpenSpec.ofChange fnExactCountFirstWrong)

/-- 'laws.FnExactOrderSlide': WHATEVER THE INPUT: true; the input reads as it did. -/
def fnExactOrderSlideSpec : ChangeSpec := { name := "fnExactOrderSlide", fn := fun _ => fun
  | [d] => { results := [.lit (.bool true)], args := [d] }
  | _ => none }
def fnExactOrderSlideRow : OpenClaim := { program := "ytlgbefmgpmdolaa", sum := "aee01380930b707797c539730f81cb7a77f15968c6b925aec7a067d25abd7f3b", func := "loop.example/floorrooms/laws.FnExactOrderSlide", spec := "fnExactOrderSlide", unfollowed := true, recurses := true, plainKeys := false, apart := false }
def FnExactOrderSlideSaid : Prop := fnExactOrderSlideRow.holds Try.pinned (OpenSpec.ofChange fnExactOrderSlideSpec)

/-- ITS FALSE NEIGHBOUR: 'it returns false'. Refute it at one input. -/
def fnExactOrderSlideWrong : ChangeSpec := { name := "fnExactOrderSlide", fn := fun _ => fun
  | [d] => { results := [.lit (.bool false)], args := [d] }
  | _ => none }
def FnExactOrderSlideWrongFalsely : Prop := fnExactOrderSlideRow.holds Try.pinned (OpenSpec.ofChange fnExactOrderSlideWrong)

/- THE SECOND FORM. 'bulk': how many values and letters a reading holds, each counted each time it is reached (what is shared counts as often as it is met; a slice's spare places count too). A statement '..UptoSaid' is the law's where the arguments, and the package variables that the reading takes, are together of bulk at most 1048576: NARROWER than '..Said'. Prove '..Said' where nothing that the law and all that it calls make is longer than what came in: it says more and counts as full. Else prove '..UptoSaid'. A law counts once. -/
mutual
def uptoBulk {H : Type} : DataW H → Nat
  | .lit (.string bytes) => bytes.length + 1
  | .lit _ => 1
  | .nil => 1
  | .ptr d => uptoBulk d + 1
  | .slice elems spare => uptoBulkAll elems + uptoBulkAll spare + 1
  | .agg parts => uptoBulkAll parts + 1
  | .iface _ d => uptoBulk d + 1
  | .map entries => uptoBulkEntries entries + 1
  | .held _ => 1
def uptoBulkAll {H : Type} : List (DataW H) → Nat
  | [] => 0
  | d :: r => uptoBulk d + uptoBulkAll r
def uptoBulkEntries {H : Type} : List (Lit × DataW H) → Nat
  | [] => 0
  | x :: r => uptoBulkEntry x + uptoBulkEntries r
def uptoBulkEntry {H : Type} : Lit × DataW H → Nat
  | (.string bytes, d) => bytes.length + uptoBulk d + 1
  | (_, d) => uptoBulk d + 1
 end
def uptoSmall : (H : Type) → List (DataW H) → Bool := fun _ ds => decide (uptoBulkAll ds ≤ 1048576)
def OpenSpec.upto (s : _root_.Go.ChangeSpec) : _root_.Go.OpenSpec := { _root_.Go.OpenSpec.ofChange s with cond := some uptoSmall }

/-- 'laws.FnExactCountRooms', WHERE WHAT IT READS IS OF BULK AT MOST 1048576: true; the input reads as it did. -/
def fnExactCountRoomsUptoRow : OpenClaim := { program := "ytlgbefmgpmdolaa", sum := "aee01380930b707797c539730f81cb7a77f15968c6b925aec7a067d25abd7f3b", func := "loop.example/floorrooms/laws.FnExactCountRooms", spec := "fnExactCountRooms", unfollowed := true, recurses := true, plainKeys := false, apart := false, narrowed := true }
def FnExactCountRoomsUptoSaid : Prop := fnExactCountRoomsUptoRow.holds Try.pinned (OpenSpec.upto fnExactCountRoomsSpec)

/-- 'laws.FnExactCountPlain', WHERE WHAT IT READS IS OF BULK AT MOST 1048576: true; the input reads as it did. -/
def fnExactCountPlainUptoRow : OpenClaim := { program := "ytlgbefmgpmdolaa", sum := "aee01380930b707797c539730f81cb7a77f15968c6b925aec7a067d25abd7f3b", func := "loop.example/floorrooms/laws.FnExactCountPlain", spec := "fnExactCountPlain", unfollowed := true, recurses := true, plainKeys := false, apart := false, narrowed := true }
def FnExactCountPlainUptoSaid : Prop := fnExactCountPlainUptoRow.holds Try.pinned (OpenSpec.upto fnExactCountPlainSpec)

/-- 'laws.FnExactCountCut', WHERE WHAT IT READS IS OF BULK AT MOST 1048576: true; the input reads as it did. -/
def fnExactCountCutUptoRow : OpenClaim := { program := "ytlgbefmgpmdolaa", sum := "aee01380930b707797c539730f81cb7a77f15968c6b925aec7a067d25abd7f3b", func := "loop.example/floorrooms/laws.FnExactCountCut", spec := "fnExactCountCut", unfollowed := true, recurses := true, plainKeys := false, apart := false, narrowed := true }
def FnExactCountCutUptoSaid : Prop := fnExactCountCutUptoRow.holds Try.pinned (OpenSpec.upto fnExactCountCutSpec)

/-- 'laws.FnExactCountOrders', WHERE WHAT IT READS IS OF BULK AT MOST 1048576: true; the input reads as it did. -/
def fnExactCountOrdersUptoRow : OpenClaim := { program := "ytlgbefmgpmdolaa", sum := "aee01380930b707797c539730f81cb7a77f15968c6b925aec7a067d25abd7f3b", func := "loop.example/floorrooms/laws.FnExactCountOrders", spec := "fnExactCountOrders", unfollowed := true, recurses := true, plainKeys := false, apart := false, narrowed := true }
def FnExactCountOrdersUptoSaid : Prop := fnExactCountOrdersUptoRow.holds Try.pinned (OpenSpec.upto fnExactCountOrdersSpec)

/-- 'laws.FnExactCountFirst', WHERE WHAT IT READS IS OF BULK AT MOST 1048576: true; the input reads as it did. -/
def fnExactCountFirstUptoRow : OpenClaim := { program := "ytlgbefmgpmdolaa", sum := "aee01380930b707797c539730f81cb7a77f15968c6b925aec7a067d25abd7f3b", func := "loop.example/floorrooms/laws.FnExactCountFirst", spec := "fnExactCountFirst", unfollowed := true, recurses := true, plainKeys := false, apart := false, narrowed := true }
def FnExactCountFirstUptoSaid : Prop := fnExactCountFirstUptoRow.holds Try.pinned (OpenSpec.upto fnExactCountFirstSpec)

/-- 'laws.FnExactOrderSlide', WHERE WHAT IT READS IS OF BULK AT MOST 1048576: true; the input reads as it did. -/
def fnExactOrderSlideUptoRow : OpenClaim := { program := "ytlgbefmgpmdolaa", sum := "aee01380930b707797c539730f81cb7a77f15968c6b925aec7a067d25abd7f3b", func := "loop.example/floorrooms/laws.FnExactOrderSlide", spec := "fnExactOrderSlide", unfollowed := true, recurses := true, plainKeys := false, apart := false, narrowed := true }
def FnExactOrderSlideUptoSaid : Prop := fnExactOrderSlideUptoRow.holds Try.pinned (OpenSpec.upto fnExactOrderSlideSpec)

end Rows
end Go.Proofs.Ytlgbefmgpmdolaa
