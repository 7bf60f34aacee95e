/-
  No cell of these rows narrows 'for every input' (looked for: loops, veiled, ifaces, maps, wideKeys, modest, calm, conditions, laid).
  DERIVED. THE GIVEN ROWS OF THIS SEAT. 6 by the template 'for every input the law returns true; each argument reads behind the call as it read before'; 0 by the template 'total and deterministic' (their statements: YtpgcpmfemcfoaaaTotals.lean).
  GIVEN WITH THE SEED: the statements are not yours to turn. If you find one false, say at which input.
  Laid BY PROGRAM, IN A SANDBOX (cutbox-rows.mjs): the forced cells as the released guide's own fill.sh prints them over the translation 6c87326dcc0484e2… (all of the seat's roots in one cut). By AI agents, Wed Nov 11 2026. No macro, syntax, notation, axiom, sorry.
-/
import Derived.Test.YtpgcpmfemcfoaaaChecked
import GoSem.Claim
import GoSem.ClaimJoined
import GoSem.ClaimMapViews
import Derived.JoinedTies
import Derived.KernelRfl
namespace Go.Proofs.Ytpgcpmfemcfoaaa
/- THE CELL 'sum', in the pinned program and in every row, IS THE sha256 OF THE DUMP (.gsa) THAT YtpgcpmfemcfoaaaProg.lean LOADS. Nothing in Lean hashes anything: it is a label: what it is worth is what the hold of that sum in a sandbox is worth. -/
noncomputable def Try.pinned : Pinned := { name := "ytpgcpmfemcfoaaa", sum := "6c87326dcc0484e2248af3e24377bf75e412a638c6858ded5e53890fccfd9308", checked := Try.checked }
namespace Rows
def none {H : Type} : Left H := { results := [], args := [] }

/-- 'laws.FnOrderSlide': WHATEVER THE INPUT: true; the input reads as it did. -/
def fnOrderSlideSpec : ChangeSpec := { name := "fnOrderSlide", fn := fun _ => fun
  | [d] => { results := [.lit (.bool true)], args := [d] }
  | _ => none }
def fnOrderSlideRow : OpenClaim := { program := "ytpgcpmfemcfoaaa", sum := "6c87326dcc0484e2248af3e24377bf75e412a638c6858ded5e53890fccfd9308", func := "loop.example/floorrooms/laws.FnOrderSlide", spec := "fnOrderSlide", unfollowed := true, recurses := true, plainKeys := false, apart := false }
def FnOrderSlideSaid : Prop := fnOrderSlideRow.holds Try.pinned (OpenSpec.ofChange fnOrderSlideSpec)

/-- ITS FALSE NEIGHBOUR: 'it returns false'. Refute it at one input. -/
def fnOrderSlideWrong : ChangeSpec := { name := "fnOrderSlide", fn := fun _ => fun
  | [d] => { results := [.lit (.bool false)], args := [d] }
  | _ => none }
def FnOrderSlideWrongFalsely : Prop := fnOrderSlideRow.holds Try.pinned (OpenSpec.ofChange fnOrderSlideWrong)

/-- 'laws.FnCountRooms': WHATEVER THE INPUT: true; the input reads as it did. -/
def fnCountRoomsSpec : ChangeSpec := { name := "fnCountRooms", fn := fun _ => fun
  | [d] => { results := [.lit (.bool true)], args := [d] }
  | _ => none }
def fnCountRoomsRow : OpenClaim := { program := "ytpgcpmfemcfoaaa", sum := "6c87326dcc0484e2248af3e24377bf75e412a638c6858ded5e53890fccfd9308", func := "loop.example/floorrooms/laws.FnCountRooms", spec := "fnCountRooms", unfollowed := true, recurses := true, plainKeys := false, apart := false }
def FnCountRoomsSaid : Prop := fnCountRoomsRow.holds Try.pinned (OpenSpec.ofChange fnCountRoomsSpec)

/-- ITS FALSE NEIGHBOUR: 'it returns false'. Refute it at one input. -/
def fnCountRoomsWrong : ChangeSpec := { name := "fnCountRooms", fn := fun _ => fun
  | [d] => { results := [.lit (.bool false)], args := [d] }
  | _ => none }
def FnCountRoomsWrongFalsely : Prop := fnCountRoomsRow.holds Try.pinned (OpenSpec.ofChange fnCountRoomsWrong)

/-- 'laws.FnCountPlain': WHATEVER THE INPUT: true; the input reads as it did. -/
def fnCountPlainSpec : ChangeSpec := { name := "fnCountPlain", fn := fun _ => fun
  | [d] => { results := [.lit (.bool true)], args := [d] }
  | _ => none }
def fnCountPlainRow : OpenClaim := { program := "ytpgcpmfemcfoaaa", sum := "6c87326dcc0484e2248af3e24377bf75e412a638c6858ded5e53890fccfd9308", func := "loop.example/floorrooms/laws.FnCountPlain", spec := "fnCountPlain", unfollowed := true, recurses := true, plainKeys := false, apart := false }
def FnCountPlainSaid : Prop := fnCountPlainRow.holds Try.pinned (OpenSpec.ofChange fnCountPlainSpec)

/-- ITS FALSE NEIGHBOUR: 'it returns false'. Refute it at one input. -/
def fnCountPlainWrong : ChangeSpec := { name := "fnCountPlain", fn := fun _ => fun
  | [d] => { results := [.lit (.bool false)], args := [d] }
  | _ => none }
def FnCountPlainWrongFalsely : Prop := fnCountPlainRow.holds Try.pinned (OpenSpec.ofChange fnCountPlainWrong)

/-- 'laws.FnCountCut': WHATEVER THE INPUT: true; the input reads as it did. -/
def fnCountCutSpec : ChangeSpec := { name := "fnCountCut", fn := fun _ => fun
  | [d] => { results := [.lit (.bool true)], args := [d] }
  | _ => none }
def fnCountCutRow : OpenClaim := { program := "ytpgcpmfemcfoaaa", sum := "6c87326dcc0484e2248af3e24377bf75e412a638c6858ded5e53890fccfd9308", func := "loop.example/floorrooms/laws.FnCountCut", spec := "fnCountCut", unfollowed := true, recurses := true, plainKeys := false, apart := false }
def FnCountCutSaid : Prop := fnCountCutRow.holds Try.pinned (OpenSpec.ofChange fnCountCutSpec)

/-- ITS FALSE NEIGHBOUR: 'it returns false'. Refute it at one input. -/
def fnCountCutWrong : ChangeSpec := { name := "fnCountCut", fn := fun _ => fun
  | [d] => { results := [.lit (.bool false)], args := [d] }
  | _ => none }
def FnCountCutWrongFalsely : Prop := fnCountCutRow.holds Try.pinned (OpenSpec.ofChange fnCountCutWrong)

/-- 'laws.FnCountOrders': WHATEVER THE INPUT: true; the input reads as it did. -/
def fnCountOrdersSpec : ChangeSpec := { name := "fnCountOrders", fn := fun _ => fun
  | [d] => { results := [.lit (.bool true)], args := [d] }
  | _ => none }
def fnCountOrdersRow : OpenClaim := { program := "ytpgcpmfemcfoaaa", sum := "6c87326dcc0484e2248af3e24377bf75e412a638c6858ded5e53890fccfd9308", func := "loop.example/floorrooms/laws.FnCountOrders", spec := "fnCountOrders", unfollowed := true, recurses := true, plainKeys := false, apart := false }
def FnCountOrdersSaid : Prop := fnCountOrdersRow.holds Try.pinned (OpenSpec.ofChange fnCountOrdersSpec)

/-- ITS FALSE NEIGHBOUR: 'it returns false'. Refute it at one input. -/
def fnCountOrdersWrong : ChangeSpec := { name := "fnCountOrders", fn := fun _ => fun
  | [d] => { results := [.lit (.bool false)], args := [d] }
  | _ => none }
def FnCountOrdersWrongFalsely : Prop := fnCountOrdersRow.holds Try.pinned (OpenSpec.ofChange fnCountOrdersWrong)

/-- 'laws.FnOneRow': WHATEVER THE INPUT: true; the input reads as it did. -/
def fnOneRowSpec : ChangeSpec := { name := "fnOneRow", fn := fun _ => fun
  | [d] => { results := [.lit (.bool true)], args := [d] }
  | _ => none }
def fnOneRowRow : OpenClaim := { program := "ytpgcpmfemcfoaaa", sum := "6c87326dcc0484e2248af3e24377bf75e412a638c6858ded5e53890fccfd9308", func := "loop.example/floorrooms/laws.FnOneRow", spec := "fnOneRow", unfollowed := true, recurses := true, plainKeys := false, apart := false }
def FnOneRowSaid : Prop := fnOneRowRow.holds Try.pinned (OpenSpec.ofChange fnOneRowSpec)

/-- ITS FALSE NEIGHBOUR: 'it returns false'. Refute it at one input. -/
def fnOneRowWrong : ChangeSpec := { name := "fnOneRow", fn := fun _ => fun
  | [d] => { results := [.lit (.bool false)], args := [d] }
  | _ => none }
def FnOneRowWrongFalsely : Prop := fnOneRowRow.holds Try.pinned (OpenSpec.ofChange fnOneRowWrong)

/- THE SECOND FORM. 'bulk': how many values and letters a reading holds, each counted each time it is reached (what is shared counts as often as it is met; a slice's spare places count too). A statement '..UptoSaid' is the law's where the arguments, and the package variables that the reading takes, are together of bulk at most 1048576: NARROWER than '..Said'. Prove '..Said' where nothing that the law and all that it calls make is longer than what came in: it says more and counts as full. Else prove '..UptoSaid'. A law counts once. -/
mutual
def uptoBulk {H : Type} : DataW H → Nat
  | .lit (.string bytes) => bytes.length + 1
  | .lit _ => 1
  | .nil => 1
  | .ptr d => uptoBulk d + 1
  | .slice elems spare => uptoBulkAll elems + uptoBulkAll spare + 1
  | .agg parts => uptoBulkAll parts + 1
  | .iface _ d => uptoBulk d + 1
  | .map entries => uptoBulkEntries entries + 1
  | .held _ => 1
def uptoBulkAll {H : Type} : List (DataW H) → Nat
  | [] => 0
  | d :: r => uptoBulk d + uptoBulkAll r
def uptoBulkEntries {H : Type} : List (Lit × DataW H) → Nat
  | [] => 0
  | x :: r => uptoBulkEntry x + uptoBulkEntries r
def uptoBulkEntry {H : Type} : Lit × DataW H → Nat
  | (.string bytes, d) => bytes.length + uptoBulk d + 1
  | (_, d) => uptoBulk d + 1
 end
def uptoSmall : (H : Type) → List (DataW H) → Bool := fun _ ds => decide (uptoBulkAll ds ≤ 1048576)
def OpenSpec.upto (s : _root_.Go.ChangeSpec) : _root_.Go.OpenSpec := { _root_.Go.OpenSpec.ofChange s with cond := some uptoSmall }

/-- 'laws.FnOrderSlide', WHERE WHAT IT READS IS OF BULK AT MOST 1048576: true; the input reads as it did. -/
def fnOrderSlideUptoRow : OpenClaim := { program := "ytpgcpmfemcfoaaa", sum := "6c87326dcc0484e2248af3e24377bf75e412a638c6858ded5e53890fccfd9308", func := "loop.example/floorrooms/laws.FnOrderSlide", spec := "fnOrderSlide", unfollowed := true, recurses := true, plainKeys := false, apart := false, narrowed := true }
def FnOrderSlideUptoSaid : Prop := fnOrderSlideUptoRow.holds Try.pinned (OpenSpec.upto fnOrderSlideSpec)

/-- 'laws.FnCountRooms', WHERE WHAT IT READS IS OF BULK AT MOST 1048576: true; the input reads as it did. -/
def fnCountRoomsUptoRow : OpenClaim := { program := "ytpgcpmfemcfoaaa", sum := "6c87326dcc0484e2248af3e24377bf75e412a638c6858ded5e53890fccfd9308", func := "loop.example/floorrooms/laws.FnCountRooms", spec := "fnCountRooms", unfollowed := true, recurses := true, plainKeys := false, apart := false, narrowed := true }
def FnCountRoomsUptoSaid : Prop := fnCountRoomsUptoRow.holds Try.pinned (OpenSpec.upto fnCountRoomsSpec)

/-- 'laws.FnCountPlain', WHERE WHAT IT READS IS OF BULK AT MOST 1048576: true; the input reads as it did. -/
def fnCountPlainUptoRow : OpenClaim := { program := "ytpgcpmfemcfoaaa", sum := "6c87326dcc0484e2248af3e24377bf75e412a638c6858ded5e53890fccfd9308", func := "loop.example/floorrooms/laws.FnCountPlain", spec := "fnCountPlain", unfollowed := true, recurses := true, plainKeys := false, apart := false, narrowed := true }
def FnCountPlainUptoSaid : Prop := fnCountPlainUptoRow.holds Try.pinned (OpenSpec.upto fnCountPlainSpec)

/-- 'laws.FnCountCut', WHERE WHAT IT READS IS OF BULK AT MOST 1048576: true; the input reads as it did. -/
def fnCountCutUptoRow : OpenClaim := { program := "ytpgcpmfemcfoaaa", sum := "6c87326dcc0484e2248af3e24377bf75e412a638c6858ded5e53890fccfd9308", func := "loop.example/floorrooms/laws.FnCountCut", spec := "fnCountCut", unfollowed := true, recurses := true, plainKeys := false, apart := false, narrowed := true }
def FnCountCutUptoSaid : Prop := fnCountCutUptoRow.holds Try.pinned (OpenSpec.upto fnCountCutSpec)

/-- 'laws.FnCountOrders', WHERE WHAT IT READS IS OF BULK AT MOST 1048576: true; the input reads as it did. -/
def fnCountOrdersUptoRow : OpenClaim := { program := "ytpgcpmfemcfoaaa", sum := "6c87326dcc0484e2248af3e24377bf75e412a638c6858ded5e53890fccfd9308", func := "loop.example/floorrooms/laws.FnCountOrders", spec := "fnCountOrders", unfollowed := true, recurses := true, plainKeys := false, apart := false, narrowed := true }
def FnCountOrdersUptoSaid : Prop := fnCountOrdersUptoRow.holds Try.pinned (OpenSpec.upto fnCountOrdersSpec)

/-- 'laws.FnOneRow', WHERE WHAT IT READS IS OF BULK AT MOST 1048576: true; the input reads as it did. -/
def fnOneRowUptoRow : OpenClaim := { program := "ytpgcpmfemcfoaaa", sum := "6c87326dcc0484e2248af3e24377bf75e412a638c6858ded5e53890fccfd9308", func := "loop.example/floorrooms/laws.FnOneRow", spec := "fnOneRow", unfollowed := true, recurses := true, plainKeys := false, apart := false, narrowed := true }
def FnOneRowUptoSaid : Prop := fnOneRowUptoRow.holds Try.pinned (OpenSpec.upto fnOneRowSpec)

end Rows
end Go.Proofs.Ytpgcpmfemcfoaaa
