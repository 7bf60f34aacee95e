/-
  No cell of these rows narrows 'for every input' (looked for: loops, veiled, ifaces, maps, wideKeys, modest, calm, conditions, laid).
  DERIVED. THE GIVEN ROWS OF THIS SEAT. 4 by the template 'for every input the law returns true; each argument reads behind the call as it read before'; 0 by the template 'total and deterministic' (their statements: YtiaimcedcjapdaaTotals.lean).
  GIVEN WITH THE SEED: the statements are not yours to turn. If you find one false, say at which input.
  Laid BY PROGRAM, IN A SANDBOX (cutbox-rows.mjs): the forced cells as the released guide's own fill.sh prints them over the translation ae2a9888d0876bf5… (all of the seat's roots in one cut). By AI agents, Wed Nov 11 2026. No macro, syntax, notation, axiom, sorry.
-/
import Derived.Test.YtiaimcedcjapdaaChecked
import GoSem.Claim
import GoSem.ClaimJoined
import GoSem.ClaimMapViews
import Derived.JoinedTies
import Derived.KernelRfl
namespace Go.Proofs.Ytiaimcedcjapdaa
/- THE CELL 'sum', in the pinned program and in every row, IS THE sha256 OF THE DUMP (.gsa) THAT YtiaimcedcjapdaaProg.lean LOADS. Nothing in Lean hashes anything: it is a label: what it is worth is what the hold of that sum in a sandbox is worth. -/
noncomputable def Try.pinned : Pinned := { name := "ytiaimcedcjapdaa", sum := "ae2a9888d0876bf5dbbc2a1c423c01cf8f49572fc8e59a3c91bc5e3b4d895ea3", checked := Try.checked }
namespace Rows
def none {H : Type} : Left H := { results := [], args := [] }

/-- 'laws.FnPermTrans': WHATEVER THE INPUT: true; the input reads as it did. -/
def fnPermTransSpec : ChangeSpec := { name := "fnPermTrans", fn := fun _ => fun
  | [d] => { results := [.lit (.bool true)], args := [d] }
  | _ => none }
def fnPermTransRow : OpenClaim := { program := "ytiaimcedcjapdaa", sum := "ae2a9888d0876bf5dbbc2a1c423c01cf8f49572fc8e59a3c91bc5e3b4d895ea3", func := "loop.example/floorrooms/laws.FnPermTrans", spec := "fnPermTrans", unfollowed := true, recurses := true, plainKeys := false, apart := false }
def FnPermTransSaid : Prop := fnPermTransRow.holds Try.pinned (OpenSpec.ofChange fnPermTransSpec)

/-- ITS FALSE NEIGHBOUR: 'it returns false'. Refute it at one input. -/
def fnPermTransWrong : ChangeSpec := { name := "fnPermTrans", fn := fun _ => fun
  | [d] => { results := [.lit (.bool false)], args := [d] }
  | _ => none }
def FnPermTransWrongFalsely : Prop := fnPermTransRow.holds Try.pinned (OpenSpec.ofChange fnPermTransWrong)

/-- 'laws.FnLongPerm': WHATEVER THE INPUT: true; the input reads as it did. -/
def fnLongPermSpec : ChangeSpec := { name := "fnLongPerm", fn := fun _ => fun
  | [d] => { results := [.lit (.bool true)], args := [d] }
  | _ => none }
def fnLongPermRow : OpenClaim := { program := "ytiaimcedcjapdaa", sum := "ae2a9888d0876bf5dbbc2a1c423c01cf8f49572fc8e59a3c91bc5e3b4d895ea3", func := "loop.example/floorrooms/laws.FnLongPerm", spec := "fnLongPerm", unfollowed := true, recurses := true, plainKeys := false, apart := false }
def FnLongPermSaid : Prop := fnLongPermRow.holds Try.pinned (OpenSpec.ofChange fnLongPermSpec)

/-- ITS FALSE NEIGHBOUR: 'it returns false'. Refute it at one input. -/
def fnLongPermWrong : ChangeSpec := { name := "fnLongPerm", fn := fun _ => fun
  | [d] => { results := [.lit (.bool false)], args := [d] }
  | _ => none }
def FnLongPermWrongFalsely : Prop := fnLongPermRow.holds Try.pinned (OpenSpec.ofChange fnLongPermWrong)

/-- 'laws.FnKindOrders': WHATEVER THE INPUT: true; the input reads as it did. -/
def fnKindOrdersSpec : ChangeSpec := { name := "fnKindOrders", fn := fun _ => fun
  | [d] => { results := [.lit (.bool true)], args := [d] }
  | _ => none }
def fnKindOrdersRow : OpenClaim := { program := "ytiaimcedcjapdaa", sum := "ae2a9888d0876bf5dbbc2a1c423c01cf8f49572fc8e59a3c91bc5e3b4d895ea3", func := "loop.example/floorrooms/laws.FnKindOrders", spec := "fnKindOrders", unfollowed := true, recurses := true, plainKeys := false, apart := false }
def FnKindOrdersSaid : Prop := fnKindOrdersRow.holds Try.pinned (OpenSpec.ofChange fnKindOrdersSpec)

/-- ITS FALSE NEIGHBOUR: 'it returns false'. Refute it at one input. -/
def fnKindOrdersWrong : ChangeSpec := { name := "fnKindOrders", fn := fun _ => fun
  | [d] => { results := [.lit (.bool false)], args := [d] }
  | _ => none }
def FnKindOrdersWrongFalsely : Prop := fnKindOrdersRow.holds Try.pinned (OpenSpec.ofChange fnKindOrdersWrong)

/-- 'laws.FnPermCut': WHATEVER THE INPUT: true; the input reads as it did. -/
def fnPermCutSpec : ChangeSpec := { name := "fnPermCut", fn := fun _ => fun
  | [d] => { results := [.lit (.bool true)], args := [d] }
  | _ => none }
def fnPermCutRow : OpenClaim := { program := "ytiaimcedcjapdaa", sum := "ae2a9888d0876bf5dbbc2a1c423c01cf8f49572fc8e59a3c91bc5e3b4d895ea3", func := "loop.example/floorrooms/laws.FnPermCut", spec := "fnPermCut", unfollowed := true, recurses := true, plainKeys := false, apart := false }
def FnPermCutSaid : Prop := fnPermCutRow.holds Try.pinned (OpenSpec.ofChange fnPermCutSpec)

/-- ITS FALSE NEIGHBOUR: 'it returns false'. Refute it at one input. -/
def fnPermCutWrong : ChangeSpec := { name := "fnPermCut", fn := fun _ => fun
  | [d] => { results := [.lit (.bool false)], args := [d] }
  | _ => none }
def FnPermCutWrongFalsely : Prop := fnPermCutRow.holds Try.pinned (OpenSpec.ofChange fnPermCutWrong)

/- THE SECOND FORM. 'bulk': how many values and letters a reading holds, each counted each time it is reached (what is shared counts as often as it is met; a slice's spare places count too). A statement '..UptoSaid' is the law's where the arguments, and the package variables that the reading takes, are together of bulk at most 1048576: NARROWER than '..Said'. Prove '..Said' where nothing that the law and all that it calls make is longer than what came in: it says more and counts as full. Else prove '..UptoSaid'. A law counts once. -/
mutual
def uptoBulk {H : Type} : DataW H → Nat
  | .lit (.string bytes) => bytes.length + 1
  | .lit _ => 1
  | .nil => 1
  | .ptr d => uptoBulk d + 1
  | .slice elems spare => uptoBulkAll elems + uptoBulkAll spare + 1
  | .agg parts => uptoBulkAll parts + 1
  | .iface _ d => uptoBulk d + 1
  | .map entries => uptoBulkEntries entries + 1
  | .held _ => 1
def uptoBulkAll {H : Type} : List (DataW H) → Nat
  | [] => 0
  | d :: r => uptoBulk d + uptoBulkAll r
def uptoBulkEntries {H : Type} : List (Lit × DataW H) → Nat
  | [] => 0
  | x :: r => uptoBulkEntry x + uptoBulkEntries r
def uptoBulkEntry {H : Type} : Lit × DataW H → Nat
  | (.string bytes, d) => bytes.length + uptoBulk d + 1
  | (_, d) => uptoBulk d + 1
 end
def uptoSmall : (H : Type) → List (DataW H) → Bool := fun _ ds => decide (uptoBulkAll ds ≤ 1048576)
def OpenSpec.upto (s : _root_.Go.ChangeSpec) : _root_.Go.OpenSpec := { _root_.Go.OpenSpec.ofChange s with cond := some uptoSmall }

/-- 'laws.FnPermTrans', WHERE WHAT IT READS IS OF BULK AT MOST 1048576: true; the input reads as it did. -/
def fnPermTransUptoRow : OpenClaim := { program := "ytiaimcedcjapdaa", sum := "ae2a9888d0876bf5dbbc2a1c423c01cf8f49572fc8e59a3c91bc5e3b4d895ea3", func := "loop.example/floorrooms/laws.FnPermTrans", spec := "fnPermTrans", unfollowed := true, recurses := true, plainKeys := false, apart := false, narrowed := true }
def FnPermTransUptoSaid : Prop := fnPermTransUptoRow.holds Try.pinned (OpenSpec.upto fnPermTransSpec)

/-- 'laws.FnLongPerm', WHERE WHAT IT READS IS OF BULK AT MOST 1048576: true; the input reads as it did. -/
def fnLongPermUptoRow : OpenClaim := { program := "ytiaimcedcjapdaa", sum := "ae2a9888d0876bf5dbbc2a1c423c01cf8f49572fc8e59a3c91bc5e3b4d895ea3", func := "loop.example/floorrooms/laws.FnLongPerm", spec := "fnLongPerm", unfollowed := true, recurses := true, plainKeys := false, apart := false, narrowed := true }
def FnLongPermUptoSaid : Prop := fnLongPermUptoRow.holds Try.pinned (OpenSpec.upto fnLongPermSpec)

/-- 'laws.FnKindOrders', WHERE WHAT IT READS IS OF BULK AT MOST 1048576: true; the input reads as it did. -/
def fnKindOrdersUptoRow : OpenClaim := { program := "ytiaimcedcjapdaa", sum := "ae2a9888d0876bf5dbbc2a1c423c01cf8f49572fc8e59a3c91bc5e3b4d895ea3", func := "loop.example/floorrooms/laws.FnKindOrders", spec := "fnKindOrders", unfollowed := true, recurses := true, plainKeys := false, apart := false, narrowed := true }
def FnKindOrdersUptoSaid : Prop := fnKindOrdersUptoRow.holds Try.pinned (OpenSpec.upto fnKindOrdersSpec)

/-- 'laws.FnPermCut', WHERE WHAT IT READS IS OF BULK AT MOST 1048576: true; the input reads as it did. -/
def fnPermCutUptoRow : OpenClaim := { program := "ytiaimcedcjapdaa", sum := "ae2a9888d0876bf5dbbc2a1c423c01cf8f49572fc8e59a3c91bc5e3b4d895ea3", func := "loop.example/floorrooms/laws.FnPermCut", spec := "fnPermCut", unfollowed := true, recurses := true, plainKeys := false, apart := false, narrowed := true }
def FnPermCutUptoSaid : Prop := fnPermCutUptoRow.holds Try.pinned (OpenSpec.upto fnPermCutSpec)

end Rows
end Go.Proofs.Ytiaimcedcjapdaa
