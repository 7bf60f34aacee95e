/-
  No cell of these rows narrows 'for every input' (looked for: loops, veiled, ifaces, maps, wideKeys, modest, calm, conditions, laid).
  DERIVED. THE GIVEN ROWS OF THIS SEAT. 7 by the template 'for every input the law returns true; each argument reads behind the call as it read before'; 0 by the template 'total and deterministic' (their statements: YthlbekookpcacaaTotals.lean).
  GIVEN WITH THE SEED: the statements are not yours to turn. If you find one false, say at which input.
  Laid BY PROGRAM, IN A SANDBOX (cutbox-rows.mjs): the forced cells as the released guide's own fill.sh prints them over the translation 0e81b7fc19d23e6c… (all of the seat's roots in one cut). By AI agents, Wed Nov 11 2026. No macro, syntax, notation, axiom, sorry.
-/
import Derived.Test.YthlbekookpcacaaChecked
import GoSem.Claim
import GoSem.ClaimJoined
import GoSem.ClaimMapViews
import Derived.JoinedTies
import Derived.KernelRfl
namespace Go.Proofs.Ythlbekookpcacaa
/- THE CELL 'sum', in the pinned program and in every row, IS THE sha256 OF THE DUMP (.gsa) THAT YthlbekookpcacaaProg.lean LOADS. Nothing in Lean hashes anything: it is a label: what it is worth is what the hold of that sum in a sandbox is worth. -/
noncomputable def Try.pinned : Pinned := { name := "ythlbekookpcacaa", sum := "0e81b7fc19d23e6c523c30ce65d408ab9cb6cffc8512c0be7acd3e459cb91b2a", checked := Try.checked }
namespace Rows
def none {H : Type} : Left H := { results := [], args := [] }

/-- 'laws.FnExactCutIs': WHATEVER THE INPUT: true; the input reads as it did. -/
def fnExactCutIsSpec : ChangeSpec := { name := "fnExactCutIs", fn := fun _ => fun
  | [d] => { results := [.lit (.bool true)], args := [d] }
  | _ => none }
def fnExactCutIsRow : OpenClaim := { program := "ythlbekookpcacaa", sum := "0e81b7fc19d23e6c523c30ce65d408ab9cb6cffc8512c0be7acd3e459cb91b2a", func := "loop.example/floorrooms/laws.FnExactCutIs", spec := "fnExactCutIs", unfollowed := true, recurses := true, plainKeys := false, apart := false }
def FnExactCutIsSaid : Prop := fnExactCutIsRow.holds Try.pinned (OpenSpec.ofChange fnExactCutIsSpec)

/-- ITS FALSE NEIGHBOUR: 'it returns false'. Refute it at one input. -/
def fnExactCutIsWrong : ChangeSpec := { name := "fnExactCutIs", fn := fun _ => fun
  | [d] => { results := [.lit (.bool false)], args := [d] }
  | _ => none }
def FnExactCutIsWrongFalsely : Prop := fnExactCutIsRow.holds Try.pinned (OpenSpec.ofChange fnExactCutIsWrong)

/-- 'laws.FnExactCutText': WHATEVER THE INPUT: true; the input reads as it did. -/
def fnExactCutTextSpec : ChangeSpec := { name := "fnExactCutText", fn := fun _ => fun
  | [d] => { results := [.lit (.bool true)], args := [d] }
  | _ => none }
def fnExactCutTextRow : OpenClaim := { program := "ythlbekookpcacaa", sum := "0e81b7fc19d23e6c523c30ce65d408ab9cb6cffc8512c0be7acd3e459cb91b2a", func := "loop.example/floorrooms/laws.FnExactCutText", spec := "fnExactCutText", unfollowed := true, recurses := true, plainKeys := false, apart := false }
def FnExactCutTextSaid : Prop := fnExactCutTextRow.holds Try.pinned (OpenSpec.ofChange fnExactCutTextSpec)

/-- ITS FALSE NEIGHBOUR: 'it returns false'. Refute it at one input. -/
def fnExactCutTextWrong : ChangeSpec := { name := "fnExactCutText", fn := fun _ => fun
  | [d] => { results := [.lit (.bool false)], args := [d] }
  | _ => none }
def FnExactCutTextWrongFalsely : Prop := fnExactCutTextRow.holds Try.pinned (OpenSpec.ofChange fnExactCutTextWrong)

/-- 'laws.FnExactCutDeep': WHATEVER THE INPUT: true; the input reads as it did. -/
def fnExactCutDeepSpec : ChangeSpec := { name := "fnExactCutDeep", fn := fun _ => fun
  | [d] => { results := [.lit (.bool true)], args := [d] }
  | _ => none }
def fnExactCutDeepRow : OpenClaim := { program := "ythlbekookpcacaa", sum := "0e81b7fc19d23e6c523c30ce65d408ab9cb6cffc8512c0be7acd3e459cb91b2a", func := "loop.example/floorrooms/laws.FnExactCutDeep", spec := "fnExactCutDeep", unfollowed := true, recurses := true, plainKeys := false, apart := false }
def FnExactCutDeepSaid : Prop := fnExactCutDeepRow.holds Try.pinned (OpenSpec.ofChange fnExactCutDeepSpec)

/-- ITS FALSE NEIGHBOUR: 'it returns false'. Refute it at one input. -/
def fnExactCutDeepWrong : ChangeSpec := { name := "fnExactCutDeep", fn := fun _ => fun
  | [d] => { results := [.lit (.bool false)], args := [d] }
  | _ => none }
def FnExactCutDeepWrongFalsely : Prop := fnExactCutDeepRow.holds Try.pinned (OpenSpec.ofChange fnExactCutDeepWrong)

/-- 'laws.FnExactCutWays': WHATEVER THE INPUT: true; the input reads as it did. -/
def fnExactCutWaysSpec : ChangeSpec := { name := "fnExactCutWays", fn := fun _ => fun
  | [d] => { results := [.lit (.bool true)], args := [d] }
  | _ => none }
def fnExactCutWaysRow : OpenClaim := { program := "ythlbekookpcacaa", sum := "0e81b7fc19d23e6c523c30ce65d408ab9cb6cffc8512c0be7acd3e459cb91b2a", func := "loop.example/floorrooms/laws.FnExactCutWays", spec := "fnExactCutWays", unfollowed := true, recurses := true, plainKeys := false, apart := false }
def FnExactCutWaysSaid : Prop := fnExactCutWaysRow.holds Try.pinned (OpenSpec.ofChange fnExactCutWaysSpec)

/-- ITS FALSE NEIGHBOUR: 'it returns false'. Refute it at one input. -/
def fnExactCutWaysWrong : ChangeSpec := { name := "fnExactCutWays", fn := fun _ => fun
  | [d] => { results := [.lit (.bool false)], args := [d] }
  | _ => none }
def FnExactCutWaysWrongFalsely : Prop := fnExactCutWaysRow.holds Try.pinned (OpenSpec.ofChange fnExactCutWaysWrong)

/-- 'laws.FnExactCutStuck': WHATEVER THE INPUT: true; the input reads as it did. -/
def fnExactCutStuckSpec : ChangeSpec := { name := "fnExactCutStuck", fn := fun _ => fun
  | [d] => { results := [.lit (.bool true)], args := [d] }
  | _ => none }
def fnExactCutStuckRow : OpenClaim := { program := "ythlbekookpcacaa", sum := "0e81b7fc19d23e6c523c30ce65d408ab9cb6cffc8512c0be7acd3e459cb91b2a", func := "loop.example/floorrooms/laws.FnExactCutStuck", spec := "fnExactCutStuck", unfollowed := true, recurses := true, plainKeys := false, apart := false }
def FnExactCutStuckSaid : Prop := fnExactCutStuckRow.holds Try.pinned (OpenSpec.ofChange fnExactCutStuckSpec)

/-- ITS FALSE NEIGHBOUR: 'it returns false'. Refute it at one input. -/
def fnExactCutStuckWrong : ChangeSpec := { name := "fnExactCutStuck", fn := fun _ => fun
  | [d] => { results := [.lit (.bool false)], args := [d] }
  | _ => none }
def FnExactCutStuckWrongFalsely : Prop := fnExactCutStuckRow.holds Try.pinned (OpenSpec.ofChange fnExactCutStuckWrong)

/-- 'laws.FnExactSizeSlack': WHATEVER THE INPUT: true; the input reads as it did. -/
def fnExactSizeSlackSpec : ChangeSpec := { name := "fnExactSizeSlack", fn := fun _ => fun
  | [d1, d2] => { results := [.lit (.bool true)], args := [d1, d2] }
  | _ => none }
def fnExactSizeSlackRow : OpenClaim := { program := "ythlbekookpcacaa", sum := "0e81b7fc19d23e6c523c30ce65d408ab9cb6cffc8512c0be7acd3e459cb91b2a", func := "loop.example/floorrooms/laws.FnExactSizeSlack", spec := "fnExactSizeSlack", unfollowed := true, recurses := true, plainKeys := false, apart := false }
def FnExactSizeSlackSaid : Prop := fnExactSizeSlackRow.holds Try.pinned (OpenSpec.ofChange fnExactSizeSlackSpec)

/-- ITS FALSE NEIGHBOUR: 'it returns false'. Refute it at one input. -/
def fnExactSizeSlackWrong : ChangeSpec := { name := "fnExactSizeSlack", fn := fun _ => fun
  | [d1, d2] => { results := [.lit (.bool false)], args := [d1, d2] }
  | _ => none }
def FnExactSizeSlackWrongFalsely : Prop := fnExactSizeSlackRow.holds Try.pinned (OpenSpec.ofChange fnExactSizeSlackWrong)

/-- 'laws.FnExactSizeCut': WHATEVER THE INPUT: true; the input reads as it did. -/
def fnExactSizeCutSpec : ChangeSpec := { name := "fnExactSizeCut", fn := fun _ => fun
  | [d1, d2] => { results := [.lit (.bool true)], args := [d1, d2] }
  | _ => none }
def fnExactSizeCutRow : OpenClaim := { program := "ythlbekookpcacaa", sum := "0e81b7fc19d23e6c523c30ce65d408ab9cb6cffc8512c0be7acd3e459cb91b2a", func := "loop.example/floorrooms/laws.FnExactSizeCut", spec := "fnExactSizeCut", unfollowed := true, recurses := true, plainKeys := false, apart := false }
def FnExactSizeCutSaid : Prop := fnExactSizeCutRow.holds Try.pinned (OpenSpec.ofChange fnExactSizeCutSpec)

/-- ITS FALSE NEIGHBOUR: 'it returns false'. Refute it at one input. -/
def fnExactSizeCutWrong : ChangeSpec := { name := "fnExactSizeCut", fn := fun _ => fun
  | [d1, d2] => { results := [.lit (.bool false)], args := [d1, d2] }
  | _ => none }
def FnExactSizeCutWrongFalsely : Prop := fnExactSizeCutRow.holds Try.pinned (OpenSpec.ofChange fnExactSizeCutWrong)

/- THE SECOND FORM. 'bulk': how many values and letters a reading holds, each counted each time it is reached (what is shared counts as often as it is met; a slice's spare places count too). A statement '..UptoSaid' is the law's where the arguments, and the package variables that the reading takes, are together of bulk at most 1048576: NARROWER than '..Said'. Prove '..Said' where nothing that the law and all that it calls make is longer than what came in: it says more and counts as full. Else prove '..UptoSaid'. A law counts once. -/
mutual
def uptoBulk {H : Type} : DataW H → Nat
  | .lit (.string bytes) => bytes.length + 1
  | .lit _ => 1
  | .nil => 1
  | .ptr d => uptoBulk d + 1
  | .slice elems spare => uptoBulkAll elems + uptoBulkAll spare + 1
  | .agg parts => uptoBulkAll parts + 1
  | .iface _ d => uptoBulk d + 1
  | .map entries => uptoBulkEntries entries + 1
  | .held _ => 1
def uptoBulkAll {H : Type} : List (DataW H) → Nat
  | [] => 0
  | d :: r => uptoBulk d + uptoBulkAll r
def uptoBulkEntries {H : Type} : List (Lit × DataW H) → Nat
  | [] => 0
  | x :: r => uptoBulkEntry x + uptoBulkEntries r
def uptoBulkEntry {H : Type} : Lit × DataW H → Nat
  | (.string bytes, d) => bytes.length + uptoBulk d + 1
  | (_, d) => uptoBulk d + 1
 end
def uptoSmall : (H : Type) → List (DataW H) → Bool := fun _ ds => decide (uptoBulkAll ds ≤ 1048576)
def OpenSpec.upto (s : _root_.Go.ChangeSpec) : _root_.Go.OpenSpec := { _root_.Go.OpenSpec.ofChange s with cond := some uptoSmall }

/-- 'laws.FnExactCutIs', WHERE WHAT IT READS IS OF BULK AT MOST 1048576: true; the input reads as it did. -/
def fnExactCutIsUptoRow : OpenClaim := { program := "ythlbekookpcacaa", sum := "0e81b7fc19d23e6c523c30ce65d408ab9cb6cffc8512c0be7acd3e459cb91b2a", func := "loop.example/floorrooms/laws.FnExactCutIs", spec := "fnExactCutIs", unfollowed := true, recurses := true, plainKeys := false, apart := false, narrowed := true }
def FnExactCutIsUptoSaid : Prop := fnExactCutIsUptoRow.holds Try.pinned (OpenSpec.upto fnExactCutIsSpec)

/-- 'laws.FnExactCutText', WHERE WHAT IT READS IS OF BULK AT MOST 1048576: true; the input reads as it did. -/
def fnExactCutTextUptoRow : OpenClaim := { program := "ythlbekookpcacaa", sum := "0e81b7fc19d23e6c523c30ce65d408ab9cb6cffc8512c0be7acd3e459cb91b2a", func := "loop.example/floorrooms/laws.FnExactCutText", spec := "fnExactCutText", unfollowed := true, recurses := true, plainKeys := false, apart := false, narrowed := true }
def FnExactCutTextUptoSaid : Prop := fnExactCutTextUptoRow.holds Try.pinned (OpenSpec.upto fnExactCutTextSpec)

/-- 'laws.FnExactCutDeep', WHERE WHAT IT READS IS OF BULK AT MOST 1048576: true; the input reads as it did. -/
def fnExactCutDeepUptoRow : OpenClaim := { program := "ythlbekookpcacaa", sum := "0e81b7fc19d23e6c523c30ce65d408ab9cb6cffc8512c0be7acd3e459cb91b2a", func := "loop.example/floorrooms/laws.FnExactCutDeep", spec := "fnExactCutDeep", unfollowed := true, recurses := true, plainKeys := false, apart := false, narrowed := true }
def FnExactCutDeepUptoSaid : Prop := fnExactCutDeepUptoRow.holds Try.pinned (OpenSpec.upto fnExactCutDeepSpec)

/-- 'laws.FnExactCutWays', WHERE WHAT IT READS IS OF BULK AT MOST 1048576: true; the input reads as it did. -/
def fnExactCutWaysUptoRow : OpenClaim := { program := "ythlbekookpcacaa", sum := "0e81b7fc19d23e6c523c30ce65d408ab9cb6cffc8512c0be7acd3e459cb91b2a", func := "loop.example/floorrooms/laws.FnExactCutWays", spec := "fnExactCutWays", unfollowed := true, recurses := true, plainKeys := false, apart := false, narrowed := true }
def FnExactCutWaysUptoSaid : Prop := fnExactCutWaysUptoRow.holds Try.pinned (OpenSpec.upto fnExactCutWaysSpec)

/-- 'laws.FnExactCutStuck', WHERE WHAT IT READS IS OF BULK AT MOST 1048576: true; the input reads as it did. -/
def fnExactCutStuckUptoRow : OpenClaim := { program := "ythlbekookpcacaa", sum := "0e81b7fc19d23e6c523c30ce65d408ab9cb6cffc8512c0be7acd3e459cb91b2a", func := "loop.example/floorrooms/laws.FnExactCutStuck", spec := "fnExactCutStuck", unfollowed := true, recurses := true, plainKeys := false, apart := false, narrowed := true }
def FnExactCutStuckUptoSaid : Prop := fnExactCutStuckUptoRow.holds Try.pinned (OpenSpec.upto fnExactCutStuckSpec)

/-- 'laws.FnExactSizeSlack', WHERE WHAT IT READS IS OF BULK AT MOST 1048576: true; the input reads as it did. -/
def fnExactSizeSlackUptoRow : OpenClaim := { program := "ythlbekookpcacaa", sum := "0e81b7fc19d23e6c523c30ce65d408ab9cb6cffc8512c0be7acd3e459cb91b2a", func := "loop.example/floorrooms/laws.FnExactSizeSlack", spec := "fnExactSizeSlack", unfollowed := true, recurses := true, plainKeys := false, apart := false, narrowed := true }
def FnExactSizeSlackUptoSaid : Prop := fnExactSizeSlackUptoRow.holds Try.pinned (OpenSpec.upto fnExactSizeSlackSpec)

/-- 'laws.FnExactSizeCut', WHERE WHAT IT READS IS OF BULK AT MOST 1048576: true; the input reads as it did. -/
def fnExactSizeCutUptoRow : OpenClaim := { program := "ythlbekookpcacaa", sum := "0e81b7fc19d23e6c523c30ce65d408ab9cb6cffc8512c0be7acd3e459cb91b2a", func := "loop.example/floorrooms/laws.FnExactSizeCut", spec := "fnExactSizeCut", unfollowed := true, recurses := true, plainKeys := false, apart := false, narrowed := true }
def FnExactSizeCutUptoSaid : Prop := fnExactSizeCutUptoRow.holds Try.pinned (OpenSpec.upto fnExactSizeCutSpec)

end Rows
end Go.Proofs.Ythlbekookpcacaa
