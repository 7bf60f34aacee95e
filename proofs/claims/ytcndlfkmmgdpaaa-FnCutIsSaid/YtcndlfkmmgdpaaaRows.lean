/-
  No cell of these rows narrows 'for every input' (looked for: loops, veiled, ifaces, maps, wideKeys, modest, calm, conditions, laid).
  DERIVED. THE GIVEN ROWS OF THIS SEAT. 6 by the template 'for every input the law returns true; each argument reads behind the call as it read before'; 0 by the template 'total and deterministic' (their statements: YtcndlfkmmgdpaaaTotals.lean).
  GIVEN WITH THE SEED: the statements are not yours to turn. If you find one false, say at which input.
  Laid BY PROGRAM, IN A SANDBOX (cutbox-rows.mjs): the forced cells as the released guide's own fill.sh prints them over the translation 718c7945c2be18c8… (all of the seat's roots in one cut). By AI agents, Wed Nov 11 2026. No macro, syntax, notation, axiom, sorry.
-/
import Derived.Test.YtcndlfkmmgdpaaaChecked
import GoSem.Claim
import GoSem.ClaimJoined
import GoSem.ClaimMapViews
import Derived.JoinedTies
import Derived.KernelRfl
namespace Go.Proofs.Ytcndlfkmmgdpaaa
/- THE CELL 'sum', in the pinned program and in every row, IS THE sha256 OF THE DUMP (.gsa) THAT YtcndlfkmmgdpaaaProg.lean LOADS. Nothing in Lean hashes anything: it is a label: what it is worth is what the hold of that sum in a sandbox is worth. -/
noncomputable def Try.pinned : Pinned := { name := "ytcndlfkmmgdpaaa", sum := "718c7945c2be18c89d3dad19eb8f23a49c1f2661b55889f65211a951a696f6b2", checked := Try.checked }
namespace Rows
def none {H : Type} : Left H := { results := [], args := [] }

/-- 'laws.FnCutIs': WHATEVER THE INPUT: true; the input reads as it did. -/
def fnCutIsSpec : ChangeSpec := { name := "fnCutIs", fn := fun _ => fun
  | [d] => { results := [.lit (.bool true)], args := [d] }
  | _ => none }
def fnCutIsRow : OpenClaim := { program := "ytcndlfkmmgdpaaa", sum := "718c7945c2be18c89d3dad19eb8f23a49c1f2661b55889f65211a951a696f6b2", func := "loop.example/floorrooms/laws.FnCutIs", spec := "fnCutIs", unfollowed := true, recurses := true, apart := false }
def FnCutIsSaid : Prop := fnCutIsRow.holds Try.pinned (OpenSpec.ofChange fnCutIsSpec)

/-- ITS FALSE NEIGHBOUR: 'it returns false'. Refute it at one input. -/
def fnCutIsWrong : ChangeSpec := { name := "fnCutIs", fn := fun _ => fun
  | [d] => { results := [.lit (.bool false)], args := [d] }
  | _ => none }
def FnCutIsWrongFalsely : Prop := fnCutIsRow.holds Try.pinned (OpenSpec.ofChange fnCutIsWrong)

/-- 'laws.FnCutText': WHATEVER THE INPUT: true; the input reads as it did. -/
def fnCutTextSpec : ChangeSpec := { name := "fnCutText", fn := fun _ => fun
  | [d] => { results := [.lit (.bool true)], args := [d] }
  | _ => none }
def fnCutTextRow : OpenClaim := { program := "ytcndlfkmmgdpaaa", sum := "718c7945c2be18c89d3dad19eb8f23a49c1f2661b55889f65211a951a696f6b2", func := "loop.example/floorrooms/laws.FnCutText", spec := "fnCutText", unfollowed := true, recurses := true, apart := false }
def FnCutTextSaid : Prop := fnCutTextRow.holds Try.pinned (OpenSpec.ofChange fnCutTextSpec)

/-- ITS FALSE NEIGHBOUR: 'it returns false'. Refute it at one input. -/
def fnCutTextWrong : ChangeSpec := { name := "fnCutText", fn := fun _ => fun
  | [d] => { results := [.lit (.bool false)], args := [d] }
  | _ => none }
def FnCutTextWrongFalsely : Prop := fnCutTextRow.holds Try.pinned (OpenSpec.ofChange fnCutTextWrong)

/-- 'laws.FnCutDeep': WHATEVER THE INPUT: true; the input reads as it did. -/
def fnCutDeepSpec : ChangeSpec := { name := "fnCutDeep", fn := fun _ => fun
  | [d] => { results := [.lit (.bool true)], args := [d] }
  | _ => none }
def fnCutDeepRow : OpenClaim := { program := "ytcndlfkmmgdpaaa", sum := "718c7945c2be18c89d3dad19eb8f23a49c1f2661b55889f65211a951a696f6b2", func := "loop.example/floorrooms/laws.FnCutDeep", spec := "fnCutDeep", unfollowed := true, recurses := true, apart := false }
def FnCutDeepSaid : Prop := fnCutDeepRow.holds Try.pinned (OpenSpec.ofChange fnCutDeepSpec)

/-- ITS FALSE NEIGHBOUR: 'it returns false'. Refute it at one input. -/
def fnCutDeepWrong : ChangeSpec := { name := "fnCutDeep", fn := fun _ => fun
  | [d] => { results := [.lit (.bool false)], args := [d] }
  | _ => none }
def FnCutDeepWrongFalsely : Prop := fnCutDeepRow.holds Try.pinned (OpenSpec.ofChange fnCutDeepWrong)

/-- 'laws.FnCutWays': WHATEVER THE INPUT: true; the input reads as it did. -/
def fnCutWaysSpec : ChangeSpec := { name := "fnCutWays", fn := fun _ => fun
  | [d] => { results := [.lit (.bool true)], args := [d] }
  | _ => none }
def fnCutWaysRow : OpenClaim := { program := "ytcndlfkmmgdpaaa", sum := "718c7945c2be18c89d3dad19eb8f23a49c1f2661b55889f65211a951a696f6b2", func := "loop.example/floorrooms/laws.FnCutWays", spec := "fnCutWays", unfollowed := true, recurses := true, apart := false }
def FnCutWaysSaid : Prop := fnCutWaysRow.holds Try.pinned (OpenSpec.ofChange fnCutWaysSpec)

/-- ITS FALSE NEIGHBOUR: 'it returns false'. Refute it at one input. -/
def fnCutWaysWrong : ChangeSpec := { name := "fnCutWays", fn := fun _ => fun
  | [d] => { results := [.lit (.bool false)], args := [d] }
  | _ => none }
def FnCutWaysWrongFalsely : Prop := fnCutWaysRow.holds Try.pinned (OpenSpec.ofChange fnCutWaysWrong)

/-- 'laws.FnCutStuck': WHATEVER THE INPUT: true; the input reads as it did. -/
def fnCutStuckSpec : ChangeSpec := { name := "fnCutStuck", fn := fun _ => fun
  | [d] => { results := [.lit (.bool true)], args := [d] }
  | _ => none }
def fnCutStuckRow : OpenClaim := { program := "ytcndlfkmmgdpaaa", sum := "718c7945c2be18c89d3dad19eb8f23a49c1f2661b55889f65211a951a696f6b2", func := "loop.example/floorrooms/laws.FnCutStuck", spec := "fnCutStuck", unfollowed := true, recurses := true, apart := false }
def FnCutStuckSaid : Prop := fnCutStuckRow.holds Try.pinned (OpenSpec.ofChange fnCutStuckSpec)

/-- ITS FALSE NEIGHBOUR: 'it returns false'. Refute it at one input. -/
def fnCutStuckWrong : ChangeSpec := { name := "fnCutStuck", fn := fun _ => fun
  | [d] => { results := [.lit (.bool false)], args := [d] }
  | _ => none }
def FnCutStuckWrongFalsely : Prop := fnCutStuckRow.holds Try.pinned (OpenSpec.ofChange fnCutStuckWrong)

/-- 'laws.FnCutOr': WHATEVER THE INPUT: true; the input reads as it did. -/
def fnCutOrSpec : ChangeSpec := { name := "fnCutOr", fn := fun _ => fun
  | [d] => { results := [.lit (.bool true)], args := [d] }
  | _ => none }
def fnCutOrRow : OpenClaim := { program := "ytcndlfkmmgdpaaa", sum := "718c7945c2be18c89d3dad19eb8f23a49c1f2661b55889f65211a951a696f6b2", func := "loop.example/floorrooms/laws.FnCutOr", spec := "fnCutOr", unfollowed := true, recurses := true, apart := false }
def FnCutOrSaid : Prop := fnCutOrRow.holds Try.pinned (OpenSpec.ofChange fnCutOrSpec)

/-- ITS FALSE NEIGHBOUR: 'it returns false'. Refute it at one input. -/
def fnCutOrWrong : ChangeSpec := { name := "fnCutOr", fn := fun _ => fun
  | [d] => { results := [.lit (.bool false)], args := [d] }
  | _ => none }
def FnCutOrWrongFalsely : Prop := fnCutOrRow.holds Try.pinned (OpenSpec.ofChange fnCutOrWrong)

/- THE SECOND FORM. 'bulk': how many values and letters a reading holds, each counted each time it is reached (what is shared counts as often as it is met; a slice's spare places count too). A statement '..UptoSaid' is the law's where the arguments, and the package variables that the reading takes, are together of bulk at most 1048576: NARROWER than '..Said'. Prove '..Said' where nothing that the law and all that it calls make is longer than what came in: it says more and counts as full. Else prove '..UptoSaid'. A law counts once. -/
mutual
def uptoBulk {H : Type} : DataW H → Nat
  | .lit (.string bytes) => bytes.length + 1
  | .lit _ => 1
  | .nil => 1
  | .ptr d => uptoBulk d + 1
  | .slice elems spare => uptoBulkAll elems + uptoBulkAll spare + 1
  | .agg parts => uptoBulkAll parts + 1
  | .iface _ d => uptoBulk d + 1
  | .map entries => uptoBulkEntries entries + 1
  | .held _ => 1
def uptoBulkAll {H : Type} : List (DataW H) → Nat
  | [] => 0
  | d :: r => uptoBulk d + uptoBulkAll r
def uptoBulkEntries {H : Type} : List (Lit × DataW H) → Nat
  | [] => 0
  | x :: r => uptoBulkEntry x + uptoBulkEntries r
def uptoBulkEntry {H : Type} : Lit × DataW H → Nat
  | (.string bytes, d) => bytes.length + uptoBulk d + 1
  | (_, d) => uptoBulk d + 1
 end
def uptoSmall : (H : Type) → List (DataW H) → Bool := fun _ ds => decide (uptoBulkAll ds ≤ 1048576)
def OpenSpec.upto (s : _root_.Go.ChangeSpec) : _root_.Go.OpenSpec := { _root_.Go.OpenSpec.ofChange s with cond := some uptoSmall }

/-- 'laws.FnCutIs', WHERE WHAT IT READS IS OF BULK AT MOST 1048576: true; the input reads as it did. -/
def fnCutIsUptoRow : OpenClaim := { program := "ytcndlfkmmgdpaaa", sum := "718c7945c2be18c89d3dad19eb8f23a49c1f2661b55889f65211a951a696f6b2", func := "loop.example/floorrooms/laws.FnCutIs", spec := "fnCutIs", unfollowed := true, recurses := true, apart := false, narrowed := true }
def FnCutIsUptoSaid : Prop := fnCutIsUptoRow.holds Try.pinned (OpenSpec.upto fnCutIsSpec)

/-- 'laws.FnCutText', WHERE WHAT IT READS IS OF BULK AT MOST 1048576: true; the input reads as it did. -/
def fnCutTextUptoRow : OpenClaim := { program := "ytcndlfkmmgdpaaa", sum := "718c7945c2be18c89d3dad19eb8f23a49c1f2661b55889f65211a951a696f6b2", func := "loop.example/floorrooms/laws.FnCutText", spec := "fnCutText", unfollowed := true, recurses := true, apart := false, narrowed := true }
def FnCutTextUptoSaid : Prop := fnCutTextUptoRow.holds Try.pinned (OpenSpec.upto fnCutTextSpec)

/-- 'laws.FnCutDeep', WHERE WHAT IT READS IS OF BULK AT MOST 1048576: true; the input reads as it did. -/
def fnCutDeepUptoRow : OpenClaim := { program := "ytcndlfkmmgdpaaa", sum := "718c7945c2be18c89d3dad19eb8f23a49c1f2661b55889f65211a951a696f6b2", func := "loop.example/floorrooms/laws.FnCutDeep", spec := "fnCutDeep", unfollowed := true, recurses := true, apart := false, narrowed := true }
def FnCutDeepUptoSaid : Prop := fnCutDeepUptoRow.holds Try.pinned (OpenSpec.upto fnCutDeepSpec)

/-- 'laws.FnCutWays', WHERE WHAT IT READS IS OF BULK AT MOST 1048576: true; the input reads as it did. -/
def fnCutWaysUptoRow : OpenClaim := { program := "ytcndlfkmmgdpaaa", sum := "718c7945c2be18c89d3dad19eb8f23a49c1f2661b55889f65211a951a696f6b2", func := "loop.example/floorrooms/laws.FnCutWays", spec := "fnCutWays", unfollowed := true, recurses := true, apart := false, narrowed := true }
def FnCutWaysUptoSaid : Prop := fnCutWaysUptoRow.holds Try.pinned (OpenSpec.upto fnCutWaysSpec)

/-- 'laws.FnCutStuck', WHERE WHAT IT READS IS OF BULK AT MOST 1048576: true; the input reads as it did. -/
def fnCutStuckUptoRow : OpenClaim := { program := "ytcndlfkmmgdpaaa", sum := "718c7945c2be18c89d3dad19eb8f23a49c1f2661b55889f65211a951a696f6b2", func := "loop.example/floorrooms/laws.FnCutStuck", spec := "fnCutStuck", unfollowed := true, recurses := true, apart := false, narrowed := true }
def FnCutStuckUptoSaid : Prop := fnCutStuckUptoRow.holds Try.pinned (OpenSpec.upto fnCutStuckSpec)

/-- 'laws.FnCutOr', WHERE WHAT IT READS IS OF BULK AT MOST 1048576: true; the input reads as it did. -/
def fnCutOrUptoRow : OpenClaim := { program := "ytcndlfkmmgdpaaa", sum := "718c7945c2be18c89d3dad19eb8f23a49c1f2661b55889f65211a951a696f6b2", func := "loop.example/floorrooms/laws.FnCutOr", spec := "fnCutOr", unfollowed := true, recurses := true, apart := false, narrowed := true }
def FnCutOrUptoSaid : Prop := fnCutOrUptoRow.holds Try.pinned (OpenSpec.upto fnCutOrSpec)

end Rows
end Go.Proofs.Ytcndlfkmmgdpaaa
