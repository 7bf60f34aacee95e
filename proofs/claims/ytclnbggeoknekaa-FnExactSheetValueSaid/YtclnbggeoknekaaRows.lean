/-
  No cell of these rows narrows 'for every input' (looked for: loops, veiled, ifaces, maps, wideKeys, modest, calm, conditions, laid).
  DERIVED. THE GIVEN ROWS OF THIS SEAT. 6 by the template 'for every input the law returns true; each argument reads behind the call as it read before'; 0 by the template 'total and deterministic' (their statements: YtclnbggeoknekaaTotals.lean).
  GIVEN WITH THE SEED: the statements are not yours to turn. If you find one false, say at which input.
  Laid BY PROGRAM, IN A SANDBOX (cutbox-rows.mjs): the forced cells as the released guide's own fill.sh prints them over the translation 7029169daa69a3d2… (all of the seat's roots in one cut). By AI agents, Wed Nov 11 2026. No macro, syntax, notation, axiom, sorry.
-/
import Derived.Test.YtclnbggeoknekaaChecked
import GoSem.Claim
import GoSem.ClaimJoined
import GoSem.ClaimMapViews
import Derived.JoinedTies
import Derived.KernelRfl
namespace Go.Proofs.Ytclnbggeoknekaa
/- THE CELL 'sum', in the pinned program and in every row, IS THE sha256 OF THE DUMP (.gsa) THAT YtclnbggeoknekaaProg.lean LOADS. Nothing in Lean hashes anything: it is a label: what it is worth is what the hold of that sum in a sandbox is worth. -/
noncomputable def Try.pinned : Pinned := { name := "ytclnbggeoknekaa", sum := "7029169daa69a3d2d5a39e01a797c997ce44f96eca57fd07bde77f6ef50dd9f5", checked := Try.checked }
namespace Rows
def none {H : Type} : Left H := { results := [], args := [] }

/-- 'laws.FnExactSheetMost': WHATEVER THE INPUT: true; the input reads as it did. -/
def fnExactSheetMostSpec : ChangeSpec := { name := "fnExactSheetMost", fn := fun _ => fun
  | [d1, d2, d3, d4] => { results := [.lit (.bool true)], args := [d1, d2, d3, d4] }
  | _ => none }
def fnExactSheetMostRow : OpenClaim := { program := "ytclnbggeoknekaa", sum := "7029169daa69a3d2d5a39e01a797c997ce44f96eca57fd07bde77f6ef50dd9f5", func := "loop.example/floorrooms/laws.FnExactSheetMost", spec := "fnExactSheetMost", unfollowed := true, recurses := true, apart := false }
def FnExactSheetMostSaid : Prop := fnExactSheetMostRow.holds Try.pinned (OpenSpec.ofChange fnExactSheetMostSpec)

/-- ITS FALSE NEIGHBOUR: 'it returns false'. Refute it at one input. -/
def fnExactSheetMostWrong : ChangeSpec := { name := "fnExactSheetMost", fn := fun _ => fun
  | [d1, d2, d3, d4] => { results := [.lit (.bool false)], args := [d1, d2, d3, d4] }
  | _ => none }
def FnExactSheetMostWrongFalsely : Prop := fnExactSheetMostRow.holds Try.pinned (OpenSpec.ofChange fnExactSheetMostWrong)

/-- 'laws.FnExactSheetRows': WHATEVER THE INPUT: true; the input reads as it did. -/
def fnExactSheetRowsSpec : ChangeSpec := { name := "fnExactSheetRows", fn := fun _ => fun
  | [d1, d2, d3, d4] => { results := [.lit (.bool true)], args := [d1, d2, d3, d4] }
  | _ => none }
def fnExactSheetRowsRow : OpenClaim := { program := "ytclnbggeoknekaa", sum := "7029169daa69a3d2d5a39e01a797c997ce44f96eca57fd07bde77f6ef50dd9f5", func := "loop.example/floorrooms/laws.FnExactSheetRows", spec := "fnExactSheetRows", apart := false }
def FnExactSheetRowsSaid : Prop := fnExactSheetRowsRow.holds Try.pinned (OpenSpec.ofChange fnExactSheetRowsSpec)

/-- ITS FALSE NEIGHBOUR: 'it returns false'. Refute it at one input. -/
def fnExactSheetRowsWrong : ChangeSpec := { name := "fnExactSheetRows", fn := fun _ => fun
  | [d1, d2, d3, d4] => { results := [.lit (.bool false)], args := [d1, d2, d3, d4] }
  | _ => none }
def FnExactSheetRowsWrongFalsely : Prop := fnExactSheetRowsRow.holds Try.pinned (OpenSpec.ofChange fnExactSheetRowsWrong)

/-- 'laws.FnExactSheetLoss': WHATEVER THE INPUT: true; the input reads as it did. -/
def fnExactSheetLossSpec : ChangeSpec := { name := "fnExactSheetLoss", fn := fun _ => fun
  | [d1, d2, d3, d4] => { results := [.lit (.bool true)], args := [d1, d2, d3, d4] }
  | _ => none }
def fnExactSheetLossRow : OpenClaim := { program := "ytclnbggeoknekaa", sum := "7029169daa69a3d2d5a39e01a797c997ce44f96eca57fd07bde77f6ef50dd9f5", func := "loop.example/floorrooms/laws.FnExactSheetLoss", spec := "fnExactSheetLoss", unfollowed := true, recurses := true, apart := false }
def FnExactSheetLossSaid : Prop := fnExactSheetLossRow.holds Try.pinned (OpenSpec.ofChange fnExactSheetLossSpec)

/-- ITS FALSE NEIGHBOUR: 'it returns false'. Refute it at one input. -/
def fnExactSheetLossWrong : ChangeSpec := { name := "fnExactSheetLoss", fn := fun _ => fun
  | [d1, d2, d3, d4] => { results := [.lit (.bool false)], args := [d1, d2, d3, d4] }
  | _ => none }
def FnExactSheetLossWrongFalsely : Prop := fnExactSheetLossRow.holds Try.pinned (OpenSpec.ofChange fnExactSheetLossWrong)

/-- 'laws.FnExactSheetSquares': WHATEVER THE INPUT: true; the input reads as it did. -/
def fnExactSheetSquaresSpec : ChangeSpec := { name := "fnExactSheetSquares", fn := fun _ => fun
  | [d1, d2] => { results := [.lit (.bool true)], args := [d1, d2] }
  | _ => none }
def fnExactSheetSquaresRow : OpenClaim := { program := "ytclnbggeoknekaa", sum := "7029169daa69a3d2d5a39e01a797c997ce44f96eca57fd07bde77f6ef50dd9f5", func := "loop.example/floorrooms/laws.FnExactSheetSquares", spec := "fnExactSheetSquares", unfollowed := true, recurses := true, apart := false }
def FnExactSheetSquaresSaid : Prop := fnExactSheetSquaresRow.holds Try.pinned (OpenSpec.ofChange fnExactSheetSquaresSpec)

/-- ITS FALSE NEIGHBOUR: 'it returns false'. Refute it at one input. -/
def fnExactSheetSquaresWrong : ChangeSpec := { name := "fnExactSheetSquares", fn := fun _ => fun
  | [d1, d2] => { results := [.lit (.bool false)], args := [d1, d2] }
  | _ => none }
def FnExactSheetSquaresWrongFalsely : Prop := fnExactSheetSquaresRow.holds Try.pinned (OpenSpec.ofChange fnExactSheetSquaresWrong)

/-- 'laws.FnExactSheetGreedy': WHATEVER THE INPUT: true; the input reads as it did. -/
def fnExactSheetGreedySpec : ChangeSpec := { name := "fnExactSheetGreedy", fn := fun _ => fun
  | [d1, d2] => { results := [.lit (.bool true)], args := [d1, d2] }
  | _ => none }
def fnExactSheetGreedyRow : OpenClaim := { program := "ytclnbggeoknekaa", sum := "7029169daa69a3d2d5a39e01a797c997ce44f96eca57fd07bde77f6ef50dd9f5", func := "loop.example/floorrooms/laws.FnExactSheetGreedy", spec := "fnExactSheetGreedy", apart := false }
def FnExactSheetGreedySaid : Prop := fnExactSheetGreedyRow.holds Try.pinned (OpenSpec.ofChange fnExactSheetGreedySpec)

/-- ITS FALSE NEIGHBOUR: 'it returns false'. Refute it at one input. -/
def fnExactSheetGreedyWrong : ChangeSpec := { name := "fnExactSheetGreedy", fn := fun _ => fun
  | [d1, d2] => { results := [.lit (.bool false)], args := [d1, d2] }
  | _ => none }
def FnExactSheetGreedyWrongFalsely : Prop := fnExactSheetGreedyRow.holds Try.pinned (OpenSpec.ofChange fnExactSheetGreedyWrong)

/-- 'laws.FnExactSheetValue': WHATEVER THE INPUT: true; the input reads as it did. -/
def fnExactSheetValueSpec : ChangeSpec := { name := "fnExactSheetValue", fn := fun _ => fun
  | [d1, d2, d3, d4, d5] => { results := [.lit (.bool true)], args := [d1, d2, d3, d4, d5] }
  | _ => none }
def fnExactSheetValueRow : OpenClaim := { program := "ytclnbggeoknekaa", sum := "7029169daa69a3d2d5a39e01a797c997ce44f96eca57fd07bde77f6ef50dd9f5", func := "loop.example/floorrooms/laws.FnExactSheetValue", spec := "fnExactSheetValue", unfollowed := true, recurses := true, apart := false }
def FnExactSheetValueSaid : Prop := fnExactSheetValueRow.holds Try.pinned (OpenSpec.ofChange fnExactSheetValueSpec)

/-- ITS FALSE NEIGHBOUR: 'it returns false'. Refute it at one input. -/
def fnExactSheetValueWrong : ChangeSpec := { name := "fnExactSheetValue", fn := fun _ => fun
  | [d1, d2, d3, d4, d5] => { results := [.lit (.bool false)], args := [d1, d2, d3, d4, d5] }
  | _ => none }
def FnExactSheetValueWrongFalsely : Prop := fnExactSheetValueRow.holds Try.pinned (OpenSpec.ofChange fnExactSheetValueWrong)

/- THE SECOND FORM. 'bulk': how many values and letters a reading holds, each counted each time it is reached (what is shared counts as often as it is met; a slice's spare places count too). A statement '..UptoSaid' is the law's where the arguments, and the package variables that the reading takes, are together of bulk at most 1048576: NARROWER than '..Said'. Prove '..Said' where nothing that the law and all that it calls make is longer than what came in: it says more and counts as full. Else prove '..UptoSaid'. A law counts once. -/
mutual
def uptoBulk {H : Type} : DataW H → Nat
  | .lit (.string bytes) => bytes.length + 1
  | .lit _ => 1
  | .nil => 1
  | .ptr d => uptoBulk d + 1
  | .slice elems spare => uptoBulkAll elems + uptoBulkAll spare + 1
  | .agg parts => uptoBulkAll parts + 1
  | .iface _ d => uptoBulk d + 1
  | .map entries => uptoBulkEntries entries + 1
  | .held _ => 1
def uptoBulkAll {H : Type} : List (DataW H) → Nat
  | [] => 0
  | d :: r => uptoBulk d + uptoBulkAll r
def uptoBulkEntries {H : Type} : List (Lit × DataW H) → Nat
  | [] => 0
  | x :: r => uptoBulkEntry x + uptoBulkEntries r
def uptoBulkEntry {H : Type} : Lit × DataW H → Nat
  | (.string bytes, d) => bytes.length + uptoBulk d + 1
  | (_, d) => uptoBulk d + 1
 end
def uptoSmall : (H : Type) → List (DataW H) → Bool := fun _ ds => decide (uptoBulkAll ds ≤ 1048576)
def OpenSpec.upto (s : _root_.Go.ChangeSpec) : _root_.Go.OpenSpec := { _root_.Go.OpenSpec.ofChange s with cond := some uptoSmall }

/-- 'laws.FnExactSheetMost', WHERE WHAT IT READS IS OF BULK AT MOST 1048576: true; the input reads as it did. -/
def fnExactSheetMostUptoRow : OpenClaim := { program := "ytclnbggeoknekaa", sum := "7029169daa69a3d2d5a39e01a797c997ce44f96eca57fd07bde77f6ef50dd9f5", func := "loop.example/floorrooms/laws.FnExactSheetMost", spec := "fnExactSheetMost", unfollowed := true, recurses := true, apart := false, narrowed := true }
def FnExactSheetMostUptoSaid : Prop := fnExactSheetMostUptoRow.holds Try.pinned (OpenSpec.upto fnExactSheetMostSpec)

/-- 'laws.FnExactSheetRows', WHERE WHAT IT READS IS OF BULK AT MOST 1048576: true; the input reads as it did. -/
def fnExactSheetRowsUptoRow : OpenClaim := { program := "ytclnbggeoknekaa", sum := "7029169daa69a3d2d5a39e01a797c997ce44f96eca57fd07bde77f6ef50dd9f5", func := "loop.example/floorrooms/laws.FnExactSheetRows", spec := "fnExactSheetRows", apart := false, narrowed := true }
def FnExactSheetRowsUptoSaid : Prop := fnExactSheetRowsUptoRow.holds Try.pinned (OpenSpec.upto fnExactSheetRowsSpec)

/-- 'laws.FnExactSheetLoss', WHERE WHAT IT READS IS OF BULK AT MOST 1048576: true; the input reads as it did. -/
def fnExactSheetLossUptoRow : OpenClaim := { program := "ytclnbggeoknekaa", sum := "7029169daa69a3d2d5a39e01a797c997ce44f96eca57fd07bde77f6ef50dd9f5", func := "loop.example/floorrooms/laws.FnExactSheetLoss", spec := "fnExactSheetLoss", unfollowed := true, recurses := true, apart := false, narrowed := true }
def FnExactSheetLossUptoSaid : Prop := fnExactSheetLossUptoRow.holds Try.pinned (OpenSpec.upto fnExactSheetLossSpec)

/-- 'laws.FnExactSheetSquares', WHERE WHAT IT READS IS OF BULK AT MOST 1048576: true; the input reads as it did. -/
def fnExactSheetSquaresUptoRow : OpenClaim := { program := "ytclnbggeoknekaa", sum := "7029169daa69a3d2d5a39e01a797c997ce44f96eca57fd07bde77f6ef50dd9f5", func := "loop.example/floorrooms/laws.FnExactSheetSquares", spec := "fnExactSheetSquares", unfollowed := true, recurses := true, apart := false, narrowed := true }
def FnExactSheetSquaresUptoSaid : Prop := fnExactSheetSquaresUptoRow.holds Try.pinned (OpenSpec.upto fnExactSheetSquaresSpec)

/-- 'laws.FnExactSheetGreedy', WHERE WHAT IT READS IS OF BULK AT MOST 1048576: true; the input reads as it did. -/
def fnExactSheetGreedyUptoRow : OpenClaim := { program := "ytclnbggeoknekaa", sum := "7029169daa69a3d2d5a39e01a797c997ce44f96eca57fd07bde77f6ef50dd9f5", func := "loop.example/floorrooms/laws.FnExactSheetGreedy", spec := "fnExactSheetGreedy", apart := false, narrowed := true }
def FnExactSheetGreedyUptoSaid : Prop := fnExactSheetGreedyUptoRow.holds Try.pinned (OpenSpec.upto fnExactSheetGreedySpec)

/-- 'laws.FnExactSheetValue', WHERE WHAT IT READS IS OF BULK AT MOST 1048576: true; the input reads as it did. -/
def fnExactSheetValueUptoRow : OpenClaim := { program := "ytclnbggeoknekaa", sum := "7029169daa69a3d2d5a39e01a797c997ce44f96eca57fd07bde77f6ef50dd9f5", func := "loop.example/floorrooms/laws.FnExactSheetValue", spec := "fnExactSheetValue", unfollowed := true, recurses := true, apart := false, narrowed := true }
def FnExactSheetValueUptoSaid : Prop := fnExactSheetValueUptoRow.holds Try.pinned (OpenSpec.upto fnExactSheetValueSpec)

end Rows
end Go.Proofs.Ytclnbggeoknekaa
