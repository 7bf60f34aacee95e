/-
  No cell of these rows narrows 'for every input' (looked for: loops, veiled, ifaces, maps, wideKeys, modest, calm, conditions, laid).
  DERIVED. THE GIVEN ROWS OF THIS SEAT. 11 by the template 'for every input the law returns true; each argument reads behind the call as it read before'; 0 by the template 'total and deterministic' (their statements: YtnkfopnkgingpaaTotals.lean).
  GIVEN WITH THE SEED: the statements are not yours to turn. If you find one false, say at which input.
  Laid BY PROGRAM, IN A SANDBOX (cutbox-rows.mjs): the forced cells as the released guide's own fill.sh prints them over the translation ab617f762d66c545… (all of the seat's roots in one cut). By AI agents, Wed Nov 11 2026. No macro, syntax, notation, axiom, sorry.
-/
import Derived.Test.YtnkfopnkgingpaaChecked
import GoSem.Claim
import GoSem.ClaimJoined
import GoSem.ClaimMapViews
import Derived.JoinedTies
import Derived.KernelRfl
namespace Go.Proofs.Ytnkfopnkgingpaa
/- THE CELL 'sum', in the pinned program and in every row, IS THE sha256 OF THE DUMP (.gsa) THAT YtnkfopnkgingpaaProg.lean LOADS. Nothing in Lean hashes anything: it is a label: what it is worth is what the hold of that sum in a sandbox is worth. -/
noncomputable def Try.pinned : Pinned := { name := "ytnkfopnkgingpaa", sum := "ab617f762d66c545ec181ac17960508f8a70c7b9058950c88d8c4009813ff7a8", checked := Try.checked }
namespace Rows
def none {H : Type} : Left H := { results := [], args := [] }

/-- 'laws.FnPermIn': WHATEVER THE INPUT: true; the input reads as it did. -/
def fnPermInSpec : ChangeSpec := { name := "fnPermIn", fn := fun _ => fun
  | [d] => { results := [.lit (.bool true)], args := [d] }
  | _ => none }
def fnPermInRow : OpenClaim := { program := "ytnkfopnkgingpaa", sum := "ab617f762d66c545ec181ac17960508f8a70c7b9058950c88d8c4009813ff7a8", func := "loop.example/floorrooms/laws.FnPermIn", spec := "fnPermIn", apart := false }
def FnPermInSaid : Prop := fnPermInRow.holds Try.pinned (OpenSpec.ofChange fnPermInSpec)

/-- ITS FALSE NEIGHBOUR: 'it returns false'. Refute it at one input. -/
def fnPermInWrong : ChangeSpec := { name := "fnPermIn", fn := fun _ => fun
  | [d] => { results := [.lit (.bool false)], args := [d] }
  | _ => none }
def FnPermInWrongFalsely : Prop := fnPermInRow.holds Try.pinned (OpenSpec.ofChange fnPermInWrong)

/-- 'laws.FnFair': WHATEVER THE INPUT: true; the input reads as it did. -/
def fnFairSpec : ChangeSpec := { name := "fnFair", fn := fun _ => fun
  | [d] => { results := [.lit (.bool true)], args := [d] }
  | _ => none }
def fnFairRow : OpenClaim := { program := "ytnkfopnkgingpaa", sum := "ab617f762d66c545ec181ac17960508f8a70c7b9058950c88d8c4009813ff7a8", func := "loop.example/floorrooms/laws.FnFair", spec := "fnFair", unfollowed := true, recurses := true, apart := false }
def FnFairSaid : Prop := fnFairRow.holds Try.pinned (OpenSpec.ofChange fnFairSpec)

/-- ITS FALSE NEIGHBOUR: 'it returns false'. Refute it at one input. -/
def fnFairWrong : ChangeSpec := { name := "fnFair", fn := fun _ => fun
  | [d] => { results := [.lit (.bool false)], args := [d] }
  | _ => none }
def FnFairWrongFalsely : Prop := fnFairRow.holds Try.pinned (OpenSpec.ofChange fnFairWrong)

/-- 'laws.FnLoose': WHATEVER THE INPUT: true; the input reads as it did. -/
def fnLooseSpec : ChangeSpec := { name := "fnLoose", fn := fun _ => fun
  | [d] => { results := [.lit (.bool true)], args := [d] }
  | _ => none }
def fnLooseRow : OpenClaim := { program := "ytnkfopnkgingpaa", sum := "ab617f762d66c545ec181ac17960508f8a70c7b9058950c88d8c4009813ff7a8", func := "loop.example/floorrooms/laws.FnLoose", spec := "fnLoose", unfollowed := true, recurses := true, apart := false }
def FnLooseSaid : Prop := fnLooseRow.holds Try.pinned (OpenSpec.ofChange fnLooseSpec)

/-- ITS FALSE NEIGHBOUR: 'it returns false'. Refute it at one input. -/
def fnLooseWrong : ChangeSpec := { name := "fnLoose", fn := fun _ => fun
  | [d] => { results := [.lit (.bool false)], args := [d] }
  | _ => none }
def FnLooseWrongFalsely : Prop := fnLooseRow.holds Try.pinned (OpenSpec.ofChange fnLooseWrong)

/-- 'laws.FnBack': WHATEVER THE INPUT: true; the input reads as it did. -/
def fnBackSpec : ChangeSpec := { name := "fnBack", fn := fun _ => fun
  | [d] => { results := [.lit (.bool true)], args := [d] }
  | _ => none }
def fnBackRow : OpenClaim := { program := "ytnkfopnkgingpaa", sum := "ab617f762d66c545ec181ac17960508f8a70c7b9058950c88d8c4009813ff7a8", func := "loop.example/floorrooms/laws.FnBack", spec := "fnBack", apart := false }
def FnBackSaid : Prop := fnBackRow.holds Try.pinned (OpenSpec.ofChange fnBackSpec)

/-- ITS FALSE NEIGHBOUR: 'it returns false'. Refute it at one input. -/
def fnBackWrong : ChangeSpec := { name := "fnBack", fn := fun _ => fun
  | [d] => { results := [.lit (.bool false)], args := [d] }
  | _ => none }
def FnBackWrongFalsely : Prop := fnBackRow.holds Try.pinned (OpenSpec.ofChange fnBackWrong)

/-- 'laws.FnOther': WHATEVER THE INPUT: true; the input reads as it did. -/
def fnOtherSpec : ChangeSpec := { name := "fnOther", fn := fun _ => fun
  | [d] => { results := [.lit (.bool true)], args := [d] }
  | _ => none }
def fnOtherRow : OpenClaim := { program := "ytnkfopnkgingpaa", sum := "ab617f762d66c545ec181ac17960508f8a70c7b9058950c88d8c4009813ff7a8", func := "loop.example/floorrooms/laws.FnOther", spec := "fnOther", apart := false }
def FnOtherSaid : Prop := fnOtherRow.holds Try.pinned (OpenSpec.ofChange fnOtherSpec)

/-- ITS FALSE NEIGHBOUR: 'it returns false'. Refute it at one input. -/
def fnOtherWrong : ChangeSpec := { name := "fnOther", fn := fun _ => fun
  | [d] => { results := [.lit (.bool false)], args := [d] }
  | _ => none }
def FnOtherWrongFalsely : Prop := fnOtherRow.holds Try.pinned (OpenSpec.ofChange fnOtherWrong)

/-- 'laws.FnAside': WHATEVER THE INPUT: true; the input reads as it did. -/
def fnAsideSpec : ChangeSpec := { name := "fnAside", fn := fun _ => fun
  | [d] => { results := [.lit (.bool true)], args := [d] }
  | _ => none }
def fnAsideRow : OpenClaim := { program := "ytnkfopnkgingpaa", sum := "ab617f762d66c545ec181ac17960508f8a70c7b9058950c88d8c4009813ff7a8", func := "loop.example/floorrooms/laws.FnAside", spec := "fnAside", unfollowed := true, recurses := true, apart := false }
def FnAsideSaid : Prop := fnAsideRow.holds Try.pinned (OpenSpec.ofChange fnAsideSpec)

/-- ITS FALSE NEIGHBOUR: 'it returns false'. Refute it at one input. -/
def fnAsideWrong : ChangeSpec := { name := "fnAside", fn := fun _ => fun
  | [d] => { results := [.lit (.bool false)], args := [d] }
  | _ => none }
def FnAsideWrongFalsely : Prop := fnAsideRow.holds Try.pinned (OpenSpec.ofChange fnAsideWrong)

/-- 'laws.FnUnderPerm': WHATEVER THE INPUT: true; the input reads as it did. -/
def fnUnderPermSpec : ChangeSpec := { name := "fnUnderPerm", fn := fun _ => fun
  | [d] => { results := [.lit (.bool true)], args := [d] }
  | _ => none }
def fnUnderPermRow : OpenClaim := { program := "ytnkfopnkgingpaa", sum := "ab617f762d66c545ec181ac17960508f8a70c7b9058950c88d8c4009813ff7a8", func := "loop.example/floorrooms/laws.FnUnderPerm", spec := "fnUnderPerm", unfollowed := true, recurses := true, apart := false }
def FnUnderPermSaid : Prop := fnUnderPermRow.holds Try.pinned (OpenSpec.ofChange fnUnderPermSpec)

/-- ITS FALSE NEIGHBOUR: 'it returns false'. Refute it at one input. -/
def fnUnderPermWrong : ChangeSpec := { name := "fnUnderPerm", fn := fun _ => fun
  | [d] => { results := [.lit (.bool false)], args := [d] }
  | _ => none }
def FnUnderPermWrongFalsely : Prop := fnUnderPermRow.holds Try.pinned (OpenSpec.ofChange fnUnderPermWrong)

/-- 'laws.FnFairCount': WHATEVER THE INPUT: true; the input reads as it did. -/
def fnFairCountSpec : ChangeSpec := { name := "fnFairCount", fn := fun _ => fun
  | [d] => { results := [.lit (.bool true)], args := [d] }
  | _ => none }
def fnFairCountRow : OpenClaim := { program := "ytnkfopnkgingpaa", sum := "ab617f762d66c545ec181ac17960508f8a70c7b9058950c88d8c4009813ff7a8", func := "loop.example/floorrooms/laws.FnFairCount", spec := "fnFairCount", unfollowed := true, recurses := true, apart := false }
def FnFairCountSaid : Prop := fnFairCountRow.holds Try.pinned (OpenSpec.ofChange fnFairCountSpec)

/-- ITS FALSE NEIGHBOUR: 'it returns false'. Refute it at one input. -/
def fnFairCountWrong : ChangeSpec := { name := "fnFairCount", fn := fun _ => fun
  | [d] => { results := [.lit (.bool false)], args := [d] }
  | _ => none }
def FnFairCountWrongFalsely : Prop := fnFairCountRow.holds Try.pinned (OpenSpec.ofChange fnFairCountWrong)

/-- 'laws.FnFairSum': WHATEVER THE INPUT: true; the input reads as it did. -/
def fnFairSumSpec : ChangeSpec := { name := "fnFairSum", fn := fun _ => fun
  | [d] => { results := [.lit (.bool true)], args := [d] }
  | _ => none }
def fnFairSumRow : OpenClaim := { program := "ytnkfopnkgingpaa", sum := "ab617f762d66c545ec181ac17960508f8a70c7b9058950c88d8c4009813ff7a8", func := "loop.example/floorrooms/laws.FnFairSum", spec := "fnFairSum", apart := false }
def FnFairSumSaid : Prop := fnFairSumRow.holds Try.pinned (OpenSpec.ofChange fnFairSumSpec)

/-- ITS FALSE NEIGHBOUR: 'it returns false'. Refute it at one input. -/
def fnFairSumWrong : ChangeSpec := { name := "fnFairSum", fn := fun _ => fun
  | [d] => { results := [.lit (.bool false)], args := [d] }
  | _ => none }
def FnFairSumWrongFalsely : Prop := fnFairSumRow.holds Try.pinned (OpenSpec.ofChange fnFairSumWrong)

/-- 'laws.FnLooseCount': WHATEVER THE INPUT: true; the input reads as it did. -/
def fnLooseCountSpec : ChangeSpec := { name := "fnLooseCount", fn := fun _ => fun
  | [d] => { results := [.lit (.bool true)], args := [d] }
  | _ => none }
def fnLooseCountRow : OpenClaim := { program := "ytnkfopnkgingpaa", sum := "ab617f762d66c545ec181ac17960508f8a70c7b9058950c88d8c4009813ff7a8", func := "loop.example/floorrooms/laws.FnLooseCount", spec := "fnLooseCount", unfollowed := true, recurses := true, apart := false }
def FnLooseCountSaid : Prop := fnLooseCountRow.holds Try.pinned (OpenSpec.ofChange fnLooseCountSpec)

/-- ITS FALSE NEIGHBOUR: 'it returns false'. Refute it at one input. -/
def fnLooseCountWrong : ChangeSpec := { name := "fnLooseCount", fn := fun _ => fun
  | [d] => { results := [.lit (.bool false)], args := [d] }
  | _ => none }
def FnLooseCountWrongFalsely : Prop := fnLooseCountRow.holds Try.pinned (OpenSpec.ofChange fnLooseCountWrong)

/-- 'laws.FnLooseSum': WHATEVER THE INPUT: true; the input reads as it did. -/
def fnLooseSumSpec : ChangeSpec := { name := "fnLooseSum", fn := fun _ => fun
  | [d] => { results := [.lit (.bool true)], args := [d] }
  | _ => none }
def fnLooseSumRow : OpenClaim := { program := "ytnkfopnkgingpaa", sum := "ab617f762d66c545ec181ac17960508f8a70c7b9058950c88d8c4009813ff7a8", func := "loop.example/floorrooms/laws.FnLooseSum", spec := "fnLooseSum", apart := false }
def FnLooseSumSaid : Prop := fnLooseSumRow.holds Try.pinned (OpenSpec.ofChange fnLooseSumSpec)

/-- ITS FALSE NEIGHBOUR: 'it returns false'. Refute it at one input. -/
def fnLooseSumWrong : ChangeSpec := { name := "fnLooseSum", fn := fun _ => fun
  | [d] => { results := [.lit (.bool false)], args := [d] }
  | _ => none }
def FnLooseSumWrongFalsely : Prop := fnLooseSumRow.holds Try.pinned (OpenSpec.ofChange fnLooseSumWrong)

/- THE SECOND FORM. 'bulk': how many values and letters a reading holds, each counted each time it is reached (what is shared counts as often as it is met; a slice's spare places count too). A statement '..UptoSaid' is the law's where the arguments, and the package variables that the reading takes, are together of bulk at most 1048576: NARROWER than '..Said'. Prove '..Said' where nothing that the law and all that it calls make is longer than what came in: it says more and counts as full. Else prove '..UptoSaid'. A law counts once. -/
mutual
def uptoBulk {H : Type} : DataW H → Nat
  | .lit (.string bytes) => bytes.length + 1
  | .lit _ => 1
  | .nil => 1
  | .ptr d => uptoBulk d + 1
  | .slice elems spare => uptoBulkAll elems + uptoBulkAll spare + 1
  | .agg parts => uptoBulkAll parts + 1
  | .iface _ d => uptoBulk d + 1
  | .map entries => uptoBulkEntries entries + 1
  | .held _ => 1
def uptoBulkAll {H : Type} : List (DataW H) → Nat
  | [] => 0
  | d :: r => uptoBulk d + uptoBulkAll r
def uptoBulkEntries {H : Type} : List (Lit × DataW H) → Nat
  | [] => 0
  | x :: r => uptoBulkEntry x + uptoBulkEntries r
def uptoBulkEntry {H : Type} : Lit × DataW H → Nat
  | (.string bytes, d) => bytes.length + uptoBulk d + 1
  | (_, d) => uptoBulk d + 1
 end
def uptoSmall : (H : Type) → List (DataW H) → Bool := fun _ ds => decide (uptoBulkAll ds ≤ 1048576)
def OpenSpec.upto (s : _root_.Go.ChangeSpec) : _root_.Go.OpenSpec := { _root_.Go.OpenSpec.ofChange s with cond := some uptoSmall }

/-- 'laws.FnPermIn', WHERE WHAT IT READS IS OF BULK AT MOST 1048576: true; the input reads as it did. -/
def fnPermInUptoRow : OpenClaim := { program := "ytnkfopnkgingpaa", sum := "ab617f762d66c545ec181ac17960508f8a70c7b9058950c88d8c4009813ff7a8", func := "loop.example/floorrooms/laws.FnPermIn", spec := "fnPermIn", apart := false, narrowed := true }
def FnPermInUptoSaid : Prop := fnPermInUptoRow.holds Try.pinned (OpenSpec.upto fnPermInSpec)

/-- 'laws.FnFair', WHERE WHAT IT READS IS OF BULK AT MOST 1048576: true; the input reads as it did. -/
def fnFairUptoRow : OpenClaim := { program := "ytnkfopnkgingpaa", sum := "ab617f762d66c545ec181ac17960508f8a70c7b9058950c88d8c4009813ff7a8", func := "loop.example/floorrooms/laws.FnFair", spec := "fnFair", unfollowed := true, recurses := true, apart := false, narrowed := true }
def FnFairUptoSaid : Prop := fnFairUptoRow.holds Try.pinned (OpenSpec.upto fnFairSpec)

/-- 'laws.FnLoose', WHERE WHAT IT READS IS OF BULK AT MOST 1048576: true; the input reads as it did. -/
def fnLooseUptoRow : OpenClaim := { program := "ytnkfopnkgingpaa", sum := "ab617f762d66c545ec181ac17960508f8a70c7b9058950c88d8c4009813ff7a8", func := "loop.example/floorrooms/laws.FnLoose", spec := "fnLoose", unfollowed := true, recurses := true, apart := false, narrowed := true }
def FnLooseUptoSaid : Prop := fnLooseUptoRow.holds Try.pinned (OpenSpec.upto fnLooseSpec)

/-- 'laws.FnBack', WHERE WHAT IT READS IS OF BULK AT MOST 1048576: true; the input reads as it did. -/
def fnBackUptoRow : OpenClaim := { program := "ytnkfopnkgingpaa", sum := "ab617f762d66c545ec181ac17960508f8a70c7b9058950c88d8c4009813ff7a8", func := "loop.example/floorrooms/laws.FnBack", spec := "fnBack", apart := false, narrowed := true }
def FnBackUptoSaid : Prop := fnBackUptoRow.holds Try.pinned (OpenSpec.upto fnBackSpec)

/-- 'laws.FnOther', WHERE WHAT IT READS IS OF BULK AT MOST 1048576: true; the input reads as it did. -/
def fnOtherUptoRow : OpenClaim := { program := "ytnkfopnkgingpaa", sum := "ab617f762d66c545ec181ac17960508f8a70c7b9058950c88d8c4009813ff7a8", func := "loop.example/floorrooms/laws.FnOther", spec := "fnOther", apart := false, narrowed := true }
def FnOtherUptoSaid : Prop := fnOtherUptoRow.holds Try.pinned (OpenSpec.upto fnOtherSpec)

/-- 'laws.FnAside', WHERE WHAT IT READS IS OF BULK AT MOST 1048576: true; the input reads as it did. -/
def fnAsideUptoRow : OpenClaim := { program := "ytnkfopnkgingpaa", sum := "ab617f762d66c545ec181ac17960508f8a70c7b9058950c88d8c4009813ff7a8", func := "loop.example/floorrooms/laws.FnAside", spec := "fnAside", unfollowed := true, recurses := true, apart := false, narrowed := true }
def FnAsideUptoSaid : Prop := fnAsideUptoRow.holds Try.pinned (OpenSpec.upto fnAsideSpec)

/-- 'laws.FnUnderPerm', WHERE WHAT IT READS IS OF BULK AT MOST 1048576: true; the input reads as it did. -/
def fnUnderPermUptoRow : OpenClaim := { program := "ytnkfopnkgingpaa", sum := "ab617f762d66c545ec181ac17960508f8a70c7b9058950c88d8c4009813ff7a8", func := "loop.example/floorrooms/laws.FnUnderPerm", spec := "fnUnderPerm", unfollowed := true, recurses := true, apart := false, narrowed := true }
def FnUnderPermUptoSaid : Prop := fnUnderPermUptoRow.holds Try.pinned (OpenSpec.upto fnUnderPermSpec)

/-- 'laws.FnFairCount', WHERE WHAT IT READS IS OF BULK AT MOST 1048576: true; the input reads as it did. -/
def fnFairCountUptoRow : OpenClaim := { program := "ytnkfopnkgingpaa", sum := "ab617f762d66c545ec181ac17960508f8a70c7b9058950c88d8c4009813ff7a8", func := "loop.example/floorrooms/laws.FnFairCount", spec := "fnFairCount", unfollowed := true, recurses := true, apart := false, narrowed := true }
def FnFairCountUptoSaid : Prop := fnFairCountUptoRow.holds Try.pinned (OpenSpec.upto fnFairCountSpec)

/-- 'laws.FnFairSum', WHERE WHAT IT READS IS OF BULK AT MOST 1048576: true; the input reads as it did. -/
def fnFairSumUptoRow : OpenClaim := { program := "ytnkfopnkgingpaa", sum := "ab617f762d66c545ec181ac17960508f8a70c7b9058950c88d8c4009813ff7a8", func := "loop.example/floorrooms/laws.FnFairSum", spec := "fnFairSum", apart := false, narrowed := true }
def FnFairSumUptoSaid : Prop := fnFairSumUptoRow.holds Try.pinned (OpenSpec.upto fnFairSumSpec)

/-- 'laws.FnLooseCount', WHERE WHAT IT READS IS OF BULK AT MOST 1048576: true; the input reads as it did. -/
def fnLooseCountUptoRow : OpenClaim := { program := "ytnkfopnkgingpaa", sum := "ab617f762d66c545ec181ac17960508f8a70c7b9058950c88d8c4009813ff7a8", func := "loop.example/floorrooms/laws.FnLooseCount", spec := "fnLooseCount", unfollowed := true, recurses := true, apart := false, narrowed := true }
def FnLooseCountUptoSaid : Prop := fnLooseCountUptoRow.holds Try.pinned (OpenSpec.upto fnLooseCountSpec)

/-- 'laws.FnLooseSum', WHERE WHAT IT READS IS OF BULK AT MOST 1048576: true; the input reads as it did. -/
def fnLooseSumUptoRow : OpenClaim := { program := "ytnkfopnkgingpaa", sum := "ab617f762d66c545ec181ac17960508f8a70c7b9058950c88d8c4009813ff7a8", func := "loop.example/floorrooms/laws.FnLooseSum", spec := "fnLooseSum", apart := false, narrowed := true }
def FnLooseSumUptoSaid : Prop := fnLooseSumUptoRow.holds Try.pinned (OpenSpec.upto fnLooseSumSpec)

end Rows
end Go.Proofs.Ytnkfopnkgingpaa
