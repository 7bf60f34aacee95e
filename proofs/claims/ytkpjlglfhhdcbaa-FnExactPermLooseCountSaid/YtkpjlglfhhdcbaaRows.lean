/-
  No cell of these rows narrows 'for every input' (looked for: loops, veiled, ifaces, maps, wideKeys, modest, calm, conditions, laid).
  DERIVED. THE GIVEN ROWS OF THIS SEAT. 11 by the template 'for every input the law returns true; each argument reads behind the call as it read before'; 0 by the template 'total and deterministic' (their statements: YtkpjlglfhhdcbaaTotals.lean).
  GIVEN WITH THE SEED: the statements are not yours to turn. If you find one false, say at which input.
  Laid BY PROGRAM, IN A SANDBOX (cutbox-rows.mjs): the forced cells as the released guide's own fill.sh prints them over the translation 5bc520e746b37f68… (all of the seat's roots in one cut). By AI agents, Wed Nov 11 2026. No macro, syntax, notation, axiom, sorry.
-/
import Derived.Test.YtkpjlglfhhdcbaaChecked
import GoSem.Claim
import GoSem.ClaimJoined
import GoSem.ClaimMapViews
import Derived.JoinedTies
import Derived.KernelRfl
namespace Go.Proofs.Ytkpjlglfhhdcbaa
/- THE CELL 'sum', in the pinned program and in every row, IS THE sha256 OF THE DUMP (.gsa) THAT YtkpjlglfhhdcbaaProg.lean LOADS. Nothing in Lean hashes anything: it is a label: what it is worth is what the hold of that sum in a sandbox is worth. -/
noncomputable def Try.pinned : Pinned := { name := "ytkpjlglfhhdcbaa", sum := "5bc520e746b37f68c1ef56ee873ac106b66ac7802cc1b8b5a00c2981f3ec88de", checked := Try.checked }
namespace Rows
def none {H : Type} : Left H := { results := [], args := [] }

/-- 'laws.FnExactPermIn': WHATEVER THE INPUT: true; the input reads as it did. -/
def fnExactPermInSpec : ChangeSpec := { name := "fnExactPermIn", fn := fun _ => fun
  | [d] => { results := [.lit (.bool true)], args := [d] }
  | _ => none }
def fnExactPermInRow : OpenClaim := { program := "ytkpjlglfhhdcbaa", sum := "5bc520e746b37f68c1ef56ee873ac106b66ac7802cc1b8b5a00c2981f3ec88de", func := "loop.example/floorrooms/laws.FnExactPermIn", spec := "fnExactPermIn", apart := false }
def FnExactPermInSaid : Prop := fnExactPermInRow.holds Try.pinned (OpenSpec.ofChange fnExactPermInSpec)

/-- ITS FALSE NEIGHBOUR: 'it returns false'. Refute it at one input. -/
def fnExactPermInWrong : ChangeSpec := { name := "fnExactPermIn", fn := fun _ => fun
  | [d] => { results := [.lit (.bool false)], args := [d] }
  | _ => none }
def FnExactPermInWrongFalsely : Prop := fnExactPermInRow.holds Try.pinned (OpenSpec.ofChange fnExactPermInWrong)

/-- 'laws.FnExactPermFair': WHATEVER THE INPUT: true; the input reads as it did. -/
def fnExactPermFairSpec : ChangeSpec := { name := "fnExactPermFair", fn := fun _ => fun
  | [d] => { results := [.lit (.bool true)], args := [d] }
  | _ => none }
def fnExactPermFairRow : OpenClaim := { program := "ytkpjlglfhhdcbaa", sum := "5bc520e746b37f68c1ef56ee873ac106b66ac7802cc1b8b5a00c2981f3ec88de", func := "loop.example/floorrooms/laws.FnExactPermFair", spec := "fnExactPermFair", unfollowed := true, recurses := true, apart := false }
def FnExactPermFairSaid : Prop := fnExactPermFairRow.holds Try.pinned (OpenSpec.ofChange fnExactPermFairSpec)

/-- ITS FALSE NEIGHBOUR: 'it returns false'. Refute it at one input. -/
def fnExactPermFairWrong : ChangeSpec := { name := "fnExactPermFair", fn := fun _ => fun
  | [d] => { results := [.lit (.bool false)], args := [d] }
  | _ => none }
def FnExactPermFairWrongFalsely : Prop := fnExactPermFairRow.holds Try.pinned (OpenSpec.ofChange fnExactPermFairWrong)

/-- 'laws.FnExactPermLoose': WHATEVER THE INPUT: true; the input reads as it did. -/
def fnExactPermLooseSpec : ChangeSpec := { name := "fnExactPermLoose", fn := fun _ => fun
  | [d] => { results := [.lit (.bool true)], args := [d] }
  | _ => none }
def fnExactPermLooseRow : OpenClaim := { program := "ytkpjlglfhhdcbaa", sum := "5bc520e746b37f68c1ef56ee873ac106b66ac7802cc1b8b5a00c2981f3ec88de", func := "loop.example/floorrooms/laws.FnExactPermLoose", spec := "fnExactPermLoose", unfollowed := true, recurses := true, apart := false }
def FnExactPermLooseSaid : Prop := fnExactPermLooseRow.holds Try.pinned (OpenSpec.ofChange fnExactPermLooseSpec)

/-- ITS FALSE NEIGHBOUR: 'it returns false'. Refute it at one input. -/
def fnExactPermLooseWrong : ChangeSpec := { name := "fnExactPermLoose", fn := fun _ => fun
  | [d] => { results := [.lit (.bool false)], args := [d] }
  | _ => none }
def FnExactPermLooseWrongFalsely : Prop := fnExactPermLooseRow.holds Try.pinned (OpenSpec.ofChange fnExactPermLooseWrong)

/-- 'laws.FnExactPermBack': WHATEVER THE INPUT: true; the input reads as it did. -/
def fnExactPermBackSpec : ChangeSpec := { name := "fnExactPermBack", fn := fun _ => fun
  | [d] => { results := [.lit (.bool true)], args := [d] }
  | _ => none }
def fnExactPermBackRow : OpenClaim := { program := "ytkpjlglfhhdcbaa", sum := "5bc520e746b37f68c1ef56ee873ac106b66ac7802cc1b8b5a00c2981f3ec88de", func := "loop.example/floorrooms/laws.FnExactPermBack", spec := "fnExactPermBack", apart := false }
def FnExactPermBackSaid : Prop := fnExactPermBackRow.holds Try.pinned (OpenSpec.ofChange fnExactPermBackSpec)

/-- ITS FALSE NEIGHBOUR: 'it returns false'. Refute it at one input. -/
def fnExactPermBackWrong : ChangeSpec := { name := "fnExactPermBack", fn := fun _ => fun
  | [d] => { results := [.lit (.bool false)], args := [d] }
  | _ => none }
def FnExactPermBackWrongFalsely : Prop := fnExactPermBackRow.holds Try.pinned (OpenSpec.ofChange fnExactPermBackWrong)

/-- 'laws.FnExactPermOther': WHATEVER THE INPUT: true; the input reads as it did. -/
def fnExactPermOtherSpec : ChangeSpec := { name := "fnExactPermOther", fn := fun _ => fun
  | [d] => { results := [.lit (.bool true)], args := [d] }
  | _ => none }
def fnExactPermOtherRow : OpenClaim := { program := "ytkpjlglfhhdcbaa", sum := "5bc520e746b37f68c1ef56ee873ac106b66ac7802cc1b8b5a00c2981f3ec88de", func := "loop.example/floorrooms/laws.FnExactPermOther", spec := "fnExactPermOther", apart := false }
def FnExactPermOtherSaid : Prop := fnExactPermOtherRow.holds Try.pinned (OpenSpec.ofChange fnExactPermOtherSpec)

/-- ITS FALSE NEIGHBOUR: 'it returns false'. Refute it at one input. -/
def fnExactPermOtherWrong : ChangeSpec := { name := "fnExactPermOther", fn := fun _ => fun
  | [d] => { results := [.lit (.bool false)], args := [d] }
  | _ => none }
def FnExactPermOtherWrongFalsely : Prop := fnExactPermOtherRow.holds Try.pinned (OpenSpec.ofChange fnExactPermOtherWrong)

/-- 'laws.FnExactPermAside': WHATEVER THE INPUT: true; the input reads as it did. -/
def fnExactPermAsideSpec : ChangeSpec := { name := "fnExactPermAside", fn := fun _ => fun
  | [d1, d2] => { results := [.lit (.bool true)], args := [d1, d2] }
  | _ => none }
def fnExactPermAsideRow : OpenClaim := { program := "ytkpjlglfhhdcbaa", sum := "5bc520e746b37f68c1ef56ee873ac106b66ac7802cc1b8b5a00c2981f3ec88de", func := "loop.example/floorrooms/laws.FnExactPermAside", spec := "fnExactPermAside", unfollowed := true, recurses := true, apart := false }
def FnExactPermAsideSaid : Prop := fnExactPermAsideRow.holds Try.pinned (OpenSpec.ofChange fnExactPermAsideSpec)

/-- ITS FALSE NEIGHBOUR: 'it returns false'. Refute it at one input. -/
def fnExactPermAsideWrong : ChangeSpec := { name := "fnExactPermAside", fn := fun _ => fun
  | [d1, d2] => { results := [.lit (.bool false)], args := [d1, d2] }
  | _ => none }
def FnExactPermAsideWrongFalsely : Prop := fnExactPermAsideRow.holds Try.pinned (OpenSpec.ofChange fnExactPermAsideWrong)

/-- 'laws.FnExactPermUnder': WHATEVER THE INPUT: true; the input reads as it did. -/
def fnExactPermUnderSpec : ChangeSpec := { name := "fnExactPermUnder", fn := fun _ => fun
  | [d1, d2] => { results := [.lit (.bool true)], args := [d1, d2] }
  | _ => none }
def fnExactPermUnderRow : OpenClaim := { program := "ytkpjlglfhhdcbaa", sum := "5bc520e746b37f68c1ef56ee873ac106b66ac7802cc1b8b5a00c2981f3ec88de", func := "loop.example/floorrooms/laws.FnExactPermUnder", spec := "fnExactPermUnder", unfollowed := true, recurses := true, apart := false }
def FnExactPermUnderSaid : Prop := fnExactPermUnderRow.holds Try.pinned (OpenSpec.ofChange fnExactPermUnderSpec)

/-- ITS FALSE NEIGHBOUR: 'it returns false'. Refute it at one input. -/
def fnExactPermUnderWrong : ChangeSpec := { name := "fnExactPermUnder", fn := fun _ => fun
  | [d1, d2] => { results := [.lit (.bool false)], args := [d1, d2] }
  | _ => none }
def FnExactPermUnderWrongFalsely : Prop := fnExactPermUnderRow.holds Try.pinned (OpenSpec.ofChange fnExactPermUnderWrong)

/-- 'laws.FnExactPermFairCount': WHATEVER THE INPUT: true; the input reads as it did. -/
def fnExactPermFairCountSpec : ChangeSpec := { name := "fnExactPermFairCount", fn := fun _ => fun
  | [d] => { results := [.lit (.bool true)], args := [d] }
  | _ => none }
def fnExactPermFairCountRow : OpenClaim := { program := "ytkpjlglfhhdcbaa", sum := "5bc520e746b37f68c1ef56ee873ac106b66ac7802cc1b8b5a00c2981f3ec88de", func := "loop.example/floorrooms/laws.FnExactPermFairCount", spec := "fnExactPermFairCount", unfollowed := true, recurses := true, apart := false }
def FnExactPermFairCountSaid : Prop := fnExactPermFairCountRow.holds Try.pinned (OpenSpec.ofChange fnExactPermFairCountSpec)

/-- ITS FALSE NEIGHBOUR: 'it returns false'. Refute it at one input. -/
def fnExactPermFairCountWrong : ChangeSpec := { name := "fnExactPermFairCount", fn := fun _ => fun
  | [d] => { results := [.lit (.bool false)], args := [d] }
  | _ => none }
def FnExactPermFairCountWrongFalsely : Prop := fnExactPermFairCountRow.holds Try.pinned (OpenSpec.ofChange fnExactPermFairCountWrong)

/-- 'laws.FnExactPermFairSum': WHATEVER THE INPUT: true; the input reads as it did. -/
def fnExactPermFairSumSpec : ChangeSpec := { name := "fnExactPermFairSum", fn := fun _ => fun
  | [d] => { results := [.lit (.bool true)], args := [d] }
  | _ => none }
def fnExactPermFairSumRow : OpenClaim := { program := "ytkpjlglfhhdcbaa", sum := "5bc520e746b37f68c1ef56ee873ac106b66ac7802cc1b8b5a00c2981f3ec88de", func := "loop.example/floorrooms/laws.FnExactPermFairSum", spec := "fnExactPermFairSum", apart := false }
def FnExactPermFairSumSaid : Prop := fnExactPermFairSumRow.holds Try.pinned (OpenSpec.ofChange fnExactPermFairSumSpec)

/-- ITS FALSE NEIGHBOUR: 'it returns false'. Refute it at one input. -/
def fnExactPermFairSumWrong : ChangeSpec := { name := "fnExactPermFairSum", fn := fun _ => fun
  | [d] => { results := [.lit (.bool false)], args := [d] }
  | _ => none }
def FnExactPermFairSumWrongFalsely : Prop := fnExactPermFairSumRow.holds Try.pinned (OpenSpec.ofChange fnExactPermFairSumWrong)

/-- 'laws.FnExactPermLooseCount': WHATEVER THE INPUT: true; the input reads as it did. -/
def fnExactPermLooseCountSpec : ChangeSpec := { name := "fnExactPermLooseCount", fn := fun _ => fun
  | [d] => { results := [.lit (.bool true)], args := [d] }
  | _ => none }
def fnExactPermLooseCountRow : OpenClaim := { program := "ytkpjlglfhhdcbaa", sum := "5bc520e746b37f68c1ef56ee873ac106b66ac7802cc1b8b5a00c2981f3ec88de", func := "loop.example/floorrooms/laws.FnExactPermLooseCount", spec := "fnExactPermLooseCount", unfollowed := true, recurses := true, apart := false }
def FnExactPermLooseCountSaid : Prop := fnExactPermLooseCountRow.holds Try.pinned (OpenSpec.ofChange fnExactPermLooseCountSpec)

/-- ITS FALSE NEIGHBOUR: 'it returns false'. Refute it at one input. -/
def fnExactPermLooseCountWrong : ChangeSpec := { name := "fnExactPermLooseCount", fn := fun _ => fun
  | [d] => { results := [.lit (.bool false)], args := [d] }
  | _ => none }
def FnExactPermLooseCountWrongFalsely : Prop := fnExactPermLooseCountRow.holds Try.pinned (OpenSpec.ofChange fnExactPermLooseCountWrong)

/-- 'laws.FnExactPermLooseSum': WHATEVER THE INPUT: true; the input reads as it did. -/
def fnExactPermLooseSumSpec : ChangeSpec := { name := "fnExactPermLooseSum", fn := fun _ => fun
  | [d] => { results := [.lit (.bool true)], args := [d] }
  | _ => none }
def fnExactPermLooseSumRow : OpenClaim := { program := "ytkpjlglfhhdcbaa", sum := "5bc520e746b37f68c1ef56ee873ac106b66ac7802cc1b8b5a00c2981f3ec88de", func := "loop.example/floorrooms/laws.FnExactPermLooseSum", spec := "fnExactPermLooseSum", apart := false }
def FnExactPermLooseSumSaid : Prop := fnExactPermLooseSumRow.holds Try.pinned (OpenSpec.ofChange fnExactPermLooseSumSpec)

/-- ITS FALSE NEIGHBOUR: 'it returns false'. Refute it at one input. -/
def fnExactPermLooseSumWrong : ChangeSpec := { name := "fnExactPermLooseSum", fn := fun _ => fun
  | [d] => { results := [.lit (.bool false)], args := [d] }
  | _ => none }
def FnExactPermLooseSumWrongFalsely : Prop := fnExactPermLooseSumRow.holds Try.pinned (OpenSpec.ofChange fnExactPermLooseSumWrong)

/- THE SECOND FORM. 'bulk': how many values and letters a reading holds, each counted each time it is reached (what is shared counts as often as it is met; a slice's spare places count too). A statement '..UptoSaid' is the law's where the arguments, and the package variables that the reading takes, are together of bulk at most 1048576: NARROWER than '..Said'. Prove '..Said' where nothing that the law and all that it calls make is longer than what came in: it says more and counts as full. Else prove '..UptoSaid'. A law counts once. -/
mutual
def uptoBulk {H : Type} : DataW H → Nat
  | .lit (.string bytes) => bytes.length + 1
  | .lit _ => 1
  | .nil => 1
  | .ptr d => uptoBulk d + 1
  | .slice elems spare => uptoBulkAll elems + uptoBulkAll spare + 1
  | .agg parts => uptoBulkAll parts + 1
  | .iface _ d => uptoBulk d + 1
  | .map entries => uptoBulkEntries entries + 1
  | .held _ => 1
def uptoBulkAll {H : Type} : List (DataW H) → Nat
  | [] => 0
  | d :: r => uptoBulk d + uptoBulkAll r
def uptoBulkEntries {H : Type} : List (Lit × DataW H) → Nat
  | [] => 0
  | x :: r => uptoBulkEntry x + uptoBulkEntries r
def uptoBulkEntry {H : Type} : Lit × DataW H → Nat
  | (.string bytes, d) => bytes.length + uptoBulk d + 1
  | (_, d) => uptoBulk d + 1
 end
def uptoSmall : (H : Type) → List (DataW H) → Bool := fun _ ds => decide (uptoBulkAll ds ≤ 1048576)
def OpenSpec.upto (s : _root_.Go.ChangeSpec) : _root_.Go.OpenSpec := { _root_.Go.OpenSpec.ofChange s with cond := some uptoSmall }

/-- 'laws.FnExactPermIn', WHERE WHAT IT READS IS OF BULK AT MOST 1048576: true; the input reads as it did. -/
def fnExactPermInUptoRow : OpenClaim := { program := "ytkpjlglfhhdcbaa", sum := "5bc520e746b37f68c1ef56ee873ac106b66ac7802cc1b8b5a00c2981f3ec88de", func := "loop.example/floorrooms/laws.FnExactPermIn", spec := "fnExactPermIn", apart := false, narrowed := true }
def FnExactPermInUptoSaid : Prop := fnExactPermInUptoRow.holds Try.pinned (OpenSpec.upto fnExactPermInSpec)

/-- 'laws.FnExactPermFair', WHERE WHAT IT READS IS OF BULK AT MOST 1048576: true; the input reads as it did. -/
def fnExactPermFairUptoRow : OpenClaim := { program := "ytkpjlglfhhdcbaa", sum := "5bc520e746b37f68c1ef56ee873ac106b66ac7802cc1b8b5a00c2981f3ec88de", func := "loop.example/floorrooms/laws.FnExactPermFair", spec := "fnExactPermFair", unfollowed := true, recurses := true, apart := false, narrowed := true }
def FnExactPermFairUptoSaid : Prop := fnExactPermFairUptoRow.holds Try.pinned (OpenSpec.upto fnExactPermFairSpec)

/-- 'laws.FnExactPermLoose', WHERE WHAT IT READS IS OF BULK AT MOST 1048576: true; the input reads as it did. -/
def fnExactPermLooseUptoRow : OpenClaim := { program := "ytkpjlglfhhdcbaa", sum := "5bc520e746b37f68c1ef56ee873ac106b66ac7802cc1b8b5a00c2981f3ec88de", func := "loop.example/floorrooms/laws.FnExactPermLoose", spec := "fnExactPermLoose", unfollowed := true, recurses := true, apart := false, narrowed := true }
def FnExactPermLooseUptoSaid : Prop := fnExactPermLooseUptoRow.holds Try.pinned (OpenSpec.upto fnExactPermLooseSpec)

/-- 'laws.FnExactPermBack', WHERE WHAT IT READS IS OF BULK AT MOST 1048576: true; the input reads as it did. -/
def fnExactPermBackUptoRow : OpenClaim := { program := "ytkpjlglfhhdcbaa", sum := "5bc520e746b37f68c1ef56ee873ac106b66ac7802cc1b8b5a00c2981f3ec88de", func := "loop.example/floorrooms/laws.FnExactPermBack", spec := "fnExactPermBack", apart := false, narrowed := true }
def FnExactPermBackUptoSaid : Prop := fnExactPermBackUptoRow.holds Try.pinned (OpenSpec.upto fnExactPermBackSpec)

/-- 'laws.FnExactPermOther', WHERE WHAT IT READS IS OF BULK AT MOST 1048576: true; the input reads as it did. -/
def fnExactPermOtherUptoRow : OpenClaim := { program := "ytkpjlglfhhdcbaa", sum := "5bc520e746b37f68c1ef56ee873ac106b66ac7802cc1b8b5a00c2981f3ec88de", func := "loop.example/floorrooms/laws.FnExactPermOther", spec := "fnExactPermOther", apart := false, narrowed := true }
def FnExactPermOtherUptoSaid : Prop := fnExactPermOtherUptoRow.holds Try.pinned (OpenSpec.upto fnExactPermOtherSpec)

/-- 'laws.FnExactPermAside', WHERE WHAT IT READS IS OF BULK AT MOST 1048576: true; the input reads as it did. -/
def fnExactPermAsideUptoRow : OpenClaim := { program := "ytkpjlglfhhdcbaa", sum := "5bc520e746b37f68c1ef56ee873ac106b66ac7802cc1b8b5a00c2981f3ec88de", func := "loop.example/floorrooms/laws.FnExactPermAside", spec := "fnExactPermAside", unfollowed := true, recurses := true, apart := false, narrowed := true }
def FnExactPermAsideUptoSaid : Prop := fnExactPermAsideUptoRow.holds Try.pinned (OpenSpec.upto fnExactPermAsideSpec)

/-- 'laws.FnExactPermUnder', WHERE WHAT IT READS IS OF BULK AT MOST 1048576: true; the input reads as it did. -/
def fnExactPermUnderUptoRow : OpenClaim := { program := "ytkpjlglfhhdcbaa", sum := "5bc520e746b37f68c1ef56ee873ac106b66ac7802cc1b8b5a00c2981f3ec88de", func := "loop.example/floorrooms/laws.FnExactPermUnder", spec := "fnExactPermUnder", unfollowed := true, recurses := true, apart := false, narrowed := true }
def FnExactPermUnderUptoSaid : Prop := fnExactPermUnderUptoRow.holds Try.pinned (OpenSpec.upto fnExactPermUnderSpec)

/-- 'laws.FnExactPermFairCount', WHERE WHAT IT READS IS OF BULK AT MOST 1048576: true; the input reads as it did. -/
def fnExactPermFairCountUptoRow : OpenClaim := { program := "ytkpjlglfhhdcbaa", sum := "5bc520e746b37f68c1ef56ee873ac106b66ac7802cc1b8b5a00c2981f3ec88de", func := "loop.example/floorrooms/laws.FnExactPermFairCount", spec := "fnExactPermFairCount", unfollowed := true, recurses := true, apart := false, narrowed := true }
def FnExactPermFairCountUptoSaid : Prop := fnExactPermFairCountUptoRow.holds Try.pinned (OpenSpec.upto fnExactPermFairCountSpec)

/-- 'laws.FnExactPermFairSum', WHERE WHAT IT READS IS OF BULK AT MOST 1048576: true; the input reads as it did. -/
def fnExactPermFairSumUptoRow : OpenClaim := { program := "ytkpjlglfhhdcbaa", sum := "5bc520e746b37f68c1ef56ee873ac106b66ac7802cc1b8b5a00c2981f3ec88de", func := "loop.example/floorrooms/laws.FnExactPermFairSum", spec := "fnExactPermFairSum", apart := false, narrowed := true }
def FnExactPermFairSumUptoSaid : Prop := fnExactPermFairSumUptoRow.holds Try.pinned (OpenSpec.upto fnExactPermFairSumSpec)

/-- 'laws.FnExactPermLooseCount', WHERE WHAT IT READS IS OF BULK AT MOST 1048576: true; the input reads as it did. -/
def fnExactPermLooseCountUptoRow : OpenClaim := { program := "ytkpjlglfhhdcbaa", sum := "5bc520e746b37f68c1ef56ee873ac106b66ac7802cc1b8b5a00c2981f3ec88de", func := "loop.example/floorrooms/laws.FnExactPermLooseCount", spec := "fnExactPermLooseCount", unfollowed := true, recurses := true, apart := false, narrowed := true }
def FnExactPermLooseCountUptoSaid : Prop := fnExactPermLooseCountUptoRow.holds Try.pinned (OpenSpec.upto fnExactPermLooseCountSpec)

/-- 'laws.FnExactPermLooseSum', WHERE WHAT IT READS IS OF BULK AT MOST 1048576: true; the input reads as it did. -/
def fnExactPermLooseSumUptoRow : OpenClaim := { program := "ytkpjlglfhhdcbaa", sum := "5bc520e746b37f68c1ef56ee873ac106b66ac7802cc1b8b5a00c2981f3ec88de", func := "loop.example/floorrooms/laws.FnExactPermLooseSum", spec := "fnExactPermLooseSum", apart := false, narrowed := true }
def FnExactPermLooseSumUptoSaid : Prop := fnExactPermLooseSumUptoRow.holds Try.pinned (OpenSpec.upto fnExactPermLooseSumSpec)

end Rows
end Go.Proofs.Ytkpjlglfhhdcbaa
