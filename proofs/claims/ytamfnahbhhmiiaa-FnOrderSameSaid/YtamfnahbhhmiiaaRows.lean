/-
  No cell of these rows narrows 'for every input' (looked for: loops, veiled, ifaces, maps, wideKeys, modest, calm, conditions, laid).
  DERIVED. THE GIVEN ROWS OF THIS SEAT. 3 by the template 'for every input the law returns true; each argument reads behind the call as it read before'; 0 by the template 'total and deterministic' (their statements: YtamfnahbhhmiiaaTotals.lean).
  GIVEN WITH THE SEED: the statements are not yours to turn. If you find one false, say at which input.
  Laid BY PROGRAM, IN A SANDBOX (cutbox-rows.mjs): the forced cells as the released guide's own fill.sh prints them over the translation bc714e4bf60e665a… (all of the seat's roots in one cut). By AI agents, Wed Nov 11 2026. No macro, syntax, notation, axiom, sorry.
-/
import Derived.Test.YtamfnahbhhmiiaaChecked
import GoSem.Claim
import GoSem.ClaimJoined
import GoSem.ClaimMapViews
import Derived.JoinedTies
import Derived.KernelRfl
namespace Go.Proofs.Ytamfnahbhhmiiaa
/- THE CELL 'sum', in the pinned program and in every row, IS THE sha256 OF THE DUMP (.gsa) THAT YtamfnahbhhmiiaaProg.lean LOADS. Nothing in Lean hashes anything: it is a label: what it is worth is what the hold of that sum in a sandbox is worth. -/
noncomputable def Try.pinned : Pinned := { name := "ytamfnahbhhmiiaa", sum := "bc714e4bf60e665a25dcad7891faa597b5d186e9ab59abc0b90bde63bdb87b62", checked := Try.checked }
namespace Rows
def none {H : Type} : Left H := { results := [], args := [] }

/-- 'laws.FnCutStuck': WHATEVER THE INPUT: true; the input reads as it did. -/
def fnCutStuckSpec : ChangeSpec := { name := "fnCutStuck", fn := fun _ => fun
  | [d] => { results := [.lit (.bool true)], args := [d] }
  | _ => none }
def fnCutStuckRow : OpenClaim := { program := "ytamfnahbhhmiiaa", sum := "bc714e4bf60e665a25dcad7891faa597b5d186e9ab59abc0b90bde63bdb87b62", func := "loop.example/floorrooms/laws.FnCutStuck", spec := "fnCutStuck", unfollowed := true, recurses := true, plainKeys := false, apart := false }
def FnCutStuckSaid : Prop := fnCutStuckRow.holds Try.pinned (OpenSpec.ofChange fnCutStuckSpec)

/-- ITS FALSE NEIGHBOUR: 'it returns false'. Refute it at one input. -/
def fnCutStuckWrong : ChangeSpec := { name := "fnCutStuck", fn := fun _ => fun
  | [d] => { results := [.lit (.bool false)], args := [d] }
  | _ => none }
def FnCutStuckWrongFalsely : Prop := fnCutStuckRow.holds Try.pinned (OpenSpec.ofChange fnCutStuckWrong)

/-- 'laws.FnPerm': WHATEVER THE INPUT: true; the input reads as it did. -/
def fnPermSpec : ChangeSpec := { name := "fnPerm", fn := fun _ => fun
  | [d] => { results := [.lit (.bool true)], args := [d] }
  | _ => none }
def fnPermRow : OpenClaim := { program := "ytamfnahbhhmiiaa", sum := "bc714e4bf60e665a25dcad7891faa597b5d186e9ab59abc0b90bde63bdb87b62", func := "loop.example/floorrooms/laws.FnPerm", spec := "fnPerm", unfollowed := true, recurses := true, plainKeys := false, apart := false }
def FnPermSaid : Prop := fnPermRow.holds Try.pinned (OpenSpec.ofChange fnPermSpec)

/-- ITS FALSE NEIGHBOUR: 'it returns false'. Refute it at one input. -/
def fnPermWrong : ChangeSpec := { name := "fnPerm", fn := fun _ => fun
  | [d] => { results := [.lit (.bool false)], args := [d] }
  | _ => none }
def FnPermWrongFalsely : Prop := fnPermRow.holds Try.pinned (OpenSpec.ofChange fnPermWrong)

/-- 'laws.FnOrderSame': WHATEVER THE INPUT: true; the input reads as it did. -/
def fnOrderSameSpec : ChangeSpec := { name := "fnOrderSame", fn := fun _ => fun
  | [d] => { results := [.lit (.bool true)], args := [d] }
  | _ => none }
def fnOrderSameRow : OpenClaim := { program := "ytamfnahbhhmiiaa", sum := "bc714e4bf60e665a25dcad7891faa597b5d186e9ab59abc0b90bde63bdb87b62", func := "loop.example/floorrooms/laws.FnOrderSame", spec := "fnOrderSame", unfollowed := true, recurses := true, plainKeys := false, apart := false }
def FnOrderSameSaid : Prop := fnOrderSameRow.holds Try.pinned (OpenSpec.ofChange fnOrderSameSpec)

/-- ITS FALSE NEIGHBOUR: 'it returns false'. Refute it at one input. -/
def fnOrderSameWrong : ChangeSpec := { name := "fnOrderSame", fn := fun _ => fun
  | [d] => { results := [.lit (.bool false)], args := [d] }
  | _ => none }
def FnOrderSameWrongFalsely : Prop := fnOrderSameRow.holds Try.pinned (OpenSpec.ofChange fnOrderSameWrong)

/- THE SECOND FORM. 'bulk': how many values and letters a reading holds, each counted each time it is reached (what is shared counts as often as it is met; a slice's spare places count too). A statement '..UptoSaid' is the law's where the arguments, and the package variables that the reading takes, are together of bulk at most 1048576: NARROWER than '..Said'. Prove '..Said' where nothing that the law and all that it calls make is longer than what came in: it says more and counts as full. Else prove '..UptoSaid'. A law counts once. -/
mutual
def uptoBulk {H : Type} : DataW H → Nat
  | .lit (.string bytes) => bytes.length + 1
  | .lit _ => 1
  | .nil => 1
  | .ptr d => uptoBulk d + 1
  | .slice elems spare => uptoBulkAll elems + uptoBulkAll spare + 1
  | .agg parts => uptoBulkAll parts + 1
  | .iface _ d => uptoBulk d + 1
  | .map entries => uptoBulkEntries entries + 1
  | .held _ => 1
def uptoBulkAll {H : Type} : List (DataW H) → Nat
  | [] => 0
  | d :: r => uptoBulk d + uptoBulkAll r
def uptoBulkEntries {H : Type} : List (Lit × DataW H) → Nat
  | [] => 0
  | x :: r => uptoBulkEntry x + uptoBulkEntries r
def uptoBulkEntry {H : Type} : Lit × DataW H → Nat
  | (.string bytes, d) => bytes.length + uptoBulk d + 1
  | (_, d) => uptoBulk d + 1
 end
def uptoSmall : (H : Type) → List (DataW H) → Bool := fun _ ds => decide (uptoBulkAll ds ≤ 1048576)
def OpenSpec.upto (s : _root_.Go.ChangeSpec) : _root_.Go.OpenSpec := { _root_.Go.OpenSpec.ofChange s with cond := some uptoSmall }

/-- 'laws.FnCutStuck', WHERE WHAT IT READS IS OF BULK AT MOST 1048576: true; the input reads as it did. -/
def fnCutStuckUptoRow : OpenClaim := { program := "ytamfnahbhhmiiaa", sum := "bc714e4bf60e665a25dcad7891faa597b5d186e9ab59abc0b90bde63bdb87b62", func := "loop.example/floorrooms/laws.FnCutStuck", spec := "fnCutStuck", unfollowed := true, recurses := true, plainKeys := false, apart := false, narrowed := true }
def FnCutStuckUptoSaid : Prop := fnCutStuckUptoRow.holds Try.pinned (OpenSpec.upto fnCutStuckSpec)

/-- 'laws.FnPerm', WHERE WHAT IT READS IS OF BULK AT MOST 1048576: true; the input reads as it did. -/
def fnPermUptoRow : OpenClaim := { program := "ytamfnahbhhmiiaa", sum := "bc714e4bf60e665a25dcad7891faa597b5d186e9ab59abc0b90bde63bdb87b62", func := "loop.example/floorrooms/laws.FnPerm", spec := "fnPerm", unfollowed := true, recurses := true, plainKeys := false, apart := false, narrowed := true }
def FnPermUptoSaid : Prop := fnPermUptoRow.holds Try.pinned (OpenSpec.upto fnPermSpec)

/-- 'laws.FnOrderSame', WHERE WHAT IT READS IS OF BULK AT MOST 1048576: true; the input reads as it did. -/
def fnOrderSameUptoRow : OpenClaim := { program := "ytamfnahbhhmiiaa", sum := "bc714e4bf60e665a25dcad7891faa597b5d186e9ab59abc0b90bde63bdb87b62", func := "loop.example/floorrooms/laws.FnOrderSame", spec := "fnOrderSame", unfollowed := true, recurses := true, plainKeys := false, apart := false, narrowed := true }
def FnOrderSameUptoSaid : Prop := fnOrderSameUptoRow.holds Try.pinned (OpenSpec.upto fnOrderSameSpec)

end Rows
end Go.Proofs.Ytamfnahbhhmiiaa
