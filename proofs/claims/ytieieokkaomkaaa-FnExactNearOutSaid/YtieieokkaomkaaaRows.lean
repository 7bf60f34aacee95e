/-
  No cell of these rows narrows 'for every input' (looked for: loops, veiled, ifaces, maps, wideKeys, modest, calm, conditions, laid).
  DERIVED. THE GIVEN ROWS OF THIS SEAT. 5 by the template 'for every input the law returns true; each argument reads behind the call as it read before'; 0 by the template 'total and deterministic' (their statements: YtieieokkaomkaaaTotals.lean).
  GIVEN WITH THE SEED: the statements are not yours to turn. If you find one false, say at which input.
  Laid BY PROGRAM, IN A SANDBOX (cutbox-rows.mjs): the forced cells as the released guide's own fill.sh prints them over the translation 60134e639e3e89e4… (all of the seat's roots in one cut). By AI agents, Wed Nov 11 2026. No macro, syntax, notation, axiom, sorry.
-/
import Derived.Test.YtieieokkaomkaaaChecked
import GoSem.Claim
import GoSem.ClaimJoined
import GoSem.ClaimMapViews
import Derived.JoinedTies
import Derived.KernelRfl
namespace Go.Proofs.Ytieieokkaomkaaa
/- THE CELL 'sum', in the pinned program and in every row, IS THE sha256 OF THE DUMP (.gsa) THAT YtieieokkaomkaaaProg.lean LOADS. Nothing in Lean hashes anything: it is a label: what it is worth is what the hold of that sum in a sandbox is worth. -/
noncomputable def Try.pinned : Pinned := { name := "ytieieokkaomkaaa", sum := "60134e639e3e89e41d969baf103c9a5cde0ca433247defb734005f415a79a505", checked := Try.checked }
namespace Rows
def none {H : Type} : Left H := { results := [], args := [] }

/-- 'laws.FnExactWallCross': WHATEVER THE INPUT: true; the input reads as it did. -/
def fnExactWallCrossSpec : ChangeSpec := { name := "fnExactWallCross", fn := fun _ => fun
  | [d] => { results := [.lit (.bool true)], args := [d] }
  | _ => none }
def fnExactWallCrossRow : OpenClaim := { program := "ytieieokkaomkaaa", sum := "60134e639e3e89e41d969baf103c9a5cde0ca433247defb734005f415a79a505", func := "loop.example/floorrooms/laws.FnExactWallCross", spec := "fnExactWallCross", unfollowed := true, recurses := true, plainKeys := false, apart := false }
def FnExactWallCrossSaid : Prop := fnExactWallCrossRow.holds Try.pinned (OpenSpec.ofChange fnExactWallCrossSpec)

/-- ITS FALSE NEIGHBOUR: 'it returns false'. Refute it at one input. -/
def fnExactWallCrossWrong : ChangeSpec := { name := "fnExactWallCross", fn := fun _ => fun
  | [d] => { results := [.lit (.bool false)], args := [d] }
  | _ => none }
def FnExactWallCrossWrongFalsely : Prop := fnExactWallCrossRow.holds Try.pinned (OpenSpec.ofChange fnExactWallCrossWrong)

/-- 'laws.FnExactWallPlain': WHATEVER THE INPUT: true; the input reads as it did. -/
def fnExactWallPlainSpec : ChangeSpec := { name := "fnExactWallPlain", fn := fun _ => fun
  | [d] => { results := [.lit (.bool true)], args := [d] }
  | _ => none }
def fnExactWallPlainRow : OpenClaim := { program := "ytieieokkaomkaaa", sum := "60134e639e3e89e41d969baf103c9a5cde0ca433247defb734005f415a79a505", func := "loop.example/floorrooms/laws.FnExactWallPlain", spec := "fnExactWallPlain", unfollowed := true, recurses := true, plainKeys := false, apart := false }
def FnExactWallPlainSaid : Prop := fnExactWallPlainRow.holds Try.pinned (OpenSpec.ofChange fnExactWallPlainSpec)

/-- ITS FALSE NEIGHBOUR: 'it returns false'. Refute it at one input. -/
def fnExactWallPlainWrong : ChangeSpec := { name := "fnExactWallPlain", fn := fun _ => fun
  | [d] => { results := [.lit (.bool false)], args := [d] }
  | _ => none }
def FnExactWallPlainWrongFalsely : Prop := fnExactWallPlainRow.holds Try.pinned (OpenSpec.ofChange fnExactWallPlainWrong)

/-- 'laws.FnExactWallTees': WHATEVER THE INPUT: true; the input reads as it did. -/
def fnExactWallTeesSpec : ChangeSpec := { name := "fnExactWallTees", fn := fun _ => fun
  | [d] => { results := [.lit (.bool true)], args := [d] }
  | _ => none }
def fnExactWallTeesRow : OpenClaim := { program := "ytieieokkaomkaaa", sum := "60134e639e3e89e41d969baf103c9a5cde0ca433247defb734005f415a79a505", func := "loop.example/floorrooms/laws.FnExactWallTees", spec := "fnExactWallTees", unfollowed := true, recurses := true, plainKeys := false, apart := false }
def FnExactWallTeesSaid : Prop := fnExactWallTeesRow.holds Try.pinned (OpenSpec.ofChange fnExactWallTeesSpec)

/-- ITS FALSE NEIGHBOUR: 'it returns false'. Refute it at one input. -/
def fnExactWallTeesWrong : ChangeSpec := { name := "fnExactWallTees", fn := fun _ => fun
  | [d] => { results := [.lit (.bool false)], args := [d] }
  | _ => none }
def FnExactWallTeesWrongFalsely : Prop := fnExactWallTeesRow.holds Try.pinned (OpenSpec.ofChange fnExactWallTeesWrong)

/-- 'laws.FnExactWallEnds': WHATEVER THE INPUT: true; the input reads as it did. -/
def fnExactWallEndsSpec : ChangeSpec := { name := "fnExactWallEnds", fn := fun _ => fun
  | [d] => { results := [.lit (.bool true)], args := [d] }
  | _ => none }
def fnExactWallEndsRow : OpenClaim := { program := "ytieieokkaomkaaa", sum := "60134e639e3e89e41d969baf103c9a5cde0ca433247defb734005f415a79a505", func := "loop.example/floorrooms/laws.FnExactWallEnds", spec := "fnExactWallEnds", unfollowed := true, recurses := true, plainKeys := false, apart := false }
def FnExactWallEndsSaid : Prop := fnExactWallEndsRow.holds Try.pinned (OpenSpec.ofChange fnExactWallEndsSpec)

/-- ITS FALSE NEIGHBOUR: 'it returns false'. Refute it at one input. -/
def fnExactWallEndsWrong : ChangeSpec := { name := "fnExactWallEnds", fn := fun _ => fun
  | [d] => { results := [.lit (.bool false)], args := [d] }
  | _ => none }
def FnExactWallEndsWrongFalsely : Prop := fnExactWallEndsRow.holds Try.pinned (OpenSpec.ofChange fnExactWallEndsWrong)

/-- 'laws.FnExactNearOut': WHATEVER THE INPUT: true; the input reads as it did. -/
def fnExactNearOutSpec : ChangeSpec := { name := "fnExactNearOut", fn := fun _ => fun
  | [d1, d2] => { results := [.lit (.bool true)], args := [d1, d2] }
  | _ => none }
def fnExactNearOutRow : OpenClaim := { program := "ytieieokkaomkaaa", sum := "60134e639e3e89e41d969baf103c9a5cde0ca433247defb734005f415a79a505", func := "loop.example/floorrooms/laws.FnExactNearOut", spec := "fnExactNearOut", unfollowed := true, recurses := true, plainKeys := false, apart := false }
def FnExactNearOutSaid : Prop := fnExactNearOutRow.holds Try.pinned (OpenSpec.ofChange fnExactNearOutSpec)

/-- ITS FALSE NEIGHBOUR: 'it returns false'. Refute it at one input. -/
def fnExactNearOutWrong : ChangeSpec := { name := "fnExactNearOut", fn := fun _ => fun
  | [d1, d2] => { results := [.lit (.bool false)], args := [d1, d2] }
  | _ => none }
def FnExactNearOutWrongFalsely : Prop := fnExactNearOutRow.holds Try.pinned (OpenSpec.ofChange fnExactNearOutWrong)

/- THE SECOND FORM. 'bulk': how many values and letters a reading holds, each counted each time it is reached (what is shared counts as often as it is met; a slice's spare places count too). A statement '..UptoSaid' is the law's where the arguments, and the package variables that the reading takes, are together of bulk at most 1048576: NARROWER than '..Said'. Prove '..Said' where nothing that the law and all that it calls make is longer than what came in: it says more and counts as full. Else prove '..UptoSaid'. A law counts once. -/
mutual
def uptoBulk {H : Type} : DataW H → Nat
  | .lit (.string bytes) => bytes.length + 1
  | .lit _ => 1
  | .nil => 1
  | .ptr d => uptoBulk d + 1
  | .slice elems spare => uptoBulkAll elems + uptoBulkAll spare + 1
  | .agg parts => uptoBulkAll parts + 1
  | .iface _ d => uptoBulk d + 1
  | .map entries => uptoBulkEntries entries + 1
  | .held _ => 1
def uptoBulkAll {H : Type} : List (DataW H) → Nat
  | [] => 0
  | d :: r => uptoBulk d + uptoBulkAll r
def uptoBulkEntries {H : Type} : List (Lit × DataW H) → Nat
  | [] => 0
  | x :: r => uptoBulkEntry x + uptoBulkEntries r
def uptoBulkEntry {H : Type} : Lit × DataW H → Nat
  | (.string bytes, d) => bytes.length + uptoBulk d + 1
  | (_, d) => uptoBulk d + 1
 end
def uptoSmall : (H : Type) → List (DataW H) → Bool := fun _ ds => decide (uptoBulkAll ds ≤ 1048576)
def OpenSpec.upto (s : _root_.Go.ChangeSpec) : _root_.Go.OpenSpec := { _root_.Go.OpenSpec.ofChange s with cond := some uptoSmall }

/-- 'laws.FnExactWallCross', WHERE WHAT IT READS IS OF BULK AT MOST 1048576: true; the input reads as it did. -/
def fnExactWallCrossUptoRow : OpenClaim := { program := "ytieieokkaomkaaa", sum := "60134e639e3e89e41d969baf103c9a5cde0ca433247defb734005f415a79a505", func := "loop.example/floorrooms/laws.FnExactWallCross", spec := "fnExactWallCross", unfollowed := true, recurses := true, plainKeys := false, apart := false, narrowed := true }
def FnExactWallCrossUptoSaid : Prop := fnExactWallCrossUptoRow.holds Try.pinned (OpenSpec.upto fnExactWallCrossSpec)

/-- 'laws.FnExactWallPlain', WHERE WHAT IT READS IS OF BULK AT MOST 1048576: true; the input reads as it did. -/
def fnExactWallPlainUptoRow : OpenClaim := { program := "ytieieokkaomkaaa", sum := "60134e639e3e89e41d969baf103c9a5cde0ca433247defb734005f415a79a505", func := "loop.example/floorrooms/laws.FnExactWallPlain", spec := "fnExactWallPlain", unfollowed := true, recurses := true, plainKeys := false, apart := false, narrowed := true }
def FnExactWallPlainUptoSaid : Prop := fnExactWallPlainUptoRow.holds Try.pinned (OpenSpec.upto fnExactWallPlainSpec)

/-- 'laws.FnExactWallTees', WHERE WHAT IT READS IS OF BULK AT MOST 1048576: true; the input reads as it did. -/
def fnExactWallTeesUptoRow : OpenClaim := { program := "ytieieokkaomkaaa", sum := "60134e639e3e89e41d969baf103c9a5cde0ca433247defb734005f415a79a505", func := "loop.example/floorrooms/laws.FnExactWallTees", spec := "fnExactWallTees", unfollowed := true, recurses := true, plainKeys := false, apart := false, narrowed := true }
def FnExactWallTeesUptoSaid : Prop := fnExactWallTeesUptoRow.holds Try.pinned (OpenSpec.upto fnExactWallTeesSpec)

/-- 'laws.FnExactWallEnds', WHERE WHAT IT READS IS OF BULK AT MOST 1048576: true; the input reads as it did. -/
def fnExactWallEndsUptoRow : OpenClaim := { program := "ytieieokkaomkaaa", sum := "60134e639e3e89e41d969baf103c9a5cde0ca433247defb734005f415a79a505", func := "loop.example/floorrooms/laws.FnExactWallEnds", spec := "fnExactWallEnds", unfollowed := true, recurses := true, plainKeys := false, apart := false, narrowed := true }
def FnExactWallEndsUptoSaid : Prop := fnExactWallEndsUptoRow.holds Try.pinned (OpenSpec.upto fnExactWallEndsSpec)

/-- 'laws.FnExactNearOut', WHERE WHAT IT READS IS OF BULK AT MOST 1048576: true; the input reads as it did. -/
def fnExactNearOutUptoRow : OpenClaim := { program := "ytieieokkaomkaaa", sum := "60134e639e3e89e41d969baf103c9a5cde0ca433247defb734005f415a79a505", func := "loop.example/floorrooms/laws.FnExactNearOut", spec := "fnExactNearOut", unfollowed := true, recurses := true, plainKeys := false, apart := false, narrowed := true }
def FnExactNearOutUptoSaid : Prop := fnExactNearOutUptoRow.holds Try.pinned (OpenSpec.upto fnExactNearOutSpec)

end Rows
end Go.Proofs.Ytieieokkaomkaaa
