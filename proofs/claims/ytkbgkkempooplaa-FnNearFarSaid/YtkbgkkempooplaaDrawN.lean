
/-
  Draws of a plan and rooms for the laws of neighbours. (Walks.)
-/
import Derived.Test.YtkbgkkempooplaaDraw
namespace Go.Proofs.Ytkbgkkempooplaa
open Go.RowKit

/-- a drawn list and two numbers, handed back -/
def DrawnNN (e : Ending) (w' : World) : Prop := ∃ ro rc l, ∃ (a b : Int), Smp l ∧ e = .returned (.tuple #[.slice ro l.length rc, .int .i64 a, .int .i64 b]) ∧ CellsAt w' ro (l.map Value.string)

set_option maxRecDepth 100000 in
set_option maxHeartbeats 2000000 in
theorem l91Two_any (ao : Option Addr) (cap : Nat) (c : List UInt8) (w : World) (hcap : c.length ≤ cap) (hl : c.length ≤ 1048576) (hc : CellsAt w ao (c.map byteV)) :
    Calls Try.prog 25 #[.slice ao c.length cap] w fun e w' => DrawnNN e w' ∧ Below w.heap.size w w' := by
  go_enter Try.func25, Try.ntmps25
  go_wp2_with (first
    | (go_at_call 41; refine (l6Open_any _ _ _ _ hcap hl hc).mono ?_; rintro e w1 ⟨rfl, hr1, hb1⟩)
    | (go_at_call 42; refine (l91Some_any 0 w.heap.size 5 5 _ (by omega) (by omega) (by omega) hr1).mono ?_; rintro e w2 ⟨ro, rc, l, hsm, rfl, hla, hr2, hg2⟩; have HS := Lib.hid hsm; have HL2 := Lib.hid hla; have HR2 := Lib.hid hr2; have HB2 := Lib.hid (below_reader hb1 hb1.size hg2); clear hsm hla hr2 hg2 hb1 hr1)
    | (go_at_call 35; refine (l1Rooms_any _ _ _ _ HS.out.small.1 HS.out.small.2 HL2.out.1).mono ?_; rintro e w3 ⟨rfl, rfl⟩))
  refine (pick_any 60 w.heap.size _ _ (by omega) HR2.out).mono ?_
  rintro e w4 ⟨v4, rfl, -, hr4, hg4⟩
  have HL4 := Lib.hid (HL2.out.grown hg4)
  have HB4 := Lib.hid (below_reader HB2.out HB2.out.size hg4)
  have HR4 := Lib.hid hr4
  clear hg4 hr4
  go_wp2_with fail
  refine (l1Rooms_any _ _ _ _ HS.out.small.1 HS.out.small.2 HL4.out.1).mono ?_
  rintro e w3 ⟨rfl, rfl⟩
  go_wp2_with fail
  refine (pick_any 61 w.heap.size 24 _ (by omega) HR4.out).mono ?_
  rintro e w5 ⟨v5, rfl, -, hr5, hg5⟩
  have HL5 := Lib.hid (HL4.out.grown hg5)
  have HB5 := Lib.hid (below_reader HB4.out HB4.out.size hg5)
  clear hg5
  go_wp2_with fail
  refine (pick_any 62 w.heap.size _ _ (by omega) hr5).mono ?_
  rintro e w6 ⟨v6, rfl, -, hr6, hg6⟩
  have HL6 := Lib.hid (HL5.out.grown hg6)
  have HB6 := Lib.hid (below_reader HB5.out HB5.out.size hg6)
  clear hg6 hr5
  go_wp2_with fail
  refine (pick_any 63 w.heap.size 24 _ (by omega) hr6).mono ?_
  rintro e w7 ⟨v7, rfl, -, hr7, hg7⟩
  have HL7 := Lib.hid (HL6.out.grown hg7)
  have HB7 := Lib.hid (below_reader HB6.out HB6.out.size hg7)
  clear hg7 hr6 hr7
  go_wp2
  refine bodyPost_ret (by simp [results, Try.results25, go_sem]; exact ⟨rfl, rfl⟩) rfl ⟨⟨ro, rc, l, _, _, HS.out, rfl, HL7.out.1⟩, HB7.out⟩

set_option maxRecDepth 100000 in
theorem drawNearIs_any (ao : Option Addr) (cap : Nat) (c : List UInt8) (w : World) (hcap : c.length ≤ cap) (hl : c.length ≤ 1048576) (hc : CellsAt w ao (c.map byteV)) :
    Calls Try.prog 7 #[.slice ao c.length cap] w fun e w' => DrawnNN e w' ∧ Below w.heap.size w w' := by
  go_enter Try.func7, Try.ntmps7
  go_wp2_with (go_at_call 25; refine (l91Two_any _ _ _ _ hcap hl hc).mono ?_; rintro e w1 ⟨⟨ro, rc, l, a, b, hsm, rfl, hla⟩, hb1⟩)
  refine bodyPost_ret (by simp [results, Try.results7, go_sem]) rfl ⟨⟨ro, rc, l, a, b, hsm, rfl, hla⟩, hb1⟩

set_option maxRecDepth 100000 in
theorem drawNearWay_any (ao : Option Addr) (cap : Nat) (c : List UInt8) (w : World) (hcap : c.length ≤ cap) (hl : c.length ≤ 1048576) (hc : CellsAt w ao (c.map byteV)) :
    Calls Try.prog 12 #[.slice ao c.length cap] w fun e w' => DrawnNN e w' ∧ Below w.heap.size w w' := by
  go_enter Try.func12, Try.ntmps12
  go_wp2_with (go_at_call 25; refine (l91Two_any _ _ _ _ hcap hl hc).mono ?_; rintro e w1 ⟨⟨ro, rc, l, a, b, hsm, rfl, hla⟩, hb1⟩)
  refine bodyPost_ret (by simp [results, Try.results12, go_sem]) rfl ⟨⟨ro, rc, l, a, b, hsm, rfl, hla⟩, hb1⟩

set_option maxRecDepth 100000 in
theorem drawNearFar_any (ao : Option Addr) (cap : Nat) (c : List UInt8) (w : World) (hcap : c.length ≤ cap) (hl : c.length ≤ 1048576) (hc : CellsAt w ao (c.map byteV)) :
    Calls Try.prog 15 #[.slice ao c.length cap] w fun e w' => Drawn w.heap.size e w' ∧ Below w.heap.size w w' := by
  go_enter Try.func15, Try.ntmps15
  go_wp2_with (go_at_call 32; refine (l91One_any _ _ _ _ hcap hl hc).mono ?_; rintro e w1 ⟨⟨ro, rc, l, hsm, rfl, hla⟩, hb1⟩)
  go_ret
  exact ⟨⟨ro, rc, l, hsm, rfl, hla⟩, hb1⟩

set_option maxRecDepth 100000 in
theorem drawNearFirst_any (ao : Option Addr) (cap : Nat) (c : List UInt8) (w : World) (hcap : c.length ≤ cap) (hl : c.length ≤ 1048576) (hc : CellsAt w ao (c.map byteV)) :
    Calls Try.prog 20 #[.slice ao c.length cap] w fun e w' => Drawn w.heap.size e w' ∧ Below w.heap.size w w' := by
  go_enter Try.func20, Try.ntmps20
  go_wp2_with (go_at_call 32; refine (l91One_any _ _ _ _ hcap hl hc).mono ?_; rintro e w1 ⟨⟨ro, rc, l, hsm, rfl, hla⟩, hb1⟩)
  go_ret
  exact ⟨⟨ro, rc, l, hsm, rfl, hla⟩, hb1⟩

end Go.Proofs.Ytkbgkkempooplaa
