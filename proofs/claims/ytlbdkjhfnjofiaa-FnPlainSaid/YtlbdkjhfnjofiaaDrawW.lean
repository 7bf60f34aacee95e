
/-
  Draws of plans for the laws of walls and cuts. (Walks.)
-/
import Derived.Test.YtlbdkjhfnjofiaaDraw
namespace Go.Proofs.Ytlbdkjhfnjofiaa
open Go.RowKit

set_option maxRecDepth 100000 in
theorem drawWallMany_any (ao : Option Addr) (cap : Nat) (c : List UInt8) (w : World) (hcap : c.length ≤ cap) (hl : c.length ≤ 1048576) (hc : CellsAt w ao (c.map byteV)) :
    Calls Try.prog 22 #[.slice ao c.length cap] w fun e w' => Drawn w.heap.size e w' ∧ Below w.heap.size w w' := by
  go_enter Try.func22, Try.ntmps22
  go_wp2_with (go_at_call 49; refine (l91One_any _ _ _ _ hcap hl hc).mono ?_; rintro e w1 ⟨⟨ro, rc, l, hsm, rfl, hla⟩, hb1⟩)
  go_ret
  exact ⟨⟨ro, rc, l, hsm, rfl, hla⟩, hb1⟩

set_option maxRecDepth 100000 in
theorem drawWallCross_any (ao : Option Addr) (cap : Nat) (c : List UInt8) (w : World) (hcap : c.length ≤ cap) (hl : c.length ≤ 1048576) (hc : CellsAt w ao (c.map byteV)) :
    Calls Try.prog 31 #[.slice ao c.length cap] w fun e w' => Drawn w.heap.size e w' ∧ Below w.heap.size w w' := by
  go_enter Try.func31, Try.ntmps31
  go_wp2_with (go_at_call 49; refine (l91One_any _ _ _ _ hcap hl hc).mono ?_; rintro e w1 ⟨⟨ro, rc, l, hsm, rfl, hla⟩, hb1⟩)
  go_ret
  exact ⟨⟨ro, rc, l, hsm, rfl, hla⟩, hb1⟩

set_option maxRecDepth 100000 in
theorem drawWallPlain_any (ao : Option Addr) (cap : Nat) (c : List UInt8) (w : World) (hcap : c.length ≤ cap) (hl : c.length ≤ 1048576) (hc : CellsAt w ao (c.map byteV)) :
    Calls Try.prog 36 #[.slice ao c.length cap] w fun e w' => Drawn w.heap.size e w' ∧ Below w.heap.size w w' := by
  go_enter Try.func36, Try.ntmps36
  go_wp2_with (go_at_call 49; refine (l91One_any _ _ _ _ hcap hl hc).mono ?_; rintro e w1 ⟨⟨ro, rc, l, hsm, rfl, hla⟩, hb1⟩)
  go_ret
  exact ⟨⟨ro, rc, l, hsm, rfl, hla⟩, hb1⟩

set_option maxRecDepth 100000 in
theorem drawWallTees_any (ao : Option Addr) (cap : Nat) (c : List UInt8) (w : World) (hcap : c.length ≤ cap) (hl : c.length ≤ 1048576) (hc : CellsAt w ao (c.map byteV)) :
    Calls Try.prog 38 #[.slice ao c.length cap] w fun e w' => Drawn w.heap.size e w' ∧ Below w.heap.size w w' := by
  go_enter Try.func38, Try.ntmps38
  go_wp2_with (go_at_call 49; refine (l91One_any _ _ _ _ hcap hl hc).mono ?_; rintro e w1 ⟨⟨ro, rc, l, hsm, rfl, hla⟩, hb1⟩)
  go_ret
  exact ⟨⟨ro, rc, l, hsm, rfl, hla⟩, hb1⟩

set_option maxRecDepth 100000 in
theorem drawWallEnds_any (ao : Option Addr) (cap : Nat) (c : List UInt8) (w : World) (hcap : c.length ≤ cap) (hl : c.length ≤ 1048576) (hc : CellsAt w ao (c.map byteV)) :
    Calls Try.prog 46 #[.slice ao c.length cap] w fun e w' => Drawn w.heap.size e w' ∧ Below w.heap.size w w' := by
  go_enter Try.func46, Try.ntmps46
  go_wp2_with (go_at_call 49; refine (l91One_any _ _ _ _ hcap hl hc).mono ?_; rintro e w1 ⟨⟨ro, rc, l, hsm, rfl, hla⟩, hb1⟩)
  go_ret
  exact ⟨⟨ro, rc, l, hsm, rfl, hla⟩, hb1⟩

set_option maxRecDepth 100000 in
theorem drawCutMany_any (ao : Option Addr) (cap : Nat) (c : List UInt8) (w : World) (hcap : c.length ≤ cap) (hl : c.length ≤ 1048576) (hc : CellsAt w ao (c.map byteV)) :
    Calls Try.prog 42 #[.slice ao c.length cap] w fun e w' => Drawn w.heap.size e w' ∧ Below w.heap.size w w' := by
  go_enter Try.func42, Try.ntmps42
  go_wp2_with (go_at_call 49; refine (l91One_any _ _ _ _ hcap hl hc).mono ?_; rintro e w1 ⟨⟨ro, rc, l, hsm, rfl, hla⟩, hb1⟩)
  go_ret
  exact ⟨⟨ro, rc, l, hsm, rfl, hla⟩, hb1⟩

end Go.Proofs.Ytlbdkjhfnjofiaa
