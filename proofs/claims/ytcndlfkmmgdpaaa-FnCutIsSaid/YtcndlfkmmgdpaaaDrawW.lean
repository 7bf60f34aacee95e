
/-
  Draws of plans for the laws of walls and cuts. (Walks.)
-/
import Derived.Test.YtcndlfkmmgdpaaaDraw
namespace Go.Proofs.Ytcndlfkmmgdpaaa
open Go.RowKit

set_option maxRecDepth 100000 in
theorem drawCutIs_any (ao : Option Addr) (cap : Nat) (c : List UInt8) (w : World) (hcap : c.length ≤ cap) (hl : c.length ≤ 1048576) (hc : CellsAt w ao (c.map byteV)) :
    Calls Try.prog 9 #[.slice ao c.length cap] w fun e w' => Drawn w.heap.size e w' ∧ Below w.heap.size w w' := by
  go_enter Try.func9, Try.ntmps9
  go_wp2_with (go_at_call 33; refine (l91One_any _ _ _ _ hcap hl hc).mono ?_; rintro e w1 ⟨⟨ro, rc, l, hsm, rfl, hla⟩, hb1⟩)
  go_ret
  exact ⟨⟨ro, rc, l, hsm, rfl, hla⟩, hb1⟩

set_option maxRecDepth 100000 in
theorem drawCutText_any (ao : Option Addr) (cap : Nat) (c : List UInt8) (w : World) (hcap : c.length ≤ cap) (hl : c.length ≤ 1048576) (hc : CellsAt w ao (c.map byteV)) :
    Calls Try.prog 16 #[.slice ao c.length cap] w fun e w' => Drawn w.heap.size e w' ∧ Below w.heap.size w w' := by
  go_enter Try.func16, Try.ntmps16
  go_wp2_with (go_at_call 33; refine (l91One_any _ _ _ _ hcap hl hc).mono ?_; rintro e w1 ⟨⟨ro, rc, l, hsm, rfl, hla⟩, hb1⟩)
  go_ret
  exact ⟨⟨ro, rc, l, hsm, rfl, hla⟩, hb1⟩

set_option maxRecDepth 100000 in
theorem drawCutDeep_any (ao : Option Addr) (cap : Nat) (c : List UInt8) (w : World) (hcap : c.length ≤ cap) (hl : c.length ≤ 1048576) (hc : CellsAt w ao (c.map byteV)) :
    Calls Try.prog 20 #[.slice ao c.length cap] w fun e w' => Drawn w.heap.size e w' ∧ Below w.heap.size w w' := by
  go_enter Try.func20, Try.ntmps20
  go_wp2_with (go_at_call 33; refine (l91One_any _ _ _ _ hcap hl hc).mono ?_; rintro e w1 ⟨⟨ro, rc, l, hsm, rfl, hla⟩, hb1⟩)
  go_ret
  exact ⟨⟨ro, rc, l, hsm, rfl, hla⟩, hb1⟩

set_option maxRecDepth 100000 in
theorem drawCutWays_any (ao : Option Addr) (cap : Nat) (c : List UInt8) (w : World) (hcap : c.length ≤ cap) (hl : c.length ≤ 1048576) (hc : CellsAt w ao (c.map byteV)) :
    Calls Try.prog 23 #[.slice ao c.length cap] w fun e w' => Drawn w.heap.size e w' ∧ Below w.heap.size w w' := by
  go_enter Try.func23, Try.ntmps23
  go_wp2_with (go_at_call 33; refine (l91One_any _ _ _ _ hcap hl hc).mono ?_; rintro e w1 ⟨⟨ro, rc, l, hsm, rfl, hla⟩, hb1⟩)
  go_ret
  exact ⟨⟨ro, rc, l, hsm, rfl, hla⟩, hb1⟩

end Go.Proofs.Ytcndlfkmmgdpaaa
