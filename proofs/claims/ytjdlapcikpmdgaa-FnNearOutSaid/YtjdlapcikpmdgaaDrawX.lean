
/-
  The draw of a plan and a side. (Walks.)
-/
import Derived.Test.YtjdlapcikpmdgaaDraw
namespace Go.Proofs.Ytjdlapcikpmdgaa
open Go.RowKit

set_option maxRecDepth 100000 in
set_option maxHeartbeats 2000000 in
theorem drawNearOut_any (ao : Option Addr) (cap : Nat) (c : List UInt8) (w : World) (hcap : c.length ≤ cap) (hl : c.length ≤ 1048576) (hc : CellsAt w ao (c.map byteV)) :
    Calls Try.prog 11 #[.slice ao c.length cap] w fun e w' => DrawnN e w' ∧ Below w.heap.size w w' := by
  have HO := Lib.hid (l6Open_any ao cap c w hcap hl hc)
  clear hc
  go_enter Try.func11, Try.ntmps11
  go_wp2_with fail
  refine HO.out.mono ?_
  rintro e w1 ⟨rfl, hr1, hb1⟩
  go_wp2_with fail
  refine (l91Some_any 0 w.heap.size 5 5 _ (by omega) (by omega) (by omega) hr1).mono ?_
  rintro e w2 ⟨ro, rc, l, hsm, rfl, hla, hr2, hg2⟩
  have HL2 := Lib.hid hla
  have HB2 := Lib.hid (below_reader hb1 hb1.size hg2)
  have HS := Lib.hid hsm
  clear hb1 hg2 hr1 hla hsm
  go_wp2_with fail
  refine (pick_any _ w.heap.size 24 _ (by omega) hr2).mono ?_
  rintro e w5 ⟨v5, rfl, -, hr5, hg5⟩
  have HL5 := Lib.hid (HL2.out.grown hg5)
  have HB5 := Lib.hid (below_reader HB2.out HB2.out.size hg5)
  clear hg5 hr2
  go_wp2_with fail
  refine (pick_any _ w.heap.size _ _ (by omega) hr5).mono ?_
  rintro e w6 ⟨v6, rfl, -, hr6, hg6⟩
  have HL6 := Lib.hid (HL5.out.grown hg6)
  have HB6 := Lib.hid (below_reader HB5.out HB5.out.size hg6)
  clear hg6 hr5
  go_wp2_with fail
  refine (pick_any _ w.heap.size 24 _ (by omega) hr6).mono ?_
  rintro e w7 ⟨v7, rfl, -, hr7, hg7⟩
  have HL7 := Lib.hid (HL6.out.grown hg7)
  have HB7 := Lib.hid (below_reader HB6.out HB6.out.size hg7)
  clear hg7 hr6 hr7
  go_wp2
  exact bodyPost_ret (v := .tuple #[.slice ro l.length rc, .int .i64 (wrap64 ((v6 : Int) - wrap64 ((v7 : Int) / 23)))]) (by simp [results, Try.f11, go_sem]) rfl ⟨⟨ro, rc, l, _, HS.out, rfl, HL7.out.1⟩, HB7.out⟩
end Go.Proofs.Ytjdlapcikpmdgaa
