
/-
  The draw of plans that often have a part without a cut. (Walks.)
-/
import Derived.Test.YtamfnahbhhmiiaaDraw
namespace Go.Proofs.Ytamfnahbhhmiiaa
open Go.RowKit

set_option maxRecDepth 100000 in
set_option maxHeartbeats 2000000 in
theorem drawCutStuck_any (ao : Option Addr) (cap : Nat) (c : List UInt8) (w : World) (hcap : c.length ≤ cap) (hl : c.length ≤ 1048576) (hc : CellsAt w ao (c.map byteV)) :
    Calls Try.prog 6 #[.slice ao c.length cap] w fun e w' => Drawn w.heap.size e w' ∧ Below w.heap.size w w' := by
  have HO := Lib.hid (l6Open_any ao cap c w hcap hl hc)
  clear hc
  go_enter Try.func6, Try.ntmps6
  go_wp2_with fail
  refine HO.out.mono ?_
  rintro e w1 ⟨rfl, hr1, hb1⟩
  go_wp2_with fail
  refine (pick_any 0 w.heap.size 2 _ (by omega) hr1).mono ?_
  rintro e w2 ⟨v1, rfl, hv1, hr2, hg2⟩
  have hb2 := below_reader hb1 hb1.size hg2
  have hl1 : v1 < 2 := by omega
  clear hv1 hb1 hg2 hr1
  go_wp2_with fail
  refine (pick_any 1 w.heap.size 12 _ (by omega) hr2).mono ?_
  rintro e w3 ⟨v2, rfl, hv2, hr3, hg3⟩
  have hb3 := below_reader hb2 hb2.size hg3
  have hl2 : v2 < 12 := by omega
  clear hv2 hb2 hg3 hr2
  obtain ⟨n, hn⟩ : ∃ n : Nat, n = 3 + v1 := ⟨_, rfl⟩
  obtain ⟨m, hm⟩ : ∃ m : Nat, m = 3 + v1 - v2 / 11 := ⟨_, rfl⟩
  have hn2 : 3 + (v1 : Int) = (n : Int) := by omega
  have hm2 : (n : Int) - (v2 : Int) / 11 = (m : Int) := by omega
  have hn9 : n ≤ 4 := by omega
  have hm9 : m ≤ 4 := by omega
  have hn1 : 1 ≤ n := by omega
  have HP := Lib.hid (l91Plan_any 2 w.heap.size n m w3 (by omega) (by omega) (by omega) hr3)
  have HN := Lib.hid hn2; have HM := Lib.hid hm2
  clear hn hm hn2 hm2 hr3
  go_wp2_with (rw [HN.out, HM.out]; fail)
  all_goals (try rw [HN.out])
  all_goals (try rw [HM.out])
  refine HP.out.mono ?_
  rintro e w4 ⟨ro, rc, l, hsh, rfl, hla, hr4, hg4⟩
  have hb4 := below_reader hb3 hb3.size hg4
  go_wp2
  go_ret
  exact ⟨⟨ro, rc, l, shp_smp hsh hn1 (by omega) (by omega), rfl, hla.1⟩, hb4⟩
end Go.Proofs.Ytamfnahbhhmiiaa
