
/-
  The draw of a plan and a wall. (Walk.)
-/
import Derived.Test.YtjcbfijliacicaaDraw
import Derived.Test.YtjcbfijliacicaaSpecWX
namespace Go.Proofs.Ytjcbfijliacicaa
open Go.RowKit

set_option maxRecDepth 100000 in
set_option maxHeartbeats 2000000 in
theorem drawWallSides_any (ao : Option Addr) (cap : Nat) (c : List UInt8) (w : World) (hcap : c.length ≤ cap) (hl : c.length ≤ 1048576) (hc : CellsAt w ao (c.map byteV)) :
    Calls Try.prog 14 #[.slice ao c.length cap] w fun e w' => DrawnN e w' ∧ Below w.heap.size w w' := by
  go_enter Try.func14, Try.ntmps14
  go_wp2_with (first
    | (go_at_call 31; refine (l6Open_any _ _ _ _ hcap hl hc).mono ?_; rintro e w1 ⟨rfl, hr1, hb1⟩)
    | (go_at_call 32; refine (l91Some_any 0 w.heap.size 5 5 _ (by omega) (by omega) (by omega) hr1).mono ?_; rintro e w2 ⟨ro, rc, l, hsm, rfl, hla, hr2, hg2⟩; have HS := Lib.hid hsm; have HL2 := Lib.hid hla; have HR2 := Lib.hid hr2; have HB2 := Lib.hid (below_reader hb1 hb1.size hg2); clear hsm hla hr2 hg2 hb1 hr1))
  refine (specPlanIn_any _ _ _ _ HS.out.small.1 HS.out.small.2 HL2.out.1).mono ?_
  cases hp : planB l
  · rintro e w3 ⟨rfl, hb3⟩
    have HL3 := Lib.hid (HL2.out.below hb3)
    have HR3 := Lib.hid (HR2.out.below hb3)
    have HB3 := Lib.hid (below_step HB2.out HB2.out.size hb3)
    clear hb3
    go_wp2_with fail
    refine (pick_any 60 w.heap.size 24 _ (by omega) HR3.out).mono ?_
    rintro e w5 ⟨v5, rfl, -, hr5, hg5⟩
    have HL5 := Lib.hid (HL3.out.grown hg5)
    have HB5 := Lib.hid (below_reader HB3.out HB3.out.size hg5)
    clear hg5
    go_wp2_with fail
    refine (pick_any 61 w.heap.size _ _ (by omega) hr5).mono ?_
    rintro e w6 ⟨v6, rfl, -, hr6, hg6⟩
    have HL6 := Lib.hid (HL5.out.grown hg6)
    have HB6 := Lib.hid (below_reader HB5.out HB5.out.size hg6)
    clear hg6 hr5
    go_wp2_with fail
    refine (pick_any 62 w.heap.size 24 _ (by omega) hr6).mono ?_
    rintro e w7 ⟨v7, rfl, -, hr7, hg7⟩
    have HL7 := Lib.hid (HL6.out.grown hg7)
    have HB7 := Lib.hid (below_reader HB6.out HB6.out.size hg7)
    clear hg7 hr6 hr7
    go_wp2
    refine bodyPost_ret (by simp [results, Try.results14, go_sem]; rfl) rfl ⟨⟨ro, rc, l, _, HS.out, rfl, HL7.out.1⟩, HB7.out⟩
  · rintro e w3 ⟨rfl, hb3⟩
    have HL3 := Lib.hid (HL2.out.below hb3)
    have HR3 := Lib.hid (HR2.out.below hb3)
    have HB3 := Lib.hid (below_step HB2.out HB2.out.size hb3)
    have hwl : (wallsL l).length ≤ 72 := by rw [wallsL_walls hp, List.length_map]; exact wallsP_len l
    clear hb3
    go_wp2_with fail
    refine (l2Walls_any _ _ _ _ hp HL3.out.1).mono ?_
    rintro e w4 ⟨ro4, rc4, rfl, _, hb4⟩
    have HL4 := Lib.hid (HL3.out.below hb4)
    have HR4 := Lib.hid (HR3.out.below hb4)
    have HB4 := Lib.hid (below_step HB3.out HB3.out.size hb4)
    clear hb4
    generalize (wallsL l).length = nw at *
    by_cases hn1 : 1 < nw
    · have hn2 : ¬ ((nw : Int) ≤ 1) := by omega
      go_wp2_with fail
      refine (pick_any 60 w.heap.size 24 _ (by omega) HR4.out).mono ?_
      rintro e w5 ⟨v5, rfl, -, hr5, hg5⟩
      have HL5 := Lib.hid (HL4.out.grown hg5)
      have HB5 := Lib.hid (below_reader HB4.out HB4.out.size hg5)
      clear hg5
      go_wp2_with fail
      refine (pick_any 61 w.heap.size _ _ (by omega) hr5).mono ?_
      rintro e w6 ⟨v6, rfl, -, hr6, hg6⟩
      have HL6 := Lib.hid (HL5.out.grown hg6)
      have HB6 := Lib.hid (below_reader HB5.out HB5.out.size hg6)
      clear hg6 hr5
      go_wp2_with fail
      refine (pick_any 62 w.heap.size 24 _ (by omega) hr6).mono ?_
      rintro e w7 ⟨v7, rfl, -, hr7, hg7⟩
      have HL7 := Lib.hid (HL6.out.grown hg7)
      have HB7 := Lib.hid (below_reader HB6.out HB6.out.size hg7)
      clear hg7 hr6 hr7
      go_wp2
      refine bodyPost_ret (by simp [results, Try.results14, go_sem]; rfl) rfl ⟨⟨ro, rc, l, _, HS.out, rfl, HL7.out.1⟩, HB7.out⟩
    · have hn2 : (nw : Int) ≤ 1 := by omega
      go_wp2_with fail
      refine (pick_any 60 w.heap.size 24 _ (by omega) HR4.out).mono ?_
      rintro e w5 ⟨v5, rfl, -, hr5, hg5⟩
      have HL5 := Lib.hid (HL4.out.grown hg5)
      have HB5 := Lib.hid (below_reader HB4.out HB4.out.size hg5)
      clear hg5
      go_wp2_with fail
      refine (pick_any 61 w.heap.size _ _ (by omega) hr5).mono ?_
      rintro e w6 ⟨v6, rfl, -, hr6, hg6⟩
      have HL6 := Lib.hid (HL5.out.grown hg6)
      have HB6 := Lib.hid (below_reader HB5.out HB5.out.size hg6)
      clear hg6 hr5
      go_wp2_with fail
      refine (pick_any 62 w.heap.size 24 _ (by omega) hr6).mono ?_
      rintro e w7 ⟨v7, rfl, -, hr7, hg7⟩
      have HL7 := Lib.hid (HL6.out.grown hg7)
      have HB7 := Lib.hid (below_reader HB6.out HB6.out.size hg7)
      clear hg7 hr6 hr7
      go_wp2
      refine bodyPost_ret (by simp [results, Try.results14, go_sem]; rfl) rfl ⟨⟨ro, rc, l, _, HS.out, rfl, HL7.out.1⟩, HB7.out⟩

end Go.Proofs.Ytjcbfijliacicaa
