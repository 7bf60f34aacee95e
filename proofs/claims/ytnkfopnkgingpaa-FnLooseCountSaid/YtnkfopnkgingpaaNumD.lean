
/-
  The numbers that are drawn. (Walks.)
-/
import Derived.Test.YtnkfopnkgingpaaPick
namespace Go.Proofs.Ytnkfopnkgingpaa
open Go.RowKit

theorem below_picks {w w1 w2 : World} {B : Nat} (h : Below w.heap.size w w1) (hB : w.heap.size ≤ B) (hg : w1.grownBy w2 (some B)) : Below w.heap.size w w2 :=
  h.trans (below_of_grownBy hg h.size (fun k hk => by cases hk; exact hB))
theorem div_pick {v : Nat} (h : (v : Int) < 12) : (v : Int).tdiv 11 = ((v / 11 : Nat) : Int) ∧ v / 11 ≤ 1 := by
  refine ⟨by rw [Int.tdiv_eq_ediv_of_nonneg (by omega)]; rfl, by omega⟩
set_option maxRecDepth 100000 in
set_option maxHeartbeats 2000000 in
theorem l92Number_any (aC : Option Addr) (kC : Nat) (c : List UInt8) (w : World) (zC : c.length ≤ kC) (dC : c.length ≤ 1048576) (cC : CellsAt w aC (c.map byteV)) :
    Calls Try.prog 67 #[.slice aC c.length kC] w fun e w' => ∃ n : Int, e = .returned (.int .i64 n) ∧ -10 ≤ n ∧ n ≤ 20 ∧ Below w.heap.size w w' := by
  have HO := Lib.hid (l6Open_any aC kC c w zC dC cC)
  clear cC
  go_enter Try.func67, Try.ntmps67
  go_wp2_with fail
  refine HO.out.mono ?_
  rintro e w1 ⟨rfl, hr1, hb1⟩
  go_wp2_with fail
  refine (pick_any 0 w.heap.size 6 _ (by omega) hr1).mono ?_
  rintro e w2 ⟨v1, rfl, hv1, hr2, hg2⟩
  have hb2 := below_picks hb1 (Nat.le_refl _) hg2
  clear hb1 hg2 hr1
  have hl1 : v1 < 6 := by omega
  clear hv1
  go_wp2_with fail
  refine (pick_any 1 w.heap.size 12 _ (by omega) hr2).mono ?_
  rintro e w3 ⟨v2, rfl, hv2, hr3, hg3⟩
  have hb3 := below_picks hb2 (Nat.le_refl _) hg3
  clear hb2 hg3 hr2
  have hl2 : v2 < 12 := by omega
  clear hv2
  go_wp2_with fail
  refine (pick_any 2 w.heap.size 12 _ (by omega) hr3).mono ?_
  rintro e w4 ⟨v3, rfl, hv3, hr4, hg4⟩
  have hb4 := below_picks hb3 (Nat.le_refl _) hg4
  clear hb3 hg4 hr3 hr4
  have hl3 : v3 < 12 := by omega
  clear hv3
  go_wp2
  go_ret
  exact ⟨_, rfl, by omega, by omega, hb4⟩
theorem drawPermFairSum_any (aC : Option Addr) (kC : Nat) (c : List UInt8) (w : World) (zC : c.length ≤ kC) (dC : c.length ≤ 1048576) (cC : CellsAt w aC (c.map byteV)) :
    Calls Try.prog 42 #[.slice aC c.length kC] w fun e w' => ∃ n : Int, e = .returned (.int .i64 n) ∧ -10 ≤ n ∧ n ≤ 20 ∧ Below w.heap.size w w' := by
  have HN := Lib.hid (l92Number_any aC kC c w zC dC cC)
  clear cC
  go_enter Try.func42, Try.ntmps42
  go_wp2_with fail
  refine HN.out.mono ?_
  rintro e w1 ⟨n, rfl, h1, h2, hb⟩
  go_wp2
  go_ret
  exact ⟨n, rfl, h1, h2, hb⟩
theorem drawPermLooseSum_any (aC : Option Addr) (kC : Nat) (c : List UInt8) (w : World) (zC : c.length ≤ kC) (dC : c.length ≤ 1048576) (cC : CellsAt w aC (c.map byteV)) :
    Calls Try.prog 47 #[.slice aC c.length kC] w fun e w' => ∃ n : Int, e = .returned (.int .i64 n) ∧ -10 ≤ n ∧ n ≤ 20 ∧ Below w.heap.size w w' := by
  have HN := Lib.hid (l92Number_any aC kC c w zC dC cC)
  clear cC
  go_enter Try.func47, Try.ntmps47
  go_wp2_with fail
  refine HN.out.mono ?_
  rintro e w1 ⟨n, rfl, h1, h2, hb⟩
  go_wp2
  go_ret
  exact ⟨n, rfl, h1, h2, hb⟩
theorem drawPermFairCount_any (aC : Option Addr) (kC : Nat) (c : List UInt8) (w : World) (zC : c.length ≤ kC) (dC : c.length ≤ 1048576) (cC : CellsAt w aC (c.map byteV)) :
    Calls Try.prog 37 #[.slice aC c.length kC] w fun e w' => ∃ n : Int, e = .returned (.int .i64 n) ∧ -10 ≤ n ∧ n ≤ 20 ∧ Below w.heap.size w w' := by
  have HN := Lib.hid (l92Number_any aC kC c w zC dC cC)
  clear cC
  go_enter Try.func37, Try.ntmps37
  go_wp2_with fail
  refine HN.out.mono ?_
  rintro e w1 ⟨n, rfl, h1, h2, hb⟩
  go_wp2
  go_ret
  exact ⟨n, rfl, h1, h2, hb⟩
theorem drawPermLooseCount_any (aC : Option Addr) (kC : Nat) (c : List UInt8) (w : World) (zC : c.length ≤ kC) (dC : c.length ≤ 1048576) (cC : CellsAt w aC (c.map byteV)) :
    Calls Try.prog 44 #[.slice aC c.length kC] w fun e w' => ∃ n : Int, e = .returned (.int .i64 n) ∧ -10 ≤ n ∧ n ≤ 20 ∧ Below w.heap.size w w' := by
  have HN := Lib.hid (l92Number_any aC kC c w zC dC cC)
  clear cC
  go_enter Try.func44, Try.ntmps44
  go_wp2_with fail
  refine HN.out.mono ?_
  rintro e w1 ⟨n, rfl, h1, h2, hb⟩
  go_wp2
  go_ret
  exact ⟨n, rfl, h1, h2, hb⟩

end Go.Proofs.Ytnkfopnkgingpaa
