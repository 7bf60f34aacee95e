
/-
  The sheets that are drawn. (Walks.)
-/
import Derived.Test.YtfemfmkgdgcemaaPick
namespace Go.Proofs.Ytfemfmkgdgcemaa
open Go.RowKit

theorem below_shpicks {w w1 w2 : World} {B : Nat} (h : Below w.heap.size w w1) (hB : w.heap.size ≤ B) (hg : w1.grownBy w2 (some B)) : Below w.heap.size w w2 :=
  h.trans (below_of_grownBy hg h.size (fun k hk => by cases hk; exact hB))
set_option maxRecDepth 100000 in
set_option maxHeartbeats 2000000 in
theorem l92Sheet_any (aC : Option Addr) (kC : Nat) (c : List UInt8) (w : World) (zC : c.length ≤ kC) (dC : c.length ≤ 1048576) (cC : CellsAt w aC (c.map byteV)) :
    Calls Try.prog 28 #[.slice aC c.length kC] w fun e w' => ∃ x y a b : Int, e = .returned (.tuple #[.int .i64 x, .int .i64 y, .int .i64 a, .int .i64 b]) ∧ (1 ≤ x ∧ x ≤ 13 ∧ 1 ≤ y ∧ y ≤ 12 ∧ 1 ≤ a ∧ a ≤ 5 ∧ -6 ≤ b ∧ b ≤ 6) ∧ Below w.heap.size w w' := by
  have HO := Lib.hid (l6Open_any aC kC c w zC dC cC)
  clear cC
  go_enter Try.func28, Try.ntmps28
  go_wp2_with fail
  refine HO.out.mono ?_
  rintro e w1 ⟨rfl, hr1, hb1⟩
  go_wp2_with fail
  refine (pick_any 0 w.heap.size 12 _ (by omega) hr1).mono ?_
  rintro e w2 ⟨v1, rfl, hv1, hr2, hg2⟩
  have hb2 := below_shpicks hb1 (Nat.le_refl _) hg2
  clear hb1 hg2 hr1
  have hl1 : v1 < 12 := by omega
  clear hv1
  go_wp2_with fail
  refine (pick_any 1 w.heap.size 40 _ (by omega) hr2).mono ?_
  rintro e w3 ⟨v2, rfl, hv2, hr3, hg3⟩
  have hb3 := below_shpicks hb2 (Nat.le_refl _) hg3
  clear hb2 hg3 hr2
  have hl2 : v2 < 40 := by omega
  clear hv2
  go_wp2_with fail
  refine (pick_any 2 w.heap.size 12 _ (by omega) hr3).mono ?_
  rintro e w4 ⟨v3, rfl, hv3, hr4, hg4⟩
  have hb4 := below_shpicks hb3 (Nat.le_refl _) hg4
  clear hb3 hg4 hr3
  have hl3 : v3 < 12 := by omega
  clear hv3
  go_wp2_with fail
  refine (pick_any 3 w.heap.size 5 _ (by omega) hr4).mono ?_
  rintro e w5 ⟨v4, rfl, hv4, hr5, hg5⟩
  have hb5 := below_shpicks hb4 (Nat.le_refl _) hg5
  clear hb4 hg5 hr4
  have hl4 : v4 < 5 := by omega
  clear hv4
  go_wp2_with fail
  refine (pick_any 4 w.heap.size 6 _ (by omega) hr5).mono ?_
  rintro e w6 ⟨v5, rfl, hv5, hr6, hg6⟩
  have hb6 := below_shpicks hb5 (Nat.le_refl _) hg6
  clear hb5 hg6 hr5
  have hl5 : v5 < 6 := by omega
  clear hv5
  go_wp2_with fail
  refine (pick_any 5 w.heap.size 40 _ (by omega) hr6).mono ?_
  rintro e w7 ⟨v6, rfl, hv6, hr7, hg7⟩
  have hb7 := below_shpicks hb6 (Nat.le_refl _) hg7
  clear hb6 hg7 hr6
  have hl6 : v6 < 40 := by omega
  clear hv6
  clear hr7
  go_wp2
  refine bodyPost_ret (v := .tuple #[.int .i64 (1 + (v1 : Int) + (v2 : Int) / 39), .int .i64 (1 + (v3 : Int)), .int .i64 (1 + (v4 : Int)), .int .i64 (1 + (v5 : Int) - (v6 : Int) / 39 * 7)]) (by simp [results, Try.f28, go_sem]) rfl ⟨_, _, _, _, rfl, ?_, hb7⟩
  omega
set_option maxRecDepth 100000 in
theorem drawSheetMost_any (aC : Option Addr) (kC : Nat) (c : List UInt8) (w : World) (zC : c.length ≤ kC) (dC : c.length ≤ 1048576) (cC : CellsAt w aC (c.map byteV)) :
    Calls Try.prog 10 #[.slice aC c.length kC] w fun e w' => ∃ x y a b : Int, e = .returned (.tuple #[.int .i64 x, .int .i64 y, .int .i64 a, .int .i64 b]) ∧ (1 ≤ x ∧ x ≤ 13 ∧ 1 ≤ y ∧ y ≤ 12 ∧ 1 ≤ a ∧ a ≤ 5 ∧ -6 ≤ b ∧ b ≤ 6) ∧ Below w.heap.size w w' := by
  have HN := Lib.hid (l92Sheet_any aC kC c w zC dC cC)
  clear cC
  go_enter Try.func10, Try.ntmps10
  go_wp2_with fail
  refine HN.out.mono ?_
  rintro e w1 ⟨x, y, a, b, rfl, h, hb⟩
  go_wp2
  exact bodyPost_ret (v := .tuple #[.int .i64 x, .int .i64 y, .int .i64 a, .int .i64 b]) (by simp [results, Try.f10, go_sem]) rfl ⟨x, y, a, b, rfl, h, hb⟩
set_option maxRecDepth 100000 in
theorem drawSheetRows_any (aC : Option Addr) (kC : Nat) (c : List UInt8) (w : World) (zC : c.length ≤ kC) (dC : c.length ≤ 1048576) (cC : CellsAt w aC (c.map byteV)) :
    Calls Try.prog 14 #[.slice aC c.length kC] w fun e w' => ∃ x y a b : Int, e = .returned (.tuple #[.int .i64 x, .int .i64 y, .int .i64 a, .int .i64 b]) ∧ (1 ≤ x ∧ x ≤ 13 ∧ 1 ≤ y ∧ y ≤ 12 ∧ 1 ≤ a ∧ a ≤ 5 ∧ -6 ≤ b ∧ b ≤ 6) ∧ Below w.heap.size w w' := by
  have HN := Lib.hid (l92Sheet_any aC kC c w zC dC cC)
  clear cC
  go_enter Try.func14, Try.ntmps14
  go_wp2_with fail
  refine HN.out.mono ?_
  rintro e w1 ⟨x, y, a, b, rfl, h, hb⟩
  go_wp2
  exact bodyPost_ret (v := .tuple #[.int .i64 x, .int .i64 y, .int .i64 a, .int .i64 b]) (by simp [results, Try.f14, go_sem]) rfl ⟨x, y, a, b, rfl, h, hb⟩
set_option maxRecDepth 100000 in
theorem drawSheetLoss_any (aC : Option Addr) (kC : Nat) (c : List UInt8) (w : World) (zC : c.length ≤ kC) (dC : c.length ≤ 1048576) (cC : CellsAt w aC (c.map byteV)) :
    Calls Try.prog 16 #[.slice aC c.length kC] w fun e w' => ∃ x y a b : Int, e = .returned (.tuple #[.int .i64 x, .int .i64 y, .int .i64 a, .int .i64 b]) ∧ (1 ≤ x ∧ x ≤ 13 ∧ 1 ≤ y ∧ y ≤ 12 ∧ 1 ≤ a ∧ a ≤ 5 ∧ -6 ≤ b ∧ b ≤ 6) ∧ Below w.heap.size w w' := by
  have HN := Lib.hid (l92Sheet_any aC kC c w zC dC cC)
  clear cC
  go_enter Try.func16, Try.ntmps16
  go_wp2_with fail
  refine HN.out.mono ?_
  rintro e w1 ⟨x, y, a, b, rfl, h, hb⟩
  go_wp2
  exact bodyPost_ret (v := .tuple #[.int .i64 x, .int .i64 y, .int .i64 a, .int .i64 b]) (by simp [results, Try.f16, go_sem]) rfl ⟨x, y, a, b, rfl, h, hb⟩
set_option maxRecDepth 100000 in
set_option maxHeartbeats 2000000 in
theorem drawSheetSquares_any (aC : Option Addr) (kC : Nat) (c : List UInt8) (w : World) (zC : c.length ≤ kC) (dC : c.length ≤ 1048576) (cC : CellsAt w aC (c.map byteV)) :
    Calls Try.prog 19 #[.slice aC c.length kC] w fun e w' => ∃ x y : Int, e = .returned (.tuple #[.int .i64 x, .int .i64 y]) ∧ (1 ≤ x ∧ x ≤ 12 ∧ 0 ≤ y ∧ y ≤ 13) ∧ Below w.heap.size w w' := by
  have HO := Lib.hid (l6Open_any aC kC c w zC dC cC)
  clear cC
  go_enter Try.func19, Try.ntmps19
  go_wp2_with fail
  refine HO.out.mono ?_
  rintro e w1 ⟨rfl, hr1, hb1⟩
  go_wp2_with fail
  refine (pick_any 0 w.heap.size 12 _ (by omega) hr1).mono ?_
  rintro e w2 ⟨v1, rfl, hv1, hr2, hg2⟩
  have hb2 := below_shpicks hb1 (Nat.le_refl _) hg2
  clear hb1 hg2 hr1
  have hl1 : v1 < 12 := by omega
  clear hv1
  go_wp2_with fail
  refine (pick_any 1 w.heap.size 12 _ (by omega) hr2).mono ?_
  rintro e w3 ⟨v2, rfl, hv2, hr3, hg3⟩
  have hb3 := below_shpicks hb2 (Nat.le_refl _) hg3
  clear hb2 hg3 hr2
  have hl2 : v2 < 12 := by omega
  clear hv2
  go_wp2_with fail
  refine (pick_any 2 w.heap.size 24 _ (by omega) hr3).mono ?_
  rintro e w4 ⟨v3, rfl, hv3, hr4, hg4⟩
  have hb4 := below_shpicks hb3 (Nat.le_refl _) hg4
  clear hb3 hg4 hr3
  have hl3 : v3 < 24 := by omega
  clear hv3
  go_wp2_with fail
  refine (pick_any 3 w.heap.size 24 _ (by omega) hr4).mono ?_
  rintro e w5 ⟨v4, rfl, hv4, hr5, hg5⟩
  have hb5 := below_shpicks hb4 (Nat.le_refl _) hg5
  clear hb4 hg5 hr4
  have hl4 : v4 < 24 := by omega
  clear hv4
  clear hr5
  go_wp2
  go_ret2
  exact ⟨_, _, rfl, by omega, hb5⟩
set_option maxRecDepth 100000 in
theorem drawSheetGreedy_any (aC : Option Addr) (kC : Nat) (c : List UInt8) (w : World) (zC : c.length ≤ kC) (dC : c.length ≤ 1048576) (cC : CellsAt w aC (c.map byteV)) :
    Calls Try.prog 23 #[.slice aC c.length kC] w fun e w' => ∃ x y : Int, e = .returned (.tuple #[.int .i64 x, .int .i64 y]) ∧ (1 ≤ x ∧ x ≤ 12 ∧ 0 ≤ y ∧ y ≤ 13) ∧ Below w.heap.size w w' := by
  have HN := Lib.hid (drawSheetSquares_any aC kC c w zC dC cC)
  clear cC
  go_enter Try.func23, Try.ntmps23
  go_wp2_with fail
  refine HN.out.mono ?_
  rintro e w1 ⟨x, y, rfl, h, hb⟩
  go_wp2
  go_ret2
  exact ⟨x, y, rfl, h, hb⟩

end Go.Proofs.Ytfemfmkgdgcemaa
