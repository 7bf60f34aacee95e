/-
  Merged texts: CtnM DrawZ.
-/
import Derived.Test.YtpgcpmfemcfoaaaCtnQ
import Derived.Test.YtpgcpmfemcfoaaaPickQ

/-
  What the laws of counts ask. (Mathematics.)
-/
namespace Go.Proofs.Ytpgcpmfemcfoaaa
open Go.RowKit

theorem cntL_at {q : List ByteArray → Bool} {a b r : Nat} (hr : r < a * b + 1) : (cntL q a b).getD r 0 = cntQ q a b r := by simp [cntL, hr]
theorem cntQ_le (q : List ByteArray → Bool) (a b r : Nat) : cntQ q a b r ≤ cntQ (fun _ => true) a b r := by
  unfold cntQ
  refine List.countP_mono_left fun y _ h => ?_
  simp only [Bool.and_eq_true, decide_eq_true_eq] at h ⊢
  exact ⟨trivial, h.2⟩
theorem cntQ_eq {q : List ByteArray → Bool} {a b r : Nat} (h : ∀ y ∈ allZ a b, y.1 = r → q (txtZ a b y.2) = true) : cntQ q a b r = cntQ (fun _ => true) a b r := by
  unfold cntQ
  refine List.countP_congr fun y hy => ?_
  simp only [Bool.and_eq_true, decide_eq_true_eq, true_and]
  exact ⟨fun e => e.2, fun e => ⟨h y hy e, e⟩⟩
theorem ints_atC (S : List Nat) {i : Nat} (hi : i < S.length) : (intsL S).getD i 0 = ((S.getD i 0 : Nat) : Int) := by simp [intsL, hi]
theorem ctR_yes {q : List ByteArray → Bool} {a b : Nat} (a1 : 1 ≤ a) (a6 : a ≤ 6) (b1 : 1 ≤ b) (b6 : b ≤ 6) (h9 : a * b ≤ 9) : ctR q (a : Int) (b : Int) = intsL (cntL q a b) ∧ frOk (a : Int) (b : Int) = true := by
  have h := (frOk_of a1 a6 b1 b6 h9).1
  refine ⟨?_, h⟩
  unfold ctR
  rw [if_pos h]; rfl
theorem ctR_no {q : List ByteArray → Bool} {n m : Int} (h : frOk n m = false) : ctR q n m = [] := by unfold ctR; rw [h]; rfl
end Go.Proofs.Ytpgcpmfemcfoaaa

/-
  The sizes that are drawn. (Walks.)
-/
namespace Go.Proofs.Ytpgcpmfemcfoaaa
open Go.RowKit

theorem below_zpicks {w w1 w2 : World} {B B0 : Nat} (h : Below B0 w w1) (hB : B0 ≤ B) (h1 : B0 ≤ w1.heap.size) (hg : w1.grownBy w2 (some B)) : Below B0 w w2 :=
  h.trans (below_of_grownBy hg h1 (fun k hk => by cases hk; exact hB))
/-- a size that is drawn -/
def SizD (x y : Int) : Prop := 1 ≤ x ∧ x ≤ 8 ∧ 1 ≤ y ∧ y ≤ 3
set_option maxRecDepth 100000 in
set_option maxHeartbeats 4000000 in
theorem l92Size_any (B : Nat) (w : World) (hr : RdAt 0 B w) :
    Calls Try.prog 42 #[.pointer (some ⟨B, 0, none⟩)] w fun e w' => ∃ x y : Int, e = .returned (.tuple #[.int .i64 x, .int .i64 y]) ∧ SizD x y ∧ RdAt 4 B w' ∧ w.grownBy w' (some B) := by
  go_enter Try.func42, Try.ntmps42
  go_wp2_with fail
  refine (pick_any 0 B 3 _ (by omega) hr).mono ?_
  rintro e w2 ⟨v1, rfl, hv1, hr2, hg2⟩
  clear hr
  have hl1 : v1 < 3 := by omega
  clear hv1
  go_wp2_with fail
  refine (pick_any 1 B 3 _ (by omega) hr2).mono ?_
  rintro e w3 ⟨v2, rfl, hv2, hr3, hg3⟩
  clear hr2
  have hl2 : v2 < 3 := by omega
  clear hv2
  have hg3' := grownBy_trans hg2 hg3
  clear hg2 hg3
  by_cases h1 : v1 = 2
  · by_cases h2 : v2 = 2
    · subst h1 h2
      go_wp2_with fail
      refine (pick_any 2 B 6 _ (by omega) hr3).mono ?_
      rintro e w4 ⟨v3, rfl, hv3, hr4, hg4⟩
      clear hr3
      have hl3 : v3 < 6 := by omega
      clear hv3
      have hg4' := grownBy_trans hg3' hg4
      clear hg3' hg4
      by_cases h3 : v3 = 0
      · subst h3
        go_wp2_with fail
        refine (pick_any 3 B 40 _ (by omega) hr4).mono ?_
        rintro e w9 ⟨v9, rfl, hv9, hr9, hg9⟩
        clear hr4
        have hl9 : v9 < 40 := by omega
        clear hv9
        have hgz := grownBy_trans hg4' hg9
        go_wp2
        refine bodyPost_ret (v := .tuple #[.int .i64 (3 + (v9 : Int) / 39 * 5), .int .i64 (3)]) (by simp [results, Try.f42, go_sem]) rfl ⟨_, _, rfl, ?_, hr9, hgz⟩
        unfold SizD
        omega
      · have hd3 : decide ((0 : Int) < (v3 : Int)) = true := by rw [decide_eq_true_eq]; omega
        have hd3' : 0 < v3 := by omega
        go_wp2_with fail
        refine (pick_any 3 B 40 _ (by omega) hr4).mono ?_
        rintro e w9 ⟨v9, rfl, hv9, hr9, hg9⟩
        clear hr4
        have hl9 : v9 < 40 := by omega
        clear hv9
        have hgz := grownBy_trans hg4' hg9
        go_wp2
        refine bodyPost_ret (v := .tuple #[.int .i64 (3 + (v9 : Int) / 39 * 5), .int .i64 (2)]) (by simp [results, Try.f42, go_sem]) rfl ⟨_, _, rfl, ?_, hr9, hgz⟩
        unfold SizD
        omega
    · subst h1
      have hb2 : (1 + (v2 : Int) == 3) = false := by rw [beq_eq_false_iff_ne]; omega
      go_wp2_with fail
      refine (pick_any 2 B 40 _ (by omega) hr3).mono ?_
      rintro e w9 ⟨v9, rfl, hv9, hr9, hg9⟩
      clear hr3
      have hl9 : v9 < 40 := by omega
      clear hv9
      have hgz := grownBy_trans hg3' hg9
      go_wp2
      refine bodyPost_ret (v := .tuple #[.int .i64 (3 + (v9 : Int) / 39 * 5), .int .i64 (1 + (v2 : Int))]) (by simp [results, Try.f42, go_sem]) rfl ⟨_, _, rfl, ?_, hr9.mono (by omega), hgz⟩
      unfold SizD
      omega
  · have hb1 : (1 + (v1 : Int) == 3) = false := by rw [beq_eq_false_iff_ne]; omega
    go_wp2_with fail
    refine (pick_any 2 B 40 _ (by omega) hr3).mono ?_
    rintro e w9 ⟨v9, rfl, hv9, hr9, hg9⟩
    clear hr3
    have hl9 : v9 < 40 := by omega
    clear hv9
    have hgz := grownBy_trans hg3' hg9
    go_wp2
    refine bodyPost_ret (v := .tuple #[.int .i64 (1 + (v1 : Int) + (v9 : Int) / 39 * 5), .int .i64 (1 + (v2 : Int))]) (by simp [results, Try.f42, go_sem]) rfl ⟨_, _, rfl, ?_, hr9.mono (by omega), hgz⟩
    unfold SizD
    omega

set_option maxRecDepth 100000 in
theorem drawCountCut_any (aC : Option Addr) (kC : Nat) (c : List UInt8) (w : World) (zC : c.length ≤ kC) (dC : c.length ≤ 1048576) (cC : CellsAt w aC (c.map byteV)) :
    Calls Try.prog 20 #[.slice aC c.length kC] w fun e w' => ∃ x y : Int, e = .returned (.tuple #[.int .i64 x, .int .i64 y]) ∧ SizD x y ∧ Below w.heap.size w w' := by
  have HO := Lib.hid (l6Open_any aC kC c w zC dC cC)
  clear cC
  go_enter Try.func20, Try.ntmps20
  go_wp2_with fail
  refine HO.out.mono ?_
  rintro e w1 ⟨rfl, hr1, hb1⟩
  go_wp2_with fail
  refine (l92Size_any _ _ hr1).mono ?_
  rintro e w2 ⟨x, y, rfl, hd, hr2, hg2⟩
  go_wp2
  go_ret2
  exact ⟨x, y, rfl, hd, below_zpicks hb1 (Nat.le_refl _) hb1.size hg2⟩
end Go.Proofs.Ytpgcpmfemcfoaaa
