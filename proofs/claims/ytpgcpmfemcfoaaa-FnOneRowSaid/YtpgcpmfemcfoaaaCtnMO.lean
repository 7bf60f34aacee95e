/-
  Merged texts: CtnM DrawZ.
-/
import Derived.Test.YtpgcpmfemcfoaaaCtnO
import Derived.Test.YtpgcpmfemcfoaaaPickO

/-
  What the laws of counts ask. (Mathematics.)
-/
namespace Go.Proofs.Ytpgcpmfemcfoaaa
open Go.RowKit

/-- plans of one row or one column are plain -/
theorem one_plain {p : List ByteArray} (hp : planB p = true) (h1 : p.length = 1 ∨ wideB p = 1) : plainB p = true := by
  unfold plainB meetN
  rw [hp, Bool.true_and, if_pos rfl, decide_eq_true_eq, pts_grid (planP_of hp)]
  unfold ptsG
  have e : ∀ i k, i < p.length → k < wideB p → metG (gridG p) 4 i k = false := fun i k hi hk => by
    unfold metG
    rcases h1 with h | h
    · rw [show decide (1 ≤ i) = false from decide_eq_false (by omega)]; rfl
    · rw [show decide (1 ≤ k) = false from decide_eq_false (by omega), Bool.and_false]; rfl
  have z : (List.range p.length).map (fun i => (List.range (wideB p)).countP fun k => metG (gridG p) 4 i k) = (List.range p.length).map (fun _ => 0) := by
    refine List.map_congr_left fun i hi => ?_
    rw [List.countP_eq_zero]
    intro k hk
    rw [e i k (List.mem_range.1 hi) (List.mem_range.1 hk)]
    simp
  rw [z]
  generalize p.length = n
  induction n with
  | zero => rfl
  | succ n ih => rw [List.range_succ, List.map_append, List.sum_append, ih]; rfl
end Go.Proofs.Ytpgcpmfemcfoaaa

/-
  The sizes that are drawn. (Walks.)
-/
namespace Go.Proofs.Ytpgcpmfemcfoaaa
open Go.RowKit

theorem below_zpicks {w w1 w2 : World} {B B0 : Nat} (h : Below B0 w w1) (hB : B0 ≤ B) (h1 : B0 ≤ w1.heap.size) (hg : w1.grownBy w2 (some B)) : Below B0 w w2 :=
  h.trans (below_of_grownBy hg h1 (fun k hk => by cases hk; exact hB))
/-- a size that is drawn -/
def SizD (x y : Int) : Prop := 1 ≤ x ∧ x ≤ 8 ∧ 1 ≤ y ∧ y ≤ 3
set_option maxRecDepth 100000 in
set_option maxHeartbeats 4000000 in
theorem l92Size_any (B : Nat) (w : World) (hr : RdAt 0 B w) :
    Calls Try.prog 42 #[.pointer (some ⟨B, 0, none⟩)] w fun e w' => ∃ x y : Int, e = .returned (.tuple #[.int .i64 x, .int .i64 y]) ∧ SizD x y ∧ RdAt 4 B w' ∧ w.grownBy w' (some B) := by
  go_enter Try.func42, Try.ntmps42
  go_wp2_with fail
  refine (pick_any 0 B 3 _ (by omega) hr).mono ?_
  rintro e w2 ⟨v1, rfl, hv1, hr2, hg2⟩
  clear hr
  have hl1 : v1 < 3 := by omega
  clear hv1
  go_wp2_with fail
  refine (pick_any 1 B 3 _ (by omega) hr2).mono ?_
  rintro e w3 ⟨v2, rfl, hv2, hr3, hg3⟩
  clear hr2
  have hl2 : v2 < 3 := by omega
  clear hv2
  have hg3' := grownBy_trans hg2 hg3
  clear hg2 hg3
  by_cases h1 : v1 = 2
  · by_cases h2 : v2 = 2
    · subst h1 h2
      go_wp2_with fail
      refine (pick_any 2 B 6 _ (by omega) hr3).mono ?_
      rintro e w4 ⟨v3, rfl, hv3, hr4, hg4⟩
      clear hr3
      have hl3 : v3 < 6 := by omega
      clear hv3
      have hg4' := grownBy_trans hg3' hg4
      clear hg3' hg4
      by_cases h3 : v3 = 0
      · subst h3
        go_wp2_with fail
        refine (pick_any 3 B 40 _ (by omega) hr4).mono ?_
        rintro e w9 ⟨v9, rfl, hv9, hr9, hg9⟩
        clear hr4
        have hl9 : v9 < 40 := by omega
        clear hv9
        have hgz := grownBy_trans hg4' hg9
        go_wp2
        refine bodyPost_ret (v := .tuple #[.int .i64 (3 + (v9 : Int) / 39 * 5), .int .i64 (3)]) (by simp [results, Try.f42, go_sem]) rfl ⟨_, _, rfl, ?_, hr9, hgz⟩
        unfold SizD
        omega
      · have hd3 : decide ((0 : Int) < (v3 : Int)) = true := by rw [decide_eq_true_eq]; omega
        have hd3' : 0 < v3 := by omega
        go_wp2_with fail
        refine (pick_any 3 B 40 _ (by omega) hr4).mono ?_
        rintro e w9 ⟨v9, rfl, hv9, hr9, hg9⟩
        clear hr4
        have hl9 : v9 < 40 := by omega
        clear hv9
        have hgz := grownBy_trans hg4' hg9
        go_wp2
        refine bodyPost_ret (v := .tuple #[.int .i64 (3 + (v9 : Int) / 39 * 5), .int .i64 (2)]) (by simp [results, Try.f42, go_sem]) rfl ⟨_, _, rfl, ?_, hr9, hgz⟩
        unfold SizD
        omega
    · subst h1
      have hb2 : (1 + (v2 : Int) == 3) = false := by rw [beq_eq_false_iff_ne]; omega
      go_wp2_with fail
      refine (pick_any 2 B 40 _ (by omega) hr3).mono ?_
      rintro e w9 ⟨v9, rfl, hv9, hr9, hg9⟩
      clear hr3
      have hl9 : v9 < 40 := by omega
      clear hv9
      have hgz := grownBy_trans hg3' hg9
      go_wp2
      refine bodyPost_ret (v := .tuple #[.int .i64 (3 + (v9 : Int) / 39 * 5), .int .i64 (1 + (v2 : Int))]) (by simp [results, Try.f42, go_sem]) rfl ⟨_, _, rfl, ?_, hr9.mono (by omega), hgz⟩
      unfold SizD
      omega
  · have hb1 : (1 + (v1 : Int) == 3) = false := by rw [beq_eq_false_iff_ne]; omega
    go_wp2_with fail
    refine (pick_any 2 B 40 _ (by omega) hr3).mono ?_
    rintro e w9 ⟨v9, rfl, hv9, hr9, hg9⟩
    clear hr3
    have hl9 : v9 < 40 := by omega
    clear hv9
    have hgz := grownBy_trans hg3' hg9
    go_wp2
    refine bodyPost_ret (v := .tuple #[.int .i64 (1 + (v1 : Int) + (v9 : Int) / 39 * 5), .int .i64 (1 + (v2 : Int))]) (by simp [results, Try.f42, go_sem]) rfl ⟨_, _, rfl, ?_, hr9.mono (by omega), hgz⟩
    unfold SizD
    omega

end Go.Proofs.Ytpgcpmfemcfoaaa
