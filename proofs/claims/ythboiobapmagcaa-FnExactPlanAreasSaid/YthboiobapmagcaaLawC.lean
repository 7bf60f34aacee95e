/-
  The law on the question whether a list is a plan. (Walk.)
-/
import Derived.Test.YthboiobapmagcaaLawB
import Derived.Test.YthboiobapmagcaaMathD
namespace Go.Proofs.Ythboiobapmagcaa
open Go.RowKit

theorem szFn_bound : ∀ (l : List ByteArray) (n : Int), ¬ szFn l n < 0 → szFn l n ≤ n ∧ ∀ s ∈ l, (s.size : Int) ≤ n
  | [], n, _ => ⟨Int.le_refl _, fun s hs => by cases hs⟩
  | s :: l, n, h => by
    rw [szFn] at h ⊢
    by_cases hn : n - (s.size : Int) < 0
    · rw [if_pos hn] at h; omega
    · rw [if_neg hn] at h ⊢
      have := szFn_bound l _ h
      refine ⟨by omega, fun t ht => ?_⟩
      rcases List.mem_cons.1 ht with rfl | ht
      · omega
      · have := this.2 t ht; omega

/-- lists that the laws ask of are small -/
theorem szAll_bound {l : List ByteArray} {n : Int} (h : ¬ szAll l n < 0) : szAll l n ≤ n ∧ (l.length : Int) ≤ n ∧ ∀ s ∈ l, (s.size : Int) ≤ n := by
  unfold szAll at h ⊢
  by_cases hn : n - (l.length : Int) < 0
  · rw [if_pos hn] at h; omega
  · rw [if_neg hn] at h ⊢
    have := szFn_bound l _ h
    exact ⟨by omega, by omega, fun s hs => by have := this.2 s hs; omega⟩

set_option maxHeartbeats 800000 in
theorem planIn_law (ao : Option Addr) (cap : Nat) (l : List ByteArray) (w : World) (hl : l.length ≤ maxLen) (hs : ∀ s ∈ l, s.size ≤ maxLen) (hc : CellsAt w ao (l.map Value.string)) :
    Calls Try.prog 3 #[.slice ao l.length cap] w fun e w' => e = .returned (.bool true) ∧ Below w.heap.size w w' := by
  by_cases hz : szAll l 1048576 < 0
  · have hd : decide (szAll l 1048576 < 0) = true := decide_eq_true hz
    go_enter Try.func3, Try.ntmps3
    go_wp2_with (go_at_call 17; refine (szStringS_any _ _ _ _ _ hl (by omega) (by omega) hs hc).mono ?_; rintro e w1 ⟨rfl, rfl⟩)
    go_ret
    exact ⟨rfl, Below.refl _ _⟩
  · have hd : decide (szAll l 1048576 < 0) = false := decide_eq_false hz
    obtain ⟨_, hl2, hs2⟩ := szAll_bound hz
    have hl1 : l.length ≤ 1048576 := by omega
    have hs1 : ∀ s ∈ l, s.size ≤ 1048576 := fun s h => by have := hs2 s h; omega
    have HMX := Lib.hid (show l.length ≤ maxLen by unfold maxLen; omega)
    have HRO := Lib.hid (readOk_eq l)
    clear hl2 hs2
    have heq : eqS l l = true := by unfold eqS; simp
    have HEQ := Lib.hid heq; clear heq
    go_enter Try.func3, Try.ntmps3
    go_wp2_with fail
    refine (szStringS_any _ _ _ _ _ hl (by omega) (by omega) hs hc).mono ?_
    rintro e w1 ⟨rfl, rfl⟩
    go_wp2_with fail
    refine (toStringS_any _ _ _ _ hl1 hc).mono ?_
    rintro e w2 ⟨g2, c2, rfl, hown2, hb2⟩
    have hc2 := owns_cells hown2
    have hca2 := hc.below hb2
    go_wp2_with fail
    refine (specPlanIn_any _ _ _ _ hl1 hs1 hc2).mono ?_
    rintro e w3 ⟨rfl, hb3⟩
    have hb13 := below_step hb2 hb2.size hb3
    have hca3 := hc.below hb13
    go_wp2_with fail
    refine (toStringS_any _ _ _ _ hl1 hca3).mono ?_
    rintro e w4 ⟨g4, c4, rfl, hown4, hb4⟩
    have hb14 := below_step hb13 hb13.size hb4
    have hc4 := owns_cells hown4
    go_wp2_with fail
    refine (implPlanIn_any _ _ _ _ hl1 hs1 hc4).mono ?_
    rw [HRO.out]
    rintro e w5 ⟨rfl, hb5⟩
    have hb15 := below_step hb14 hb14.size hb5
    have hc5 := hc4.below hb5
    have hca5 := hc.below hb15
    go_wp2_with fail
    refine (toStringS_any _ _ _ _ hl1 hca5).mono ?_
    rintro e w6 ⟨g6, c6, rfl, hown6, hb6⟩
    have hb16 := below_step hb15 hb15.size hb6
    have hc6 := owns_cells hown6
    have hc56 := hc5.below hb6
    go_wp2_with fail
    refine (eqStringS_any _ _ _ _ _ _ l l _ rfl rfl HMX.out hc56 hc6).mono ?_
    rw [HEQ.out]
    rintro e w7 ⟨rfl, hq7⟩
    go_wp2
    go_ret
    exact ⟨rfl, hb16.trans (hq7.below _)⟩

end Go.Proofs.Ythboiobapmagcaa
