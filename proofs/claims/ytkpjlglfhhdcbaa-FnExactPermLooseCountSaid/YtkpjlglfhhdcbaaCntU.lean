
/-
  The model counts the fair permutations, and the loose ones. (Walks.)
-/
import Derived.Test.YtkpjlglfhhdcbaaCntS
import Derived.Test.YtkpjlglfhhdcbaaCntJ
namespace Go.Proofs.Ytkpjlglfhhdcbaa
open Go.RowKit

set_option maxRecDepth 100000 in
set_option maxHeartbeats 2000000 in
theorem specPermFairCount_any (n : Int) (w : World) :
    Calls Try.prog 32 #[.int .i64 n] w fun e w' => e = .returned (.tuple #[.int .i64 (cntO fairB n), .bool (isN n)]) ∧ Below w.heap.size w w' := by
  have HI := Lib.hid (fun w => in17_any n w)
  cases hn : isN n
  · rw [cntO_no hn]
    rw [hn] at HI
    clear hn
    go_enter Try.func32, Try.ntmps32
    go_wp2_with (go_at_call 40; refine (HI.out _).mono ?_; rintro e w1 ⟨rfl, rfl⟩)
    go_ret2
    exact ⟨rfl, Below.refl _ _⟩
  · rw [hn] at HI
    have hc := cntO_yes fairB hn
    rw [hc]
    clear hc
    obtain ⟨k, rfl, h1, h7⟩ := bool_num hn
    rw [Int.toNat_natCast]
    have hb0 := below_alloc w (.cells #[] 3)
    have hC := l6Count_any k false k [] w.heap.size 0 (w.alloc (.cells #[] 3)) (Beg.nil h7) (Nat.le_refl _) (CellsAt.nil _ _)
    rw [show askB false = fairB from rfl] at hC
    have HC := Lib.hid hC
    clear hC hn
    generalize cntK fairB (permK k k []) = c at *
    go_enter Try.func32, Try.ntmps32
    go_wp2_with (first
      | (go_at_call 40; refine (HI.out _).mono ?_; rintro e w1 ⟨rfl, rfl⟩)
      | (go_at_call 53; refine HC.out.mono ?_; rintro e w2 ⟨rfl, hb⟩))
    go_ret2
    exact ⟨rfl, below_step hb0 hb0.size hb⟩
set_option maxRecDepth 100000 in
set_option maxHeartbeats 2000000 in
theorem specPermLooseCount_any (n : Int) (w : World) :
    Calls Try.prog 36 #[.int .i64 n] w fun e w' => e = .returned (.tuple #[.int .i64 (cntO looseB n), .bool (isN n)]) ∧ Below w.heap.size w w' := by
  have HI := Lib.hid (fun w => in17_any n w)
  cases hn : isN n
  · rw [cntO_no hn]
    rw [hn] at HI
    clear hn
    go_enter Try.func36, Try.ntmps36
    go_wp2_with (go_at_call 40; refine (HI.out _).mono ?_; rintro e w1 ⟨rfl, rfl⟩)
    go_ret2
    exact ⟨rfl, Below.refl _ _⟩
  · rw [hn] at HI
    have hc := cntO_yes looseB hn
    rw [hc]
    clear hc
    obtain ⟨k, rfl, h1, h7⟩ := bool_num hn
    rw [Int.toNat_natCast]
    have hb0 := below_alloc w (.cells #[] 3)
    have hC := l6Count_any k true k [] w.heap.size 0 (w.alloc (.cells #[] 3)) (Beg.nil h7) (Nat.le_refl _) (CellsAt.nil _ _)
    rw [show askB true = looseB from rfl] at hC
    have HC := Lib.hid hC
    clear hC hn
    generalize cntK looseB (permK k k []) = c at *
    go_enter Try.func36, Try.ntmps36
    go_wp2_with (first
      | (go_at_call 40; refine (HI.out _).mono ?_; rintro e w1 ⟨rfl, rfl⟩)
      | (go_at_call 53; refine HC.out.mono ?_; rintro e w2 ⟨rfl, hb⟩))
    go_ret2
    exact ⟨rfl, below_step hb0 hb0.size hb⟩

end Go.Proofs.Ytkpjlglfhhdcbaa
