
/-
  Needs are put in order: slices.SortFunc. (Walks.)
-/
import Derived.Test.YtmbpffpkmjechaaSizO
namespace Go.Proofs.Ytmbpffpkmjechaa
open Go.RowKit

set_option maxRecDepth 100000 in
set_option maxHeartbeats 4000000 in
theorem len64_any (n : Nat) (hn : n ≤ 9) (w : World) : Calls Try.prog 74 #[.int .u64 (n : Int)] w fun e w' => (∃ l : Int, e = .returned (.int .i64 l)) ∧ w' = w := by
  have hc : n = 0 ∨ n = 1 ∨ n = 2 ∨ n = 3 ∨ n = 4 ∨ n = 5 ∨ n = 6 ∨ n = 7 ∨ n = 8 ∨ n = 9 := by omega
  rcases hc with rfl | rfl | rfl | rfl | rfl | rfl | rfl | rfl | rfl | rfl
  all_goals
    go_enter Try.func74, Try.ntmps74
    go_wp2
    go_ret
    exact ⟨⟨_, rfl⟩, rfl⟩
set_option maxRecDepth 100000 in
theorem len_any (n : Nat) (hn : n ≤ 9) (w : World) : Calls Try.prog 52 #[.int .u64 (n : Int)] w fun e w' => (∃ l : Int, e = .returned (.int .i64 l)) ∧ w' = w := by
  have HL := Lib.hid (fun w => len64_any n hn w)
  go_enter Try.func52, Try.ntmps52
  go_wp2_with (go_at_call 74; refine (HL.out _).mono ?_; rintro e w' ⟨⟨l, rfl⟩, rfl⟩)
  go_ret
  exact ⟨⟨_, rfl⟩, rfl⟩
set_option maxRecDepth 100000 in
set_option maxHeartbeats 4000000 in
theorem pdqF_any {C : Array Value} (hC : C.size = 39) (F : Nat → Nat → Nat → Bool) (way : Int) (v : Value) (d : Nat → Nat) (X : Array Value) (r g cap : Nat) (lim : Int) (L0 : List Nat) (w : World) (hr : r ≤ 9) (hq : Lin (firstQ F) r)
    (hB : HeldB w g 66 (ndX d X L0)) (h0 : Ins (firstQ F) r 1 L0) :
    Calls Try.prog 51 #[.slice (some ⟨g, 0, none⟩) r cap, .int .i64 0, .int .i64 (r : Int), .int .i64 lim, .func (.func 32) #[.agg (dwC (ordC C F) way v)] #[]] w
      fun e w' => e = .returned (.tuple #[]) ∧ ∃ L, Srt (firstQ F) r L ∧ HeldB w' g 66 (ndX d X L) ∧ w.grownBy w' (some g) := by
  have HI := Lib.hid (insertionF_any hC F way v d X r g cap L0 w hr hq hB h0)
  clear hq hB h0
  generalize firstQ F = q at *
  generalize dwC (ordC C F) way v = D at *
  have h12 : (r : Int) ≤ 12 := by omega
  go_enter Try.func51, Try.ntmps51
  go_wp2
  refine wp_loop_rounds 1 ?_
  rw [rounds_succ]
  go_wp2_with (go_at_call 65; refine HI.out.mono ?_; rintro e w1 ⟨rfl, L, h1, h2, h3⟩)
  exact bodyPost_ret (results_none rfl _ _ _) rfl ⟨rfl, L, h1, h2, h3⟩
set_option maxRecDepth 100000 in
theorem sortF_any {C : Array Value} (hC : C.size = 39) (F : Nat → Nat → Nat → Bool) (way : Int) (v : Value) (d : Nat → Nat) (X : Array Value) (r g cap : Nat) (L0 : List Nat) (w : World) (hr : r ≤ 9) (hq : Lin (firstQ F) r)
    (hB : HeldB w g 66 (ndX d X L0)) (h0 : Ins (firstQ F) r 1 L0) :
    Calls Try.prog 42 #[.slice (some ⟨g, 0, none⟩) r cap, .func (.func 32) #[.agg (dwC (ordC C F) way v)] #[]] w
      fun e w' => e = .returned (.tuple #[]) ∧ ∃ L, Srt (firstQ F) r L ∧ HeldB w' g 66 (ndX d X L) ∧ w.grownBy w' (some g) := by
  have HI := Lib.hid (fun lim => pdqF_any hC F way v d X r g cap lim L0 w hr hq hB h0)
  have HL := Lib.hid (fun w => len_any r hr w)
  have hw : IntKind.u64.wrap (r : Int) = (r : Int) := by simp [IntKind.wrap, IntKind.bits, IntKind.signed]; omega
  clear hq hB h0
  generalize firstQ F = q at *
  generalize dwC (ordC C F) way v = D at *
  go_enter Try.func42, Try.ntmps42
  go_wp2_with (first
    | (go_at_call 52; refine (HL.out _).mono ?_; rintro e w' ⟨⟨l, rfl⟩, rfl⟩)
    | (go_at_call 51; refine (HI.out _).mono ?_; rintro e w1 ⟨rfl, L, h1, h2, h3⟩))
  go_end0
  exact ⟨rfl, L, h1, h2, h3⟩

end Go.Proofs.Ytmbpffpkmjechaa
