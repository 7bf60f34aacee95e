
/-
  The sums for fair and loose permutations, the model's and the program's. (Walks.)
-/
import Derived.Test.YtnkfopnkgingpaaSevK
import Derived.Test.YtnkfopnkgingpaaRow
namespace Go.Proofs.Ytnkfopnkgingpaa
open Go.RowKit

/-! # ways to choose -/
theorem div_num {a b : Int} {x y z : Nat} (ha : a = (x : Int)) (hb : b = (y : Int)) (hx : x ≤ 1000000000) (hz : x / y = z) : wrap64 ((wrap64 a).tdiv b) = (z : Int) := by
  subst ha hb hz
  have h := Nat.div_le_self x y
  have e1 : wrap64 (x : Int) = x := IntWalk.wrap64_in _ ⟨by omega, by omega⟩
  rw [e1, Int.tdiv_eq_ediv_of_nonneg (by omega), ← Int.natCast_ediv]
  generalize x / y = z at *
  exact IntWalk.wrap64_in _ ⟨by omega, by omega⟩
theorem chW_step {n i : Nat} (hn : n < 9) (hi : i < n) : wrap64 ((wrap64 (((chW n i : Nat) : Int) * ((n : Int) - (i : Int)))).tdiv ((i : Int) + 1)) = ((chW n (i + 1) : Nat) : Int) := by
  have h1 := chW_le n hn i (by omega)
  have h2 : chW n i * (n - i) ≤ 70 * 9 := Nat.mul_le_mul h1 (by omega)
  exact div_num (x := chW n i * (n - i)) (y := i + 1) (by rw [Int.natCast_mul, Int.natCast_sub (by omega)]) (by omega) (by omega) rfl
theorem chV_step {n k i : Nat} (hn : n < 9) (hk : k ≤ n) (hi : i < k) : wrap64 ((wrap64 (((chV n k i : Nat) : Int) * ((n : Int) - (k : Int) + ((i : Int) + 1)))).tdiv ((i : Int) + 1)) = ((chV n k (i + 1) : Nat) : Int) := by
  have h1 := chV_le n hn k (by omega) hk i (by omega) (by omega)
  have h2 : chV n k i * (n - k + (i + 1)) ≤ 70 * 9 := Nat.mul_le_mul h1 (by omega)
  exact div_num (x := chV n k i * (n - k + (i + 1))) (y := i + 1) (by rw [Int.natCast_mul, Int.natCast_add, Int.natCast_sub (by omega)]; rfl) (by omega) (by omega) rfl
set_option maxHeartbeats 400000 in
theorem choose_any (n k : Nat) (w : World) (hn : n < 9) (hk : k ≤ n) :
    Calls Try.prog 71 #[.int .i64 n, .int .i64 k] w fun e w' => e = .returned (.int .i64 ((chW n k : Nat) : Int)) ∧ w' = w := by
  go_enter Try.func71, Try.ntmps71
  go_wp2
  go_loop [5, 8] (fun v x => ∃ i : Nat, i ≤ k ∧ x = .int .i64 i ∧ v = .int .i64 ((chW n i : Nat) : Int)) (fun _ x => k - (intOf x).toNat)
  case atStart => exact ⟨0, Nat.zero_le _, rfl, rfl⟩
  case round =>
    obtain ⟨i, hi, rfl, rfl⟩ := hrel
    by_cases hlt : i < k
    · have hc := chW_le n hn i (by omega)
      have H1 := Lib.hid (chW_step hn (show i < n by omega))
      go_wp2
      go_round
      case rel => exact ⟨i + 1, by omega, by go_num, by rw [H1.out]⟩
      case measure => simp [intOf]; omega
    · obtain rfl : i = k := by omega
      go_wp2
      go_ret
      exact ⟨rfl, rfl⟩

set_option maxHeartbeats 400000 in
theorem l6Choose_any (n k : Nat) (w : World) (hn : n < 9) (hk : k ≤ n) :
    Calls Try.prog 72 #[.int .i64 n, .int .i64 k] w fun e w' => e = .returned (.int .i64 ((chW n k : Nat) : Int)) ∧ w' = w := by
  have HE := Lib.hid (chV_eq n hn k (by omega) hk)
  go_enter Try.func72, Try.ntmps72
  go_wp2
  go_loop [5, 6] (fun v x => ∃ i : Nat, i ≤ k ∧ x = .int .i64 ((i : Int) + 1) ∧ v = .int .i64 ((chV n k i : Nat) : Int)) (fun _ x => k + 1 - (intOf x).toNat)
  case atStart => exact ⟨0, Nat.zero_le _, rfl, rfl⟩
  case round =>
    obtain ⟨i, hi, rfl, rfl⟩ := hrel
    by_cases hlt : i < k
    · have hc := chV_le n hn k (by omega) hk i (by omega) (by omega)
      have H1 := Lib.hid (chV_step hn hk hlt)
      go_wp2
      go_round
      case rel => exact ⟨i + 1, by omega, by go_num, by rw [H1.out]⟩
      case measure => simp [intOf]; omega
    · obtain rfl : i = k := by omega
      go_wp2
      go_ret
      exact ⟨by rw [HE.out]; rfl, rfl⟩

/-! # the sum for fair ones -/
theorem mul_num {a b : Nat} (ha : a ≤ 5000) (hb : b ≤ 5000) : wrap64 ((a : Int) * (b : Int)) = ((a * b : Nat) : Int) := by
  have := Nat.mul_le_mul ha hb
  rw [← Int.natCast_mul, IntWalk.wrap64_in _ ⟨by omega, by omega⟩]
theorem sum_num {s c1 c2 c3 t : Nat} (h : t = s + c1 * c2 * c3) (b1 : c1 ≤ 70) (b2 : c2 ≤ 70) (b3 : c3 ≤ 70) (hs : s ≤ 1000000) : wrap64 ((s : Int) + wrap64 (wrap64 ((c1 : Int) * (c2 : Int)) * (c3 : Int))) = (t : Int) := by
  have e1 := Nat.mul_le_mul b1 b2
  have e2 := Nat.mul_le_mul (show c1 * c2 ≤ 5000 by omega) b3
  rw [mul_num (by omega) (by omega), mul_num (by omega) (by omega), ← Int.natCast_add, ← h, IntWalk.wrap64_in _ ⟨by omega, by omega⟩]
theorem quo_num {s c1 c2 t : Nat} (h : t = s / (c1 * c2)) (b1 : c1 ≤ 70) (b2 : c2 ≤ 70) (hs : s ≤ 1000000) : wrap64 ((s : Int) / wrap64 ((c1 : Int) * (c2 : Int))) = (t : Int) := by
  have hl := Nat.div_le_self s (c1 * c2)
  rw [mul_num (by omega) (by omega), ← Int.natCast_ediv, ← h]
  rw [← h] at hl
  exact IntWalk.wrap64_in _ ⟨by omega, by omega⟩
theorem choose_at (a b : Int) (n k : Nat) (w : World) (ha : a = n) (hb : b = k) (hn : n < 9) (hk : k ≤ n) :
    Calls Try.prog 71 #[.int .i64 a, .int .i64 b] w fun e w' => e = .returned (.int .i64 ((chW n k : Nat) : Int)) ∧ w' = w := by subst ha hb; exact choose_any n k w hn hk
theorem l6Choose_at (a b : Int) (n k : Nat) (w : World) (ha : a = n) (hb : b = k) (hn : n < 9) (hk : k ≤ n) :
    Calls Try.prog 72 #[.int .i64 a, .int .i64 b] w fun e w' => e = .returned (.int .i64 ((chW n k : Nat) : Int)) ∧ w' = w := by subst ha hb; exact l6Choose_any n k w hn hk
set_option maxHeartbeats 1000000 in
theorem specPermFairSum_any (n : Int) (w : World) :
    Calls Try.prog 43 #[.int .i64 n] w fun e w' => e = .returned (.tuple #[.int .i64 (fairSum n), .bool (isN n)]) ∧ Below w.heap.size w w' := by
  cases hb : isN n
  · have HF := Lib.hid (fairSum_no (bool_not hb))
    have HB := Lib.hid hb; clear hb
    have HI := Lib.hid (in17_any n); rw [HB.out] at HI
    go_enter Try.func43, Try.ntmps43
    go_wp2_with (go_at_call 52; refine (HI.out _).mono ?_; rintro e w' ⟨rfl, rfl⟩)
    go_ret2
    exact ⟨by rw [HF.out]; rfl, Below.refl _ _⟩
  · obtain ⟨m, rfl, h1, h7⟩ := bool_num hb
    have HF := Lib.hid (fairSum_yes h1 h7)
    have HB := Lib.hid hb; clear hb
    have HI := Lib.hid (in17_any m); rw [HB.out] at HI
    go_enter Try.func43, Try.ntmps43
    go_wp2_with (go_at_call 52; refine (HI.out _).mono ?_; rintro e w' ⟨rfl, rfl⟩)
    go_loop [4, 5] (fun v x => ∃ i : Nat, i ≤ m ∧ x = .int .i64 ((i : Int) + 1) ∧ v = .int .i64 ((sumW m i : Nat) : Int)) (fun _ x => m + 1 - (intOf x).toNat)
    case atStart => exact ⟨0, Nat.zero_le _, rfl, rfl⟩
    case round =>
      obtain ⟨i, hi, rfl, rfl⟩ := hrel
      by_cases hlt : i < m
      · have hs := sumW_le m (by omega) i (by omega)
        have b1 := chW_le (m + 1) (by omega) i (by omega)
        have b2 := chW_le (m + 1) (by omega) (i + 1) (by omega)
        have b3 := chW_le (m + 1) (by omega) (i + 2) (by omega)
        have HX := Lib.hid (sum_num (t := sumW m (i + 1)) rfl b1 b2 b3 hs)
        go_wp2_with fail
        refine (l6Choose_at _ _ (m + 1) i _ (by omega) (by omega) (by omega) (by omega)).mono ?_
        rintro e w1 ⟨rfl, rfl⟩
        go_wp2_with fail
        refine (l6Choose_at _ _ (m + 1) (i + 1) _ (by omega) (by omega) (by omega) (by omega)).mono ?_
        rintro e w1 ⟨rfl, rfl⟩
        go_wp2_with fail
        refine (l6Choose_at _ _ (m + 1) (i + 2) _ (by omega) (by omega) (by omega) (by omega)).mono ?_
        rintro e w1 ⟨rfl, rfl⟩
        go_wp2
        go_round
        case rel => exact ⟨i + 1, by omega, by go_num, by rw [HX.out]⟩
        case measure => simp [intOf]; omega
      · obtain rfl : i = m := by omega
        have hs := sumW_le i (by omega) i (by omega)
        have b1 := chW_le (i + 1) (by omega) 1 (by omega)
        have b2 := chW_le (i + 1) (by omega) 2 (by omega)
        obtain ⟨p1, p2⟩ := fairN_pos i (by omega) (by omega)
        have hp : wrap64 (((chW (i + 1) 1 : Nat) : Int) * ((chW (i + 1) 2 : Nat) : Int)) ≠ 0 := by
          have := Nat.mul_pos p1 p2
          rw [mul_num (by omega) (by omega)]; omega
        have HX := Lib.hid (quo_num (t := fairN i) rfl b1 b2 hs)
        go_wp2_with fail
        refine (l6Choose_at _ _ (i + 1) 1 _ (by omega) (by omega) (by omega) (by omega)).mono ?_
        rintro e w1 ⟨rfl, rfl⟩
        go_wp2_with fail
        refine (l6Choose_at _ _ (i + 1) 2 _ (by omega) (by omega) (by omega) (by omega)).mono ?_
        rintro e w1 ⟨rfl, rfl⟩
        go_wp2
        go_ret2
        exact ⟨by rw [HF.out, ← HX.out]; rfl, Below.refl _ _⟩
set_option maxHeartbeats 1000000 in
theorem implPermFairSum_any (n : Int) (w : World) :
    Calls Try.prog 40 #[.int .i64 n] w fun e w' => e = .returned (.tuple #[.int .i64 (fairSum n), .bool (isN n)]) ∧ Below w.heap.size w w' := by
  cases hb : isN n
  · have HF := Lib.hid (fairSum_no (bool_not hb))
    have HB := Lib.hid hb; clear hb
    have HI := Lib.hid (isLength_any n); rw [HB.out] at HI
    go_enter Try.func40, Try.ntmps40
    go_wp2_with (go_at_call 70; refine (HI.out _).mono ?_; rintro e w' ⟨rfl, rfl⟩)
    go_ret2
    exact ⟨by rw [HF.out]; rfl, Below.refl _ _⟩
  · obtain ⟨m, rfl, h1, h7⟩ := bool_num hb
    have HF := Lib.hid (fairSum_yes h1 h7)
    have HB := Lib.hid hb; clear hb
    have HI := Lib.hid (isLength_any m); rw [HB.out] at HI
    go_enter Try.func40, Try.ntmps40
    go_wp2_with (go_at_call 70; refine (HI.out _).mono ?_; rintro e w' ⟨rfl, rfl⟩)
    go_loop [4, 5] (fun v x => ∃ i : Nat, i ≤ m ∧ x = .int .i64 ((i : Int) + 1) ∧ v = .int .i64 ((sumW m i : Nat) : Int)) (fun _ x => m + 1 - (intOf x).toNat)
    case atStart => exact ⟨0, Nat.zero_le _, rfl, rfl⟩
    case round =>
      obtain ⟨i, hi, rfl, rfl⟩ := hrel
      by_cases hlt : i < m
      · have hs := sumW_le m (by omega) i (by omega)
        have b1 := chW_le (m + 1) (by omega) i (by omega)
        have b2 := chW_le (m + 1) (by omega) (i + 1) (by omega)
        have b3 := chW_le (m + 1) (by omega) (i + 2) (by omega)
        have HX := Lib.hid (sum_num (t := sumW m (i + 1)) rfl b1 b2 b3 hs)
        go_wp2_with fail
        refine (choose_at _ _ (m + 1) i _ (by omega) (by omega) (by omega) (by omega)).mono ?_
        rintro e w1 ⟨rfl, rfl⟩
        go_wp2_with fail
        refine (choose_at _ _ (m + 1) (i + 1) _ (by omega) (by omega) (by omega) (by omega)).mono ?_
        rintro e w1 ⟨rfl, rfl⟩
        go_wp2_with fail
        refine (choose_at _ _ (m + 1) (i + 2) _ (by omega) (by omega) (by omega) (by omega)).mono ?_
        rintro e w1 ⟨rfl, rfl⟩
        go_wp2
        go_round
        case rel => exact ⟨i + 1, by omega, by go_num, by rw [HX.out]⟩
        case measure => simp [intOf]; omega
      · obtain rfl : i = m := by omega
        have hs := sumW_le i (by omega) i (by omega)
        have b1 := chW_le (i + 1) (by omega) 1 (by omega)
        have b2 := chW_le (i + 1) (by omega) 2 (by omega)
        obtain ⟨p1, p2⟩ := fairN_pos i (by omega) (by omega)
        have hp : wrap64 (((chW (i + 1) 1 : Nat) : Int) * ((chW (i + 1) 2 : Nat) : Int)) ≠ 0 := by
          have := Nat.mul_pos p1 p2
          rw [mul_num (by omega) (by omega)]; omega
        have HX := Lib.hid (quo_num (t := fairN i) rfl b1 b2 hs)
        go_wp2_with fail
        refine (choose_at _ _ (i + 1) 1 _ (by omega) (by omega) (by omega) (by omega)).mono ?_
        rintro e w1 ⟨rfl, rfl⟩
        go_wp2_with fail
        refine (choose_at _ _ (i + 1) 2 _ (by omega) (by omega) (by omega) (by omega)).mono ?_
        rintro e w1 ⟨rfl, rfl⟩
        go_wp2
        go_ret2
        exact ⟨by rw [HF.out, ← HX.out]; rfl, Below.refl _ _⟩
end Go.Proofs.Ytnkfopnkgingpaa
