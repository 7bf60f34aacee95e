
/-
  The program's plans and boxes: small methods. (Walks.)
-/
import Derived.Test.YtieieokkaomkaaaRows
import Derived.Test.YtieieokkaomkaaaPlanM
import Derived.Test.YtieieokkaomkaaaRow
namespace Go.Proofs.Ytieieokkaomkaaa
open Go.RowKit

set_option maxHeartbeats 400000 in
theorem area_any (row col high wide : Nat) (w : World) (h1 : high ≤ 6) (h2 : wide ≤ 6) :
    Calls Try.prog 62 #[.agg #[.int .i64 row, .int .i64 col, .int .i64 high, .int .i64 wide]] w
      fun e w' => e = .returned (.int .i64 ((high * wide : Nat) : Int)) ∧ Below w.heap.size w w' := by
  have hm : high * wide ≤ 36 := Nat.mul_le_mul h1 h2
  have hw : wrap64 ((high : Int) * (wide : Int)) = ((high * wide : Nat) : Int) := by
    rw [IntWalk.wrap64_in _ ⟨by rw [← Int.natCast_mul]; omega, by rw [← Int.natCast_mul]; omega⟩, Int.natCast_mul]
  have HW := Lib.hid hw; clear hw hm
  go_enter Try.func62, Try.ntmps62
  go_wp2
  go_ret
  exact ⟨ret_int HW.out, below_alloc _ _⟩

/-- all cells of a box are of one room -/
def aloneB (g : Nat → Nat → Nat) (room row col high wide : Nat) : Bool :=
  (List.range high).all fun i => (List.range wide).all fun j => g (row + i) (col + j) == room

theorem aloneB_no {g : Nat → Nat → Nat} {room row col high wide i j : Nat} (hi : i < high) (hj : j < wide) (h : ¬ g (row + i) (col + j) = room) : aloneB g room row col high wide = false := by
  rw [Bool.eq_false_iff]
  intro hh
  unfold aloneB at hh
  rw [List.all_eq_true] at hh
  have h2 := hh i (List.mem_range.2 hi)
  rw [List.all_eq_true] at h2
  have h3 := h2 j (List.mem_range.2 hj)
  exact h (by simpa using h3)
theorem aloneB_yes {g : Nat → Nat → Nat} {room row col high wide : Nat} (h : ∀ i, i < high → ∀ j, j < wide → g (row + i) (col + j) = room) : aloneB g room row col high wide = true := by
  unfold aloneB
  rw [List.all_eq_true]
  intro i hi
  rw [List.all_eq_true]
  intro j hj
  simpa using h i (List.mem_range.1 hi) j (List.mem_range.1 hj)

set_option maxHeartbeats 800000 in
theorem isAlone_any (h wd r : Nat) (g : Nat → Nat → Nat) (room row col high wide : Nat) (w : World) (h1 : row + high ≤ 6) (h2 : col + wide ≤ 6) :
    Calls Try.prog 61 #[.agg (planC h wd r g), .int .i64 room, .agg #[.int .i64 row, .int .i64 col, .int .i64 high, .int .i64 wide]] w
      fun e w' => e = .returned (.bool (aloneB g room row col high wide)) ∧ Below w.heap.size w w' := by
  go_enter Try.func61, Try.ntmps61
  go_wp2
  have hb : Below w.heap.size w ((w.alloc (.cells (planC h wd r g) 38)).alloc (.cells #[.int .i64 row, .int .i64 col, .int .i64 high, .int .i64 wide] 50)) := (below_alloc _ _).alloc (by simp) _
  go_loop [7, 8] (fun vi _ => ∃ (i : Nat), i ≤ high ∧ vi = .int .i64 ((row + i : Nat) : Int) ∧ ∀ i', i' < i → ∀ j, j < wide → g (row + i') (col + j) = room) (fun i _ => row + high - (intOf i).toNat)
  case atStart => exact ⟨0, Nat.zero_le _, rfl, fun i' hi' => by omega⟩
  case round =>
    obtain ⟨i, hi, rfl, hall⟩ := hrel
    have HALL := Lib.hid hall; clear hall
    by_cases hlt : i < high
    · go_wp2
      go_loop [8] (fun vj => ∃ (j : Nat), j ≤ wide ∧ vj = .int .i64 ((col + j : Nat) : Int) ∧ ∀ j', j' < j → g (row + i) (col + j') = room) (fun j => col + wide - (intOf j).toNat)
      case atStart => exact ⟨0, Nat.zero_le _, rfl, fun j' hj' => by omega⟩
      case round =>
        obtain ⟨j, hj, rfl, hr⟩ := hrel
        have HR := Lib.hid hr; clear hr
        by_cases hjl : j < wide
        · have hat := planC_at h wd r g (row + i) (col + j) (by omega) (by omega)
          have HN := Lib.hid (@aloneB_no g room row col high wide i j hlt hjl)
          have HY := Lib.hid (fun hx : g (row + i) (col + j) = room => @rows_step (fun j' => g (row + i) (col + j') = room) j HR.out hx)
          generalize g (row + i) (col + j) = x at *
          by_cases hx : x = room
          · have hne : ((x : Int) != (room : Int)) = false := by simp [hx]
            have HX := Lib.hid hx; clear hx
            go_wp2
            go_round
            case rel => exact ⟨j + 1, by omega, by go_num, HY.out HX.out⟩
            case measure => simp [intOf]; omega
          · have hne : ((x : Int) != (room : Int)) = true := by rw [bne_iff_ne]; omega
            have HX := Lib.hid hx; clear hx
            go_wp2
            go_ret
            exact ⟨ret_bool (HN.out HX.out).symm, hb⟩
        · have HA := Lib.hid (@rows_step (fun i' => ∀ j, j < wide → g (row + i') (col + j) = room) i HALL.out (fun j' hj' => HR.out j' (by omega)))
          go_wp2
          go_round
          case rel => exact ⟨i + 1, by omega, by go_num, HA.out⟩
          case measure => simp [intOf]; omega
    · have HA := Lib.hid (aloneB_yes (g := g) (room := room) (row := row) (col := col) (fun i' hi' => HALL.out i' (by omega : i' < i)) : aloneB g room row col high wide = true)
      go_wp2
      go_ret
      exact ⟨ret_bool HA.out.symm, hb⟩

/-- how many of the first n hold, from the first one on -/
def runLen (P : Nat → Bool) : Nat → Nat
  | 0 => 0
  | n + 1 => if P 0 then runLen (fun i => P (i + 1)) n + 1 else 0

theorem runLen_le : ∀ (n : Nat) (P : Nat → Bool), runLen P n ≤ n
  | 0, _ => Nat.le_refl _
  | n + 1, P => by
    rw [runLen]; split
    · have := runLen_le n (fun i => P (i + 1)); omega
    · omega

theorem runLen_eq : ∀ (n : Nat) (P : Nat → Bool) (t : Nat), t ≤ n → (∀ i, i < t → P i = true) → (t < n → P t = false) → runLen P n = t
  | 0, P, t, h, _, _ => by rw [runLen]; omega
  | n + 1, P, 0, _, _, h3 => by rw [runLen, h3 (by omega)]; rfl
  | n + 1, P, t + 1, h1, h2, h3 => by
    rw [runLen, h2 0 (by omega), if_pos rfl, runLen_eq n (fun i => P (i + 1)) t (by omega) (fun i hi => h2 (i + 1) (by omega)) (fun h => h3 (by omega))]

theorem runLen_all : ∀ (n : Nat) (P : Nat → Bool) (i : Nat), i < runLen P n → P i = true
  | 0, P, i, h => by rw [runLen] at h; omega
  | n + 1, P, i, h => by
    rw [runLen] at h
    split at h
    · cases i with
      | zero => assumption
      | succ i => exact runLen_all n (fun i => P (i + 1)) i (by omega)
    · omega

theorem runLen_stop : ∀ (n : Nat) (P : Nat → Bool), runLen P n < n → P (runLen P n) = false
  | 0, P, h => by omega
  | n + 1, P, h => by
    rw [runLen] at h ⊢
    split
    · rename_i h0
      rw [if_pos h0] at h
      exact runLen_stop n (fun i => P (i + 1)) (by omega)
    · simp_all

end Go.Proofs.Ytieieokkaomkaaa
