/-
  Merged texts: ImplA ImplB.
-/
import Derived.Test.YtpgcpmfemcfoaaaRows
import Derived.Test.YtpgcpmfemcfoaaaRowO

/-
  The program's plans and boxes: small methods. (Walks.)
-/
namespace Go.Proofs.Ytpgcpmfemcfoaaa
open Go.RowKit

/-- all cells of a box are of one room -/
def aloneB (g : Nat → Nat → Nat) (room row col high wide : Nat) : Bool :=
  (List.range high).all fun i => (List.range wide).all fun j => g (row + i) (col + j) == room

theorem aloneB_no {g : Nat → Nat → Nat} {room row col high wide i j : Nat} (hi : i < high) (hj : j < wide) (h : ¬ g (row + i) (col + j) = room) : aloneB g room row col high wide = false := by
  rw [Bool.eq_false_iff]
  intro hh
  unfold aloneB at hh
  rw [List.all_eq_true] at hh
  have h2 := hh i (List.mem_range.2 hi)
  rw [List.all_eq_true] at h2
  have h3 := h2 j (List.mem_range.2 hj)
  exact h (by simpa using h3)
theorem aloneB_yes {g : Nat → Nat → Nat} {room row col high wide : Nat} (h : ∀ i, i < high → ∀ j, j < wide → g (row + i) (col + j) = room) : aloneB g room row col high wide = true := by
  unfold aloneB
  rw [List.all_eq_true]
  intro i hi
  rw [List.all_eq_true]
  intro j hj
  simpa using h i (List.mem_range.1 hi) j (List.mem_range.1 hj)

/-- how many of the first n hold, from the first one on -/
def runLen (P : Nat → Bool) : Nat → Nat
  | 0 => 0
  | n + 1 => if P 0 then runLen (fun i => P (i + 1)) n + 1 else 0

theorem runLen_le : ∀ (n : Nat) (P : Nat → Bool), runLen P n ≤ n
  | 0, _ => Nat.le_refl _
  | n + 1, P => by
    rw [runLen]; split
    · have := runLen_le n (fun i => P (i + 1)); omega
    · omega

theorem runLen_eq : ∀ (n : Nat) (P : Nat → Bool) (t : Nat), t ≤ n → (∀ i, i < t → P i = true) → (t < n → P t = false) → runLen P n = t
  | 0, P, t, h, _, _ => by rw [runLen]; omega
  | n + 1, P, 0, _, _, h3 => by rw [runLen, h3 (by omega)]; rfl
  | n + 1, P, t + 1, h1, h2, h3 => by
    rw [runLen, h2 0 (by omega), if_pos rfl, runLen_eq n (fun i => P (i + 1)) t (by omega) (fun i hi => h2 (i + 1) (by omega)) (fun h => h3 (by omega))]

theorem runLen_all : ∀ (n : Nat) (P : Nat → Bool) (i : Nat), i < runLen P n → P i = true
  | 0, P, i, h => by rw [runLen] at h; omega
  | n + 1, P, i, h => by
    rw [runLen] at h
    split at h
    · cases i with
      | zero => assumption
      | succ i => exact runLen_all n (fun i => P (i + 1)) i (by omega)
    · omega

theorem runLen_stop : ∀ (n : Nat) (P : Nat → Bool), runLen P n < n → P (runLen P n) = false
  | 0, P, h => by omega
  | n + 1, P, h => by
    rw [runLen] at h ⊢
    split
    · rename_i h0
      rw [if_pos h0] at h
      exact runLen_stop n (fun i => P (i + 1)) (by omega)
    · simp_all

end Go.Proofs.Ytpgcpmfemcfoaaa

/-
  The program's boxes: where a room goes. (Walk.)
-/
namespace Go.Proofs.Ytpgcpmfemcfoaaa
open Go.RowKit

def boxHigh (h : Nat) (g : Nat → Nat → Nat) (row col : Nat) : Nat := runLen (fun t => g (row + t) col == g row col) (h - row)
def boxWide (wd : Nat) (g : Nat → Nat → Nat) (row col : Nat) : Nat := runLen (fun t => g row (col + t) == g row col) (wd - col)

/-- the world in which a box has gone so far -/
def bxW (w : World) (C : Array Value) (row col hi wi : Nat) : World :=
  ((w.alloc (.cells C 47)).alloc (.cells #[.int .i64 0, .int .i64 0, .int .i64 0, .int .i64 0] 100)).alloc (.cells #[.int .i64 row, .int .i64 col, .int .i64 hi, .int .i64 wi] 100)

theorem bxW_plan (w : World) (C : Array Value) (row col hi wi q k : Nat) : ((bxW w C row col hi wi).drewN q).cell? ⟨w.heap.size, k, none⟩ = C[k]? := by
  unfold bxW
  rw [World.cell?_drewN, World.cell?_alloc_past _ _ _ (by simp; omega), World.cell?_alloc_past _ _ _ (by simp), World.cell?_alloc_at _ _ _ _ rfl]
theorem bxW_box (w : World) (C : Array Value) (row col hi wi q k : Nat) : ((bxW w C row col hi wi).drewN q).cell? ⟨w.heap.size + 1 + 1, k, none⟩ = (#[Value.int .i64 row, .int .i64 col, .int .i64 hi, .int .i64 wi] : Array Value)[k]? := by
  unfold bxW
  rw [World.cell?_drewN, World.cell?_alloc_at _ _ _ _ (by simp)]
theorem bxW_free (w : World) (C : Array Value) (row col hi wi q k : Nat) : ((bxW w C row col hi wi).drewN q).frozen? ⟨w.heap.size + 1 + 1, k, none⟩ = false := by
  unfold bxW
  rw [World.frozen?_drewN, World.frozen?_alloc_at _ _ _ _ (by simp)]
theorem bxW_set (w : World) (C : Array Value) (row col hi wi q m : Nat) : ((bxW w C row col hi wi).drewN q).setCell ⟨w.heap.size + 1 + 1, 3, none⟩ (.int .i64 (m : Int)) = (bxW w C row col hi m).drewN q := by
  show ((bxW w C row col hi wi).setCell _ _).drewN q = _
  congr 1
  unfold bxW
  rw [World.setCell_alloc_at _ _ _ _ _ (by simp)]
  rfl
theorem bxW_set2 (w : World) (C : Array Value) (row col hi wi m : Nat) : (bxW w C row col hi wi).setCell ⟨w.heap.size + 1 + 1, 2, none⟩ (.int .i64 (m : Int)) = bxW w C row col m wi := by
  unfold bxW
  rw [World.setCell_alloc_at _ _ _ _ _ (by simp)]
  rfl
theorem bxW_below (w : World) (C : Array Value) (row col hi wi q : Nat) : Below w.heap.size w ((bxW w C row col hi wi).drewN q) :=
  ((((Below.refl _ w).alloc (Nat.le_refl _) _).alloc (by simp) _).alloc (by simp; omega) _).trans (below_drewN _ _ _)

end Go.Proofs.Ytpgcpmfemcfoaaa
