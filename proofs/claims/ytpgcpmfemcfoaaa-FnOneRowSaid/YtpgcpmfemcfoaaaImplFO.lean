/-
  The program draws a plan out of marks. (Walk.)
-/
import Derived.Test.YtpgcpmfemcfoaaaImplDEO
import Derived.Test.YtpgcpmfemcfoaaaSpecAO

namespace Go.Proofs.Ytpgcpmfemcfoaaa
open Go.RowKit

/-- the marks of a grid, row by row -/
def markL (wd : Nat) (m : Nat → Nat → Nat) (t : Nat) : List Nat := (List.range t).map fun k => m (k / wd) (k % wd)
def markF (h wd : Nat) (m : Nat → Nat → Nat) : List Nat := firsts (markL wd m (h * wd))
/-- the room of each cell, once t cells are over -/
def roomG (h wd : Nat) (m : Nat → Nat → Nat) (t : Nat) (i j : Nat) : Nat := if i < h ∧ j < wd ∧ i * wd + j < t then (markF h wd m).idxOf (m i j) else 0
def renG (h wd : Nat) (m : Nat → Nat → Nat) : Nat → Nat → Nat := roomG h wd m (h * wd)

def drawOk (h wd : Int) (m : Nat → Nat → Nat) : Bool :=
  l6B h 1 6 && l6B wd 1 6 && decide ((markF h.toNat wd.toNat m).length ≤ 9) && filledB h.toNat wd.toNat (renG h.toNat wd.toNat m)
/-- one more than the number of a mark; 0 is none yet -/
def nameN (o : List Nat) (v : Nat) : Nat := if v ∈ o then o.idxOf v + 1 else 0
def namesC (o : List Nat) : Array Value := ((List.range 26).map fun v => Value.int .i64 ((nameN o v : Nat) : Int)).toArray
/-- the world in which t cells are drawn -/
def DrawSt (w : World) (h wd : Nat) (m : Nat → Nat → Nat) (t : Nat) (wr : World) : Prop :=
  HeldB wr w.heap.size 47 zeroC ∧ HeldB wr (w.heap.size + 1) 47 (planC h wd (firsts (markL wd m t)).length (roomG h wd m t)) ∧
  HeldB wr (w.heap.size + 1 + 1) 158 (namesC (firsts (markL wd m t))) ∧ Below w.heap.size w wr

theorem DrawSt.below {w : World} {h wd : Nat} {m : Nat → Nat → Nat} {t : Nat} {wr w1 : World} (hd : DrawSt w h wd m t wr) (hb : Below wr.heap.size wr w1) : DrawSt w h wd m t w1 :=
  ⟨hd.1.below hb, hd.2.1.below hb, hd.2.2.1.below hb, below_step hd.2.2.2 hd.2.2.2.size hb⟩

theorem DrawSt.drew {w : World} {h wd : Nat} {m : Nat → Nat → Nat} {t : Nat} {wr : World} (hd : DrawSt w h wd m t wr) : DrawSt w h wd m t wr.drew :=
  ⟨hd.1.drew, hd.2.1.drew, hd.2.2.1.drew, hd.2.2.2.drew⟩

theorem markL_succ (wd : Nat) (m : Nat → Nat → Nat) (i j : Nat) (hj : j < wd) : markL wd m (i * wd + j + 1) = markL wd m (i * wd + j) ++ [m i j] := by
  obtain ⟨h1, h2⟩ := cell_div i j wd hj
  unfold markL
  rw [List.range_succ, List.map_append, List.map_singleton, h1, h2]

theorem markL_prefix (wd : Nat) (m : Nat → Nat → Nat) (t u : Nat) : ∃ R, markL wd m (t + u) = markL wd m t ++ R := by
  induction u with
  | zero => exact ⟨[], by simp⟩
  | succ u ih =>
    obtain ⟨R, hR⟩ := ih
    refine ⟨R ++ [m ((t + u) / wd) ((t + u) % wd)], ?_⟩
    rw [← Nat.add_assoc]
    unfold markL at *
    rw [List.range_succ, List.map_append, hR, List.append_assoc]
    rfl

/-- the number of a mark among all is told by the marks ahead of it -/
theorem markF_idx (h wd : Nat) (m : Nat → Nat → Nat) (i j : Nat) (hi : i < h) (hj : j < wd) : (markF h wd m).idxOf (m i j) = (firsts (markL wd m (i * wd + j))).idxOf (m i j) := by
  have hle : i * wd + j + 1 ≤ h * wd := by
    have : i * wd + wd ≤ h * wd := by rw [← Nat.succ_mul]; exact Nat.mul_le_mul_right _ hi
    omega
  obtain ⟨R, hR⟩ := markL_prefix wd m (i * wd + j + 1) (h * wd - (i * wd + j + 1))
  unfold markF
  rw [show h * wd = i * wd + j + 1 + (h * wd - (i * wd + j + 1)) from by omega, hR, markL_succ wd m i j hj, List.append_assoc, List.singleton_append, name_at]

end Go.Proofs.Ytpgcpmfemcfoaaa
