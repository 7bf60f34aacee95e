
/-
  Merged texts: AreasS AreasI AreasA SumM.
-/
import Derived.Test.YtcndlfkmmgdpaaaNums
import Derived.Test.YtcndlfkmmgdpaaaRoomA
import Derived.Test.YtcndlfkmmgdpaaaTightS
import Derived.Test.YtcndlfkmmgdpaaaImplK
import Derived.Test.YtcndlfkmmgdpaaaFence
import Derived.Test.YtcndlfkmmgdpaaaWideA
import Derived.Test.YtcndlfkmmgdpaaaRoomsA
import Derived.RangeFuncBox
import Derived.BigQuiet

/-
  The numbers of cells of rooms: the model's answer. (Walk.)
-/
namespace Go.Proofs.Ytcndlfkmmgdpaaa
open Go.RowKit

/-- the numbers of cells of so many rooms -/
def areasL (p : List ByteArray) (n : Nat) : List Int := (List.range n).map fun r : Nat => cellsB p (r : Int)
def areasOr (p : List ByteArray) : List Int := if planB p then areasL p (roomsB p).toNat else []
theorem areasOr_yes {p : List ByteArray} (h : planB p = true) : areasOr p = areasL p (roomsB p).toNat := by unfold areasOr; rw [h]; rfl
theorem areasOr_no {p : List ByteArray} (h : planB p = false) : areasOr p = [] := by unfold areasOr; rw [h]; rfl
theorem areasL_len (p : List ByteArray) (n : Nat) : (areasL p n).length = n := by simp [areasL]
theorem areasL_succ (p : List ByteArray) (n : Nat) : (areasL p (n + 1)).map (Value.int .i64) = (areasL p n).map (Value.int .i64) ++ [.int .i64 (cellsB p (n : Int))] := by simp [areasL, List.range_succ]

end Go.Proofs.Ytcndlfkmmgdpaaa

/-
  The numbers of cells of rooms: the program's answer. (Walk inside a fence.)
-/
namespace Go.Proofs.Ytcndlfkmmgdpaaa
open Go.RowKit Go.Shelf

attribute [local go_sem] Oper.semAt_some

/-- the areas of boxes -/
def areaL (L : List Bx) : List Int := L.map fun x => ((x.high * x.wide : Nat) : Int)
def areaV (L : List Bx) : List Value := (areaL L).map (Value.int .i64)
theorem areaV_snoc (L : List Bx) (x : Bx) : areaV (L ++ [x]) = areaV L ++ [.int .i64 ((x.high * x.wide : Nat) : Int)] := by simp [areaV, areaL]
theorem areaL_len (L : List Bx) : (areaL L).length = L.length := by simp [areaL]

theorem heldB_not_row {W : World} {B : Nat} {t e : TypeId} {cs : Array Value} (h : HeldB W B t cs) (hte : t ≠ e) {base size k : Nat} {v : Value} {xs : List Value} (hr : W.ownsRow base e size v k xs) : some B ≠ v.ownBlock := by
  rcases hr.2 with ⟨rfl, _⟩ | ⟨g, cap, cur, rfl, _, hgb, _⟩
  · simp [Value.ownBlock]
  · intro e'
    obtain rfl : B = g := by simpa [Value.ownBlock] using e'
    have := (show W.heap[B]? = _ from h).symm.trans hgb
    simp at this
    exact hte this.2

end Go.Proofs.Ytcndlfkmmgdpaaa

/-
  The numbers of cells of rooms: the program's answer is the model's. (Walk inside a fence.)
-/
namespace Go.Proofs.Ytcndlfkmmgdpaaa
open Go.RowKit Go.Shelf

attribute [local go_sem] Oper.semAt_some

theorem areas_math {p : List ByteArray} (h : planB p = true) : areasOr p = areaL (scanB p.length (wideB p) (gridG p) (p.length * wideB p)) := by
  have hp := planP_of h
  obtain ⟨hlen, hbox⟩ := hp.boxes
  rw [areasOr_yes h, hp.rooms, Int.toNat_natCast]
  generalize scanB p.length (wideB p) (gridG p) (p.length * wideB p) = L at *
  apply List.ext_getElem
  · rw [areasL_len, areaL_len, hlen]
  · intro r h1 h2
    rw [areasL_len] at h1
    rw [areaL_len] at h2
    obtain ⟨x, hL, hx⟩ := hbox r h1
    have he : L[r] = x := by rw [List.getElem?_eq_getElem h2] at hL; exact Option.some.inj hL
    have e1 : (areasL p (gridR p))[r]'(by rw [areasL_len]; exact h1) = cellsB p (r : Int) := by simp [areasL]
    have e2 : (areaL L)[r]'(by rw [areaL_len]; exact h2) = ((L[r].high * L[r].wide : Nat) : Int) := by simp [areaL]
    rw [e1, e2, he]
    exact cellsB_box hp hx

theorem areas_few (p : List ByteArray) : (areasOr p).length ≤ 1048576 := by
  cases hp : planB p
  · rw [areasOr_no hp]; exact Nat.zero_le _
  · rw [areas_math hp, areaL_len]
    have := scanB_len p.length (wideB p) (gridG p) (p.length * wideB p)
    have hg := (planP_of hp).grid
    have := Nat.mul_le_mul hg.h6 hg.w6
    omega

end Go.Proofs.Ytcndlfkmmgdpaaa

/-
  Areas fill the plan; a list of numbers is added up. (Mathematics and a walk.)
-/
namespace Go.Proofs.Ytcndlfkmmgdpaaa
open Go.RowKit

theorem sum_range (f : Nat → Nat) : ∀ n, ((List.range n).map fun r => ((f r : Nat) : Int)).sum = ((sumN n f : Nat) : Int)
  | 0 => rfl
  | n + 1 => by rw [List.range_succ, List.map_append, List.sum_append, sum_range f n]; simp [sumN]
theorem cnt_total {h wd R : Nat} {m : Nat → Nat → Nat} (hm : ∀ i j, i < h → j < wd → m i j < R) : sumN R (fun r => cntG h wd (fun i j => m i j == r)) = h * wd := by
  unfold cntG
  rw [sumN_comm]
  rw [sumN_congr (g := fun _ => wd) fun i hi => ?_, sumN_const]
  rw [sumN_comm]
  rw [sumN_congr (g := fun _ => 1) fun j hj => ?_, sumN_const, Nat.mul_one]
  refine (sumN_congr fun r _ => ?_).trans (sumN_pick R (m i j) (hm i j hi hj))
  by_cases he : m i j = r
  · rw [if_pos he, if_pos (by simp [he])]
  · rw [if_neg he, if_neg (by simp [he])]
theorem areas_cnt {p : List ByteArray} (h : planB p = true) : areasOr p = (List.range (gridR p)).map fun r => ((cntG p.length (wideB p) (fun i j => markN p i j == r) : Nat) : Int) := by
  have hP := planP_of h
  rw [areasOr_yes h, hP.rooms, Int.toNat_natCast]
  unfold areasL
  exact List.map_congr_left fun r _ => cellsB_eq hP.grid r
theorem areas_sum {p : List ByteArray} (h : planB p = true) : (areasOr p).sum = ((p.length * wideB p : Nat) : Int) := by
  rw [areas_cnt h, sum_range, cnt_total fun i j hi hj => (planP_of h).lt hi hj]
theorem areas_len {p : List ByteArray} (h : planB p = true) : ((areasOr p).length : Int) = roomsOr p ∧ 1 ≤ roomsOr p ∧ (areasOr p).length ≤ 9 := by
  have hP := planP_of h
  have h1 := hP.grid.h1; have w1 := hP.grid.w1
  have := gridG_lt (p := p) (i := 0) (j := 0) (by omega) (by omega)
  have := hP.few
  rw [roomsOr_yes h, areasOr_yes h, areasL_len, hP.rooms, Int.toNat_natCast]
  omega
theorem areas_bound {p : List ByteArray} (h : planB p = true) : ∀ x ∈ areasOr p, 1 ≤ x ∧ x ≤ 36 := fun x hx => by
  have hP := planP_of h
  have := hP.grid.h6; have := hP.grid.w6
  rw [areas_math h] at hx
  obtain ⟨hlen, hbox⟩ := hP.boxes
  unfold areaL at hx
  rw [List.mem_map] at hx
  obtain ⟨b, hb, rfl⟩ := hx
  obtain ⟨k, hk, rfl⟩ := List.mem_iff_getElem.1 hb
  obtain ⟨y, hy, hbx⟩ := hbox k (by omega)
  rw [List.getElem?_eq_getElem hk] at hy
  obtain rfl := Option.some.inj hy
  obtain ⟨_, a1, a2, a3, a4, _⟩ := hbx
  have e1 : 1 * 1 ≤ _ * _ := Nat.mul_le_mul a1 a2
  have e2 : _ * _ ≤ 6 * 6 := Nat.mul_le_mul (show ((scanB p.length (wideB p) (gridG p) (p.length * wideB p))[k]).high ≤ 6 by omega) (show ((scanB p.length (wideB p) (gridG p) (p.length * wideB p))[k]).wide ≤ 6 by omega)
  omega

theorem sum_take {l : List Int} {i : Nat} (hi : i < l.length) : (l.take (i + 1)).sum = (l.take i).sum + l.getD i 0 := by
  rw [take_succ_getD l i 0 hi, List.sum_append]; simp
theorem sum_bound {l : List Int} (hl : ∀ x ∈ l, 0 ≤ x ∧ x ≤ 100) : ∀ i, 0 ≤ (l.take i).sum ∧ (l.take i).sum ≤ 100 * (i : Int)
  | 0 => by simp
  | i + 1 => by
    have ih := sum_bound hl i
    by_cases hi : i < l.length
    · have := hl _ (getD_mem 0 hi)
      rw [sum_take hi]; omega
    · rw [List.take_of_length_le (show l.length ≤ i + 1 by omega)]
      rw [List.take_of_length_le (show l.length ≤ i by omega)] at ih
      omega

end Go.Proofs.Ytcndlfkmmgdpaaa
