
/-
  Plans beside each other: the model's answer and the program's. (Walks.)
-/
import Derived.Test.YtlbdkjhfnjofiaaUnderA
import Derived.Deep.RegionHeld3
import Derived.Deep.AppendLies
namespace Go.Proofs.Ytlbdkjhfnjofiaa
open Go.RowKit

def besideT (p q : List ByteArray) : List ByteArray := rowsT p.length (wideB p + wideB q) (besM (wideB p) (markN p) (markN q))
def besideOk (p q : List ByteArray) : Bool := planB p && (planB q && (decide (p.length = q.length) && doneB (besideT p q)))

theorem rowT_append (wd wd' i : Nat) (g g2 : Nat → Nat → Nat) : rowT wd g i ++ rowT wd' g2 i = rowT (wd + wd') (fun i j => if j < wd then g i j else g2 i (j - wd)) i := by
  unfold rowT
  rw [List.range_add, List.map_append, List.map_map]
  congr 1
  · refine List.map_congr_left fun j hj => ?_
    rw [List.mem_range] at hj
    show _ = UInt8.ofNat (97 + if j < wd then g i j else g2 i (j - wd))
    rw [if_pos hj]
  · refine List.map_congr_left fun j _ => ?_
    show _ = UInt8.ofNat (97 + if wd + j < wd then g i (wd + j) else g2 i (wd + j - wd))
    rw [if_neg (by omega), Nat.add_sub_cancel_left]
theorem beside_math {p q : List ByteArray} (h : planB p = true) (h' : planB q = true) (he : p.length = q.length) :
    doneB (besideT p q) = drawOk p.length (wideB p + wideB q : Nat) (besM (wideB p) (gridG p) (gridG q)) ∧
    orNone (doneB (besideT p q)) (namesB (besideT p q)) = orNone (drawOk p.length (wideB p + wideB q : Nat) (besM (wideB p) (gridG p) (gridG q))) (rowsT p.length (wideB p + wideB q) (renG p.length (wideB p + wideB q) (besM (wideB p) (gridG p) (gridG q)))) := by
  have hp := planP_of h
  have hq := planP_of h'
  have h1 := hp.grid.w1
  refine same_rows hp.grid.h1 (by omega) (fun i j hi hj => ?_) (sameG_of_eq fun i j hi hj => ?_)
  · unfold besM
    split
    · exact markN_lt p i j
    · have := hq.lt (i := i) (j := j - wideB p) (by omega) (by omega)
      have := hq.few
      omega
  · unfold besM
    split
    · exact hp.mark i j hi (by omega)
    · rw [hq.mark i (j - wideB p) (by omega) (by omega)]

theorem beside_few (p q : List ByteArray) : (orNone (besideOk p q) (namesB (besideT p q))).length ≤ 1048576 := by
  cases h : besideOk p q
  · rw [orNone_no rfl]; exact Nat.zero_le _
  · unfold besideOk at h
    simp only [Bool.and_eq_true] at h
    have := names_few (besideT p q)
    rw [h.2.2.2] at this
    exact this

end Go.Proofs.Ytlbdkjhfnjofiaa
