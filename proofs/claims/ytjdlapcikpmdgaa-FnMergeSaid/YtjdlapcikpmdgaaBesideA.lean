
/-
  Merged texts: LaterA ImplO UnderA BesideA.
-/
import Derived.Test.YtjdlapcikpmdgaaTurns
import Derived.Test.YtjdlapcikpmdgaaImplW
import Derived.Test.YtjdlapcikpmdgaaBytes
import Derived.Test.YtjdlapcikpmdgaaWideA
import Derived.Deep.RegionHeld3
import Derived.Deep.AppendLies

/-
  The model calls rooms by letters further on. (Walk.)
-/
namespace Go.Proofs.Ytjdlapcikpmdgaa
open Go.RowKit

/-- texts whose rooms are called by letters nine further on -/
def laterB (p : List ByteArray) : List ByteArray := rowsT p.length (wideB p) (fun i j => 9 + markN p i j)

end Go.Proofs.Ytjdlapcikpmdgaa

/-
  The program puts two plans together. (Walks.)
-/
namespace Go.Proofs.Ytjdlapcikpmdgaa
open Go.RowKit

/-- marks of two plans beside each other -/
def besM (wd : Nat) (g g' : Nat → Nat → Nat) (i j : Nat) : Nat := if j < wd then g i j else 9 + g' i (j - wd)
/-- marks of two plans below each other -/
def undM (h : Nat) (g g' : Nat → Nat → Nat) (i j : Nat) : Nat := if i < h then g i j else 9 + g' (i - h) j

end Go.Proofs.Ytjdlapcikpmdgaa

/-
  Plans below each other: the model's answer and the program's. (Walks.)
-/
namespace Go.Proofs.Ytjdlapcikpmdgaa
open Go.RowKit

def underT (p q : List ByteArray) : List ByteArray := rowsT (p.length + q.length) (wideB p) (undM p.length (markN p) (markN q))
def underOk (p q : List ByteArray) : Bool := planB p && (planB q && (decide (wideB p = wideB q) && doneB (underT p q)))

theorem rowsT_append (h h' wd : Nat) (g g2 : Nat → Nat → Nat) : rowsT h wd g ++ rowsT h' wd g2 = rowsT (h + h') wd (fun i j => if i < h then g i j else g2 (i - h) j) := by
  unfold rowsT
  rw [List.range_add, List.map_append, List.map_map]
  congr 1
  · refine List.map_congr_left fun i hi => ?_
    rw [List.mem_range] at hi
    congr 2
    unfold rowT
    exact List.map_congr_left fun j _ => by show _ = UInt8.ofNat (97 + if i < h then g i j else g2 (i - h) j); rw [if_pos hi]
  · refine List.map_congr_left fun i _ => ?_
    show _ = (⟨_⟩ : ByteArray)
    congr 2
    unfold rowT
    exact List.map_congr_left fun j _ => by show _ = UInt8.ofNat (97 + if h + i < h then g (h + i) j else g2 (h + i - h) j); rw [if_neg (by omega), Nat.add_sub_cancel_left]

theorem under_text {p q : List ByteArray} (hp : GridP p) (he : wideB p = wideB q) : p ++ laterB q = underT p q := by
  conv => lhs; rw [text_of hp]
  unfold laterB underT
  rw [← he, rowsT_append]
  rfl

theorem under_math {p q : List ByteArray} (h : planB p = true) (h' : planB q = true) (he : wideB p = wideB q) :
    doneB (underT p q) = drawOk (p.length + q.length : Nat) (wideB p) (undM p.length (gridG p) (gridG q)) ∧
    orNone (doneB (underT p q)) (namesB (underT p q)) = orNone (drawOk (p.length + q.length : Nat) (wideB p) (undM p.length (gridG p) (gridG q))) (rowsT (p.length + q.length) (wideB p) (renG (p.length + q.length) (wideB p) (undM p.length (gridG p) (gridG q)))) := by
  have hp := planP_of h
  have hq := planP_of h'
  have h1 := hp.grid.h1
  refine same_rows (by omega) hp.grid.w1 (fun i j hi hj => ?_) (sameG_of_eq fun i j hi hj => ?_)
  · unfold undM
    split
    · exact markN_lt p i j
    · have := hq.lt (i := i - p.length) (j := j) (by omega) (by omega)
      have := hq.few
      omega
  · unfold undM
    split
    · exact hp.mark i j (by omega) hj
    · rw [hq.mark (i - p.length) j (by omega) (by omega)]

theorem under_few (p q : List ByteArray) : (orNone (underOk p q) (namesB (underT p q))).length ≤ 1048576 := by
  cases h : underOk p q
  · rw [orNone_no rfl]; exact Nat.zero_le _
  · unfold underOk at h
    simp only [Bool.and_eq_true] at h
    have := names_few (underT p q)
    rw [h.2.2.2] at this
    exact this

end Go.Proofs.Ytjdlapcikpmdgaa

/-
  Plans beside each other: the model's answer and the program's. (Walks.)
-/
namespace Go.Proofs.Ytjdlapcikpmdgaa
open Go.RowKit

def besideT (p q : List ByteArray) : List ByteArray := rowsT p.length (wideB p + wideB q) (besM (wideB p) (markN p) (markN q))
def besideOk (p q : List ByteArray) : Bool := planB p && (planB q && (decide (p.length = q.length) && doneB (besideT p q)))

theorem rowT_append (wd wd' i : Nat) (g g2 : Nat → Nat → Nat) : rowT wd g i ++ rowT wd' g2 i = rowT (wd + wd') (fun i j => if j < wd then g i j else g2 i (j - wd)) i := by
  unfold rowT
  rw [List.range_add, List.map_append, List.map_map]
  congr 1
  · refine List.map_congr_left fun j hj => ?_
    rw [List.mem_range] at hj
    show _ = UInt8.ofNat (97 + if j < wd then g i j else g2 i (j - wd))
    rw [if_pos hj]
  · refine List.map_congr_left fun j _ => ?_
    show _ = UInt8.ofNat (97 + if wd + j < wd then g i (wd + j) else g2 i (wd + j - wd))
    rw [if_neg (by omega), Nat.add_sub_cancel_left]
theorem beside_math {p q : List ByteArray} (h : planB p = true) (h' : planB q = true) (he : p.length = q.length) :
    doneB (besideT p q) = drawOk p.length (wideB p + wideB q : Nat) (besM (wideB p) (gridG p) (gridG q)) ∧
    orNone (doneB (besideT p q)) (namesB (besideT p q)) = orNone (drawOk p.length (wideB p + wideB q : Nat) (besM (wideB p) (gridG p) (gridG q))) (rowsT p.length (wideB p + wideB q) (renG p.length (wideB p + wideB q) (besM (wideB p) (gridG p) (gridG q)))) := by
  have hp := planP_of h
  have hq := planP_of h'
  have h1 := hp.grid.w1
  refine same_rows hp.grid.h1 (by omega) (fun i j hi hj => ?_) (sameG_of_eq fun i j hi hj => ?_)
  · unfold besM
    split
    · exact markN_lt p i j
    · have := hq.lt (i := i) (j := j - wideB p) (by omega) (by omega)
      have := hq.few
      omega
  · unfold besM
    split
    · exact hp.mark i j hi (by omega)
    · rw [hq.mark i (j - wideB p) (by omega) (by omega)]

theorem beside_few (p q : List ByteArray) : (orNone (besideOk p q) (namesB (besideT p q))).length ≤ 1048576 := by
  cases h : besideOk p q
  · rw [orNone_no rfl]; exact Nat.zero_le _
  · unfold besideOk at h
    simp only [Bool.and_eq_true] at h
    have := names_few (besideT p q)
    rw [h.2.2.2] at this
    exact this

end Go.Proofs.Ytjdlapcikpmdgaa
