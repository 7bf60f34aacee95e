
/-
  Plans below each other: the model's answer and the program's. (Walks.)
-/
import Derived.Test.YtlbdkjhfnjofiaaLaterA
import Derived.Test.YtlbdkjhfnjofiaaBytes
import Derived.Test.YtlbdkjhfnjofiaaImplO
import Derived.Test.YtlbdkjhfnjofiaaWideA
namespace Go.Proofs.Ytlbdkjhfnjofiaa
open Go.RowKit

def underT (p q : List ByteArray) : List ByteArray := rowsT (p.length + q.length) (wideB p) (undM p.length (markN p) (markN q))
def underOk (p q : List ByteArray) : Bool := planB p && (planB q && (decide (wideB p = wideB q) && doneB (underT p q)))

theorem rowsT_append (h h' wd : Nat) (g g2 : Nat → Nat → Nat) : rowsT h wd g ++ rowsT h' wd g2 = rowsT (h + h') wd (fun i j => if i < h then g i j else g2 (i - h) j) := by
  unfold rowsT
  rw [List.range_add, List.map_append, List.map_map]
  congr 1
  · refine List.map_congr_left fun i hi => ?_
    rw [List.mem_range] at hi
    congr 2
    unfold rowT
    exact List.map_congr_left fun j _ => by show _ = UInt8.ofNat (97 + if i < h then g i j else g2 (i - h) j); rw [if_pos hi]
  · refine List.map_congr_left fun i _ => ?_
    show _ = (⟨_⟩ : ByteArray)
    congr 2
    unfold rowT
    exact List.map_congr_left fun j _ => by show _ = UInt8.ofNat (97 + if h + i < h then g (h + i) j else g2 (h + i - h) j); rw [if_neg (by omega), Nat.add_sub_cancel_left]

theorem under_text {p q : List ByteArray} (hp : GridP p) (he : wideB p = wideB q) : p ++ laterB q = underT p q := by
  conv => lhs; rw [text_of hp]
  unfold laterB underT
  rw [← he, rowsT_append]
  rfl

theorem under_math {p q : List ByteArray} (h : planB p = true) (h' : planB q = true) (he : wideB p = wideB q) :
    doneB (underT p q) = drawOk (p.length + q.length : Nat) (wideB p) (undM p.length (gridG p) (gridG q)) ∧
    orNone (doneB (underT p q)) (namesB (underT p q)) = orNone (drawOk (p.length + q.length : Nat) (wideB p) (undM p.length (gridG p) (gridG q))) (rowsT (p.length + q.length) (wideB p) (renG (p.length + q.length) (wideB p) (undM p.length (gridG p) (gridG q)))) := by
  have hp := planP_of h
  have hq := planP_of h'
  have h1 := hp.grid.h1
  refine same_rows (by omega) hp.grid.w1 (fun i j hi hj => ?_) (sameG_of_eq fun i j hi hj => ?_)
  · unfold undM
    split
    · exact markN_lt p i j
    · have := hq.lt (i := i - p.length) (j := j) (by omega) (by omega)
      have := hq.few
      omega
  · unfold undM
    split
    · exact hp.mark i j (by omega) hj
    · rw [hq.mark (i - p.length) j (by omega) (by omega)]

theorem under_few (p q : List ByteArray) : (orNone (underOk p q) (namesB (underT p q))).length ≤ 1048576 := by
  cases h : underOk p q
  · rw [orNone_no rfl]; exact Nat.zero_le _
  · unfold underOk at h
    simp only [Bool.and_eq_true] at h
    have := names_few (underT p q)
    rw [h.2.2.2] at this
    exact this

end Go.Proofs.Ytlbdkjhfnjofiaa
