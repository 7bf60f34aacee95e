
/-
  Plans widened: the model's answer and the program's. (Walks.)
-/
import Derived.Test.YtlbdkjhfnjofiaaTurns
import Derived.Test.YtlbdkjhfnjofiaaImplW
namespace Go.Proofs.Ytlbdkjhfnjofiaa
open Go.RowKit

def wideOk (p : List ByteArray) (k : Int) : Bool := planB p && (l6B k 1 3 && doneB (spreadB p k.toNat))
theorem wide_few (p : List ByteArray) (k : Int) : (orNone (wideOk p k) (namesB (spreadB p k.toNat))).length ≤ 1048576 := by
  cases h : wideOk p k
  · rw [orNone_no rfl]; exact Nat.zero_le _
  · unfold wideOk at h
    simp only [Bool.and_eq_true] at h
    have := names_few (spreadB p k.toNat)
    rw [h.2.2] at this
    exact this

theorem ok_of_read {p : List ByteArray} (hr : readOk p = true) : nameDraw p = true := by unfold readOk at hr; rw [Bool.and_eq_true] at hr; exact hr.1
theorem read_dims {p : List ByteArray} (hr : readOk p = true) : p.length ≤ 6 ∧ wideB p ≤ 6 ∧ ∀ i j, gridG p i j ≤ 9 :=
  ⟨(nameDraw_dims (ok_of_read hr)).2.1.2, (nameDraw_dims (ok_of_read hr)).2.2.1.2, gridG_le (ok_of_read hr)⟩

set_option maxHeartbeats 400000 in
theorem implWide_any (ao : Option Addr) (cap : Nat) (p : List ByteArray) (k : Int) (w : World) (hl : p.length ≤ 1048576) (hs : ∀ s ∈ p, s.size ≤ 1048576) (hc : CellsAt w ao (p.map Value.string)) :
    Calls Try.prog 17 #[.slice ao p.length cap, .int .i64 k] w fun e w' => TextsRet w.heap.size (orNone (wideOk p k) (namesB (spreadB p k.toNat))) (wideOk p k) e w' ∧ Below w.heap.size w w' := by
  have hT : wideOk p k = (readOk p && (l6B k 1 3 && drawOk (p.length * k.toNat : Nat) (wideB p * k.toNat : Nat) (fun i j => gridG p (i / k.toNat) (j / k.toNat)))) ∧
      orNone (wideOk p k) (namesB (spreadB p k.toNat)) = orNone (readOk p && (l6B k 1 3 && drawOk (p.length * k.toNat : Nat) (wideB p * k.toNat : Nat) (fun i j => gridG p (i / k.toNat) (j / k.toNat)))) (rowsT (p.length * k.toNat) (wideB p * k.toNat) (renG (p.length * k.toNat) (wideB p * k.toNat) (fun i j => gridG p (i / k.toNat) (j / k.toNat)))) := by
    rw [readOk_eq]
    unfold wideOk
    cases hp : planB p
    · exact ⟨rfl, rfl⟩
    · cases h6 : l6B k 1 3
      · exact ⟨rfl, rfl⟩
      · have hk : 1 ≤ k ∧ k ≤ 3 := by unfold l6B at h6; exact of_decide_eq_true h6
        have hm := spread_math hp (show 1 ≤ k.toNat by omega)
        simp only [Bool.true_and]
        exact hm
  have hP := HeldB.new w 3 #[.int .i64 k]
  have hb0 := below_alloc w (.cells #[.int .i64 k] 3)
  have hc0 := hc.below hb0
  have HR := Lib.hid (redraw_any 56 #[.pointer (some ⟨w.heap.size, 0, none⟩)] (l6B k 1 3 && drawOk (p.length * k.toNat : Nat) (wideB p * k.toNat : Nat) (fun i j => gridG p (i / k.toNat) (j / k.toNat)))
    (ifC (l6B k 1 3) (drawC (p.length * k.toNat : Nat) (wideB p * k.toNat : Nat) (fun i j => gridG p (i / k.toNat) (j / k.toNat)))) (p.length * k.toNat) (wideB p * k.toNat) (markF (p.length * k.toNat) (wideB p * k.toNat) (fun i j => gridG p (i / k.toNat) (j / k.toNat))).length
    (renG (p.length * k.toNat) (wideB p * k.toNat) (fun i j => gridG p (i / k.toNat) (j / k.toNat))) ao cap p (w.alloc (.cells #[.int .i64 k] 3)) hl hs hc0 Try.call56
    (fun hr W hb => by
      have hd := read_dims hr
      have := wideChange_any w.heap.size p.length (wideB p) (gridR p) (gridG p) k W (hP.below hb) hd.1 hd.2.1 (fun i j => Nat.lt_of_le_of_lt (hd.2.2 i j) (by omega))
      rw [← readC_ok hr] at this
      exact this)
    (fun hb => by
      rw [Bool.and_eq_true] at hb
      rw [ifC_yes hb.1]
      exact drawC_ok hb.2))
  rw [hT.1] at *
  rw [hT.2]
  clear hT hP
  generalize (readOk p && (l6B k 1 3 && drawOk (p.length * k.toNat : Nat) (wideB p * k.toNat : Nat) (fun i j => gridG p (i / k.toNat) (j / k.toNat)))) = b at *
  go_enter Try.func17, Try.ntmps17
  go_wp2_with (go_at_call 50; refine (HR.out).mono ?_; rintro e w1 ⟨⟨ro, rc, rfl, hown1⟩, hb1⟩)
  go_ret2
  exact ⟨⟨ro, rc, rfl, ownsRow_base hown1 hb0.size⟩, below_step hb0 hb0.size hb1⟩

end Go.Proofs.Ytlbdkjhfnjofiaa
