
/-
  Merged texts: ImplT SpecT TightA.
-/
import Derived.Test.YtpgcpmfemcfoaaaImplW
import Derived.Test.YtpgcpmfemcfoaaaTightM
import Derived.Test.YtpgcpmfemcfoaaaBytes
import Derived.Test.YtpgcpmfemcfoaaaArr
import Derived.Test.YtpgcpmfemcfoaaaWideA

/-
  The program leaves out rows and columns that repeat the one ahead of them. (Walks.)
-/
namespace Go.Proofs.Ytpgcpmfemcfoaaa
open Go.RowKit

/-- numbers as the program keeps them -/
def natV (l : List Nat) : List Value := (l.map fun n : Nat => (n : Int)).map (Value.int .i64)

theorem natV_len (l : List Nat) : (natV l).length = l.length := by simp [natV]
theorem natV_snoc (l : List Nat) (n : Nat) : natV (l ++ [n]) = natV l ++ [.int .i64 (n : Int)] := by simp [natV]
theorem Try.infoNum : (Try.prog.info? 3).map (fun i => (i.zero, i.size, i.bytes)) = some (some (.int .i64 0), 1, 8) := by kernel_rfl
theorem Try.sizeSix : (Try.prog.info? 44).map (·.size) = some 6 := by kernel_rfl

theorem six_range {wr : World} {B h wd r : Nat} {g : Nat → Nat → Nat} (hP : HeldB wr B 47 (planC h wd r g)) {k : Nat} (hk : k < 6) : ∀ w', (∃ n, w' = wr.drewN n) → w'.rangeAt B (3 + k * 6) (six fun j => (g k j : Nat)) := by
  rintro _ ⟨n, rfl⟩ j v hv
  have hj : j < 6 := by
    rcases Nat.lt_or_ge j 6 with h' | h'
    · exact h'
    · unfold six at hv
      rw [List.getElem?_eq_none (by simpa using h')] at hv
      cases hv
  have hv2 : v = .int .i64 (g k j : Nat) := by
    unfold six at hv
    simp [hj] at hv
    exact hv.symm
  rw [hv2]
  exact (hP.cell _).trans (planC_at _ _ _ _ k j hk hj)

theorem six_sr (g : Nat → Nat → Nat) (k d : Nat) (h : d = k - 1) : sixB (fun j => (g k j : Nat)) (fun j => (g d j : Nat)) = srG g k := by
  subst h
  unfold sixB srG
  congr 1
  funext j
  rw [Bool.eq_iff_iff]
  simp
  omega

/-- what lies in the program's memory while rows and columns are told apart -/
structure TightSt (w wr : World) (C : Array Value) (ro : Option Addr) (rc : Nat) (LR : List Nat) (co : Option Addr) (cc : Nat) (LC : List Nat) : Prop where
  plan : HeldB wr w.heap.size 47 C
  zero : HeldB wr (w.heap.size + 1) 47 zeroC
  rcell : HeldB wr (w.heap.size + 1 + 1) 32 #[.slice ro LR.length rc]
  ccell : HeldB wr (w.heap.size + 1 + 1 + 1) 32 #[.slice co LC.length cc]
  rows : wr.ownsRow (w.heap.size + 4) 3 1 (.slice ro LR.length rc) LR.length (natV LR)
  cols : wr.ownsRow (w.heap.size + 4) 3 1 (.slice co LC.length cc) LC.length (natV LC)
  apart : Apart ro co
  below : Below w.heap.size w wr
  size : w.heap.size + 4 ≤ wr.heap.size

theorem TightSt.step {w wr w2 : World} {C : Array Value} {ro : Option Addr} {rc : Nat} {LR : List Nat} {co : Option Addr} {cc : Nat} {LC : List Nat} (h : TightSt w wr C ro rc LR co cc LC) (hb : Below wr.heap.size wr w2) : TightSt w w2 C ro rc LR co cc LC :=
  ⟨h.plan.below hb, h.zero.below hb, h.rcell.below hb, h.ccell.below hb, ownsRow_below h.rows hb, ownsRow_below h.cols hb, h.apart, below_step h.below h.below.size hb, Nat.le_trans h.size hb.size⟩
theorem TightSt.drewN {w wr : World} {C : Array Value} {ro : Option Addr} {rc : Nat} {LR : List Nat} {co : Option Addr} {cc : Nat} {LC : List Nat} (h : TightSt w wr C ro rc LR co cc LC) (n : Nat) : TightSt w (wr.drewN n) C ro rc LR co cc LC :=
  h.step (below_drewN _ _ _)

theorem heldB_low {w w2 : World} {N B : Nat} {t : TypeId} {cs : Array Value} (h : HeldB w B t cs) (hb : Below N w w2) (hB : B < N) : HeldB w2 B t cs := (hb.block B hB).trans h

/-- behind an append to the rows -/
theorem TightSt.pushR {w wr w2 : World} {C : Array Value} {ro : Option Addr} {rc : Nat} {LR : List Nat} {co : Option Addr} {cc : Nat} {LC : List Nat} (h : TightSt w wr C ro rc LR co cc LC) {o : Obj} {ro2 : Option Addr} {rc2 i : Nat}
    (hown : w2.ownsRow (w.heap.size + 4) 3 1 (.slice ro2 (LR.length + 1) rc2) (LR.length + 1) (natV LR ++ [.int .i64 (i : Int)])) (hg : (wr.alloc o).grownBy w2 (Value.ownBlock (.slice ro LR.length rc))) (hn : NewOr (wr.alloc o) ro ro2) :
    TightSt w (w2.setCell ⟨w.heap.size + 1 + 1, 0, none⟩ (.slice ro2 (LR.length + 1) rc2)) C ro2 rc2 (LR ++ [i]) co cc LC := by
  have hb4 : Below (w.heap.size + 4) wr w2 := below_push (Below.refl _ wr) h.size hg (fun a ha => (owns_lt h.rows a ha).1)
  have hlen : (LR ++ [i]).length = LR.length + 1 := by simp
  have hcols : w2.ownsRow (w.heap.size + 4) 3 1 (.slice co LC.length cc) LC.length (natV LC) := owns_push_other h.cols hg h.apart.symm
  refine ⟨?_, ?_, ?_, ?_, ?_, ?_, ?_, ?_, ?_⟩
  · exact (heldB_low h.plan hb4 (by omega)).other (by first | (simp; done) | (simp; omega)) _
  · exact (heldB_low h.zero hb4 (by omega)).other (by simp) _
  · rw [hlen]; exact (heldB_low h.rcell hb4 (by omega)).set1 _
  · exact (heldB_low h.ccell hb4 (by omega)).other (by simp) _
  · rw [hlen, natV_snoc]; exact ownsRow_setCell_below hown (by first | (simp; done) | (simp; omega)) _
  · exact ownsRow_setCell_below hcols (by first | (simp; done) | (simp; omega)) _
  · exact apart_push h.apart hn (fun b hb => (owns_lt h.cols b hb).2)
  · exact (h.below.trans (hb4.mono (by omega))).setCell (by first | (simp; done) | (simp; omega)) _
  · have := hb4.size; have := h.size; show w.heap.size + 4 ≤ (w2.setCell _ _).heap.size; simp; omega
theorem TightSt.pushC {w wr w2 : World} {C : Array Value} {ro : Option Addr} {rc : Nat} {LR : List Nat} {co : Option Addr} {cc : Nat} {LC : List Nat} (h : TightSt w wr C ro rc LR co cc LC) {o : Obj} {co2 : Option Addr} {cc2 i : Nat}
    (hown : w2.ownsRow (w.heap.size + 4) 3 1 (.slice co2 (LC.length + 1) cc2) (LC.length + 1) (natV LC ++ [.int .i64 (i : Int)])) (hg : (wr.alloc o).grownBy w2 (Value.ownBlock (.slice co LC.length cc))) (hn : NewOr (wr.alloc o) co co2) :
    TightSt w (w2.setCell ⟨w.heap.size + 1 + 1 + 1, 0, none⟩ (.slice co2 (LC.length + 1) cc2)) C ro rc LR co2 cc2 (LC ++ [i]) := by
  have hb4 : Below (w.heap.size + 4) wr w2 := below_push (Below.refl _ wr) h.size hg (fun a ha => (owns_lt h.cols a ha).1)
  have hlen : (LC ++ [i]).length = LC.length + 1 := by simp
  have hrows : w2.ownsRow (w.heap.size + 4) 3 1 (.slice ro LR.length rc) LR.length (natV LR) := owns_push_other h.rows hg h.apart
  refine ⟨?_, ?_, ?_, ?_, ?_, ?_, ?_, ?_, ?_⟩
  · exact (heldB_low h.plan hb4 (by omega)).other (by first | (simp; done) | (simp; omega)) _
  · exact (heldB_low h.zero hb4 (by omega)).other (by simp) _
  · exact (heldB_low h.rcell hb4 (by omega)).other (by simp) _
  · rw [hlen]; exact (heldB_low h.ccell hb4 (by omega)).set1 _
  · exact ownsRow_setCell_below hrows (by first | (simp; done) | (simp; omega)) _
  · rw [hlen, natV_snoc]; exact ownsRow_setCell_below hown (by first | (simp; done) | (simp; omega)) _
  · exact (apart_push h.apart.symm hn (fun b hb => (owns_lt h.rows b hb).2)).symm
  · exact (h.below.trans (hb4.mono (by omega))).setCell (by first | (simp; done) | (simp; omega)) _
  · have := hb4.size; have := h.size; show w.heap.size + 4 ≤ (w2.setCell _ _).heap.size; simp; omega

end Go.Proofs.Ytpgcpmfemcfoaaa

/-
  The model leaves out rows, and then columns. (Walks.)
-/
namespace Go.Proofs.Ytpgcpmfemcfoaaa
open Go.RowKit

def onceT (p : List ByteArray) (i : Nat) : List ByteArray := (keepL (sameB p) i).map fun i => p.getD i ByteArray.empty
theorem onceT_len (p : List ByteArray) (i : Nat) : (onceT p i).length = (keepL (sameB p) i).length := by simp [onceT]
theorem onceT_yes {p : List ByteArray} {i : Nat} (h : (i == 0 || !sameB p i) = true) : (onceT p (i + 1)).map Value.string = (onceT p i).map Value.string ++ [.string (p.getD i ByteArray.empty)] := by
  unfold onceT; rw [keepL_yes h]; simp
theorem onceT_no {p : List ByteArray} {i : Nat} (h : (i == 0 || !sameB p i) = false) : onceT p (i + 1) = onceT p i := by
  unfold onceT; rw [keepL_no h]

theorem onceB_even {p : List ByteArray} (he : Even p) (h1 : 1 ≤ p.length) : Even (onceB p) ∧ wideB (onceB p) = wideB p := by
  have hpos := keepL_pos (sameB p) h1
  have hat : ∀ i, i < (onceB p).length → (onceB p).getD i ByteArray.empty = p.getD (nthK (sameB p) p.length i) ByteArray.empty := fun i hi => by
    rw [← onceB_at hi]; simp [hi]
  have h0 : 0 < (onceB p).length := by rw [onceB_len]; omega
  have hw : wideB (onceB p) = wideB p := by
    show ((onceB p).getD 0 ByteArray.empty).size = wideB p
    rw [hat 0 h0]
    exact he _ (nthK_lt (by rw [onceB_len] at h0; exact h0))
  refine ⟨fun i hi => ?_, hw⟩
  rw [hw, hat i hi]
  exact he _ (nthK_lt (by rw [onceB_len] at hi; exact hi))

end Go.Proofs.Ytpgcpmfemcfoaaa

/-
  Plans made tight: the program's answer. (Walk.)
-/
namespace Go.Proofs.Ytpgcpmfemcfoaaa
open Go.RowKit

theorem tight_few (p : List ByteArray) : (orNone (planB p) (tightB p)).length ≤ 1048576 := by
  cases h : planB p
  · rw [orNone_no rfl]; exact Nat.zero_le _
  · rw [orNone_yes rfl, (tight_math h).2, rowsT_len]
    have := keepL_le (srG (gridG p)) p.length
    have := (planP_of h).grid.h6
    omega

end Go.Proofs.Ytpgcpmfemcfoaaa
