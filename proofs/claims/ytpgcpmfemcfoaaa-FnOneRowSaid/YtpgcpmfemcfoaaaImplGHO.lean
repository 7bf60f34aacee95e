/-
  Merged texts: ImplG ImplH.
-/
import Derived.Test.YtpgcpmfemcfoaaaNeckO
import Derived.Test.YtpgcpmfemcfoaaaImplFO

/-
  The program draws the plan of a list of texts. (Walks.)
-/
namespace Go.Proofs.Ytpgcpmfemcfoaaa
open Go.RowKit

/-- the mark of a cell: its letter's number -/
def markN (p : List ByteArray) (i j : Nat) : Nat := (((p.getD i ByteArray.empty).data.toList.getD j 0).toNat - 97) % 26
theorem markN_lt (p : List ByteArray) (i j : Nat) : markN p i j < 26 := Nat.mod_lt _ (by omega)

theorem smallB_at {l : List UInt8} (h : smallB l = true) {k : Nat} (hk : k < l.length) : 97 ≤ (l.getD k 0).toNat ∧ (l.getD k 0).toNat ≤ 122 := by
  unfold smallB at h
  rw [List.all_eq_true] at h
  have := h _ (getD_mem (0 : UInt8) hk)
  simpa using this

/-- a text is one of small letters and as long as the first one -/
def nrowB (m : Nat) (s : ByteArray) : Bool := decide (s.size = m) && smallB s.data.toList
def nameOkB (p : List ByteArray) : Bool := decide (1 ≤ p.length) && p.all (nrowB (p.getD 0 ByteArray.empty).size)
def wideB (p : List ByteArray) : Nat := (p.getD 0 ByteArray.empty).size
/-- whether a list of texts comes to a plan, and this plan's cells -/
def nameDraw (p : List ByteArray) : Bool := nameOkB p && drawOk p.length (wideB p) (markN p)
theorem nrowB_ok {m : Nat} {s : ByteArray} (h1 : s.size = m) (h3 : smallB s.data.toList = true) : nrowB m s = true := by unfold nrowB; rw [h3, decide_eq_true h1]; rfl
theorem nrowB_spec {m : Nat} {s : ByteArray} (h : nrowB m s = true) : s.size = m ∧ smallB s.data.toList = true := by
  unfold nrowB at h
  rw [Bool.and_eq_true, decide_eq_true_eq] at h
  exact h

theorem nameOkB_none {p : List ByteArray} (h : ¬ 1 ≤ p.length) : nameOkB p = false := by unfold nameOkB; rw [decide_eq_false h]; rfl
theorem nameOkB_no {p : List ByteArray} {k : Nat} (hk : k < p.length) (h : nrowB (wideB p) (p.getD k ByteArray.empty) = false) : nameOkB p = false := by
  unfold nameOkB
  rw [Bool.and_eq_false_iff]; right
  rw [Bool.eq_false_iff]; intro hh
  rw [List.all_eq_true] at hh
  have := hh _ (getD_mem ByteArray.empty hk)
  unfold wideB at h
  rw [h] at this
  exact Bool.noConfusion this
theorem nameOkB_yes {p : List ByteArray} (h1 : 1 ≤ p.length) (h : ∀ k, k < p.length → nrowB (wideB p) (p.getD k ByteArray.empty) = true) : nameOkB p = true := by
  unfold nameOkB
  rw [decide_eq_true h1, Bool.true_and, List.all_eq_true]
  intro s hs
  obtain ⟨k, hk, rfl⟩ := List.getElem_of_mem hs
  have := h k hk
  simpa [hk, wideB] using this
end Go.Proofs.Ytpgcpmfemcfoaaa

/-
  The program reads a plan. (Walks.)
-/
namespace Go.Proofs.Ytpgcpmfemcfoaaa
open Go.RowKit

/-- the room of each cell of a list of texts -/
def gridG (p : List ByteArray) : Nat → Nat → Nat := renG p.length (wideB p) (markN p)
def gridR (p : List ByteArray) : Nat := (markF p.length (wideB p) (markN p)).length
/-- whether the program takes a list for a plan; its cells -/
def readOk (p : List ByteArray) : Bool := nameDraw p && eqS (rowsT p.length (wideB p) (gridG p)) p
theorem drawOk_dims {h wd : Int} {m : Nat → Nat → Nat} (hd : drawOk h wd m = true) : (1 ≤ h ∧ h ≤ 6) ∧ (1 ≤ wd ∧ wd ≤ 6) ∧ (markF h.toNat wd.toNat m).length ≤ 9 ∧ filledB h.toNat wd.toNat (renG h.toNat wd.toNat m) = true := by
  unfold drawOk l6B at hd
  simp only [Bool.and_eq_true, decide_eq_true_eq] at hd
  exact ⟨hd.1.1.1, hd.1.1.2, hd.1.2, hd.2⟩
theorem nameDraw_dims {p : List ByteArray} (h : nameDraw p = true) : nameOkB p = true ∧ (1 ≤ p.length ∧ p.length ≤ 6) ∧ (1 ≤ wideB p ∧ wideB p ≤ 6) ∧ gridR p ≤ 9 ∧ filledB p.length (wideB p) (gridG p) = true := by
  unfold nameDraw at h
  rw [Bool.and_eq_true] at h
  have := drawOk_dims h.2
  simp only [Int.toNat_natCast] at this
  exact ⟨h.1, by omega, by omega, this.2.2.1, this.2.2.2⟩
theorem renG_le (h wd : Nat) (m : Nat → Nat → Nat) (i j : Nat) : renG h wd m i j ≤ (markF h wd m).length := by
  unfold renG roomG
  split
  · exact List.idxOf_le_length
  · exact Nat.zero_le _
end Go.Proofs.Ytpgcpmfemcfoaaa
