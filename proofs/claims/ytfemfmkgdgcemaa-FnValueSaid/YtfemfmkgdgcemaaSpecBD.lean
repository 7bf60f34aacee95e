
/-
  Merged texts: SpecB SpecC SpecD.
-/
import Derived.Test.YtfemfmkgdgcemaaSpecA
import Derived.Test.YtfemfmkgdgcemaaPlanM
import Derived.Test.YtfemfmkgdgcemaaLawA

/-
  The model's letters given anew. (Walk.)
-/
namespace Go.Proofs.Ytfemfmkgdgcemaa
open Go.RowKit

theorem Try.infoByte : (Try.prog.info? 5).map (fun i => (i.zero, i.size, i.bytes)) = some (some (.int .u8 0), 1, 1) := by kernel_rfl
theorem Try.infoText : (Try.prog.info? 9).map (fun i => (i.zero, i.size, i.bytes)) = some (some (.string ⟨#[]⟩), 1, 16) := by kernel_rfl

end Go.Proofs.Ytfemfmkgdgcemaa

/-
  The model's rooms: how many, where, of how many cells. (Walks.)
-/
namespace Go.Proofs.Ytfemfmkgdgcemaa
open Go.RowKit

theorem cellsF_yes {room : Int} {i k : Nat} {c : UInt8} {n : Int} (h : (c.toNat : Int) - 97 = room) : cellsF room i k c n = n + 1 := if_pos h
theorem cellsF_no {room : Int} {i k : Nat} {c : UInt8} {n : Int} (h : ¬ (c.toNat : Int) - 97 = room) : cellsF room i k c n = n := if_neg h

theorem boxF_no {room : Int} {i k : Nat} {c : UInt8} {b : Box4} (h : ¬ (c.toNat : Int) - 97 = room) : boxF room i k c b = b := if_neg h
theorem boxF_yes {room : Int} {i k : Nat} {c : UInt8} {t l lo r : Int} (h : (c.toNat : Int) - 97 = room) : boxF room i k c ⟨t, l, lo, r⟩ = ⟨if (i : Int) < t then i else t, if (k : Int) < l then k else l, if lo < (i : Int) then i else lo, if r < (k : Int) then k else r⟩ := if_pos h

end Go.Proofs.Ytfemfmkgdgcemaa

/-
  The model's plans. (Walks.)
-/
namespace Go.Proofs.Ytfemfmkgdgcemaa
open Go.RowKit

def boxOkB (p : List ByteArray) (r : Int) : Bool := cellsB p r == wrap64 (((boxB p r).low - (boxB p r).top + 1) * ((boxB p r).right - (boxB p r).left + 1))
/-- what the model calls a plan -/
def planB (p : List ByteArray) : Bool := gridB p && eqS (namesB p) p && decide (roomsB p ≤ 9) && (List.range (roomsB p).toNat).all fun r => boxOkB p (r : Int)

theorem planB_grid {p : List ByteArray} (h : gridB p = false) : planB p = false := by unfold planB; rw [h]; rfl
theorem planB_names {p : List ByteArray} (h : eqS (namesB p) p = false) : planB p = false := by unfold planB; rw [h, Bool.and_false]; rfl
theorem planB_rooms {p : List ByteArray} (h : ¬ roomsB p ≤ 9) : planB p = false := by unfold planB; rw [decide_eq_false h, Bool.and_false]; rfl
theorem planB_box {p : List ByteArray} {r : Nat} (h1 : (r : Int) < roomsB p) (h : boxOkB p (r : Int) = false) : planB p = false := by
  unfold planB
  rw [Bool.and_eq_false_iff]; right
  rw [Bool.eq_false_iff]; intro hh
  rw [List.all_eq_true] at hh
  have := hh r (List.mem_range.2 (by omega))
  rw [h] at this
  exact Bool.noConfusion this
theorem planB_yes {p : List ByteArray} {n : Nat} (hg : gridB p = true) (hn : eqS (namesB p) p = true) (hr : roomsB p ≤ 9) (hn2 : roomsB p ≤ (n : Int)) (h : ∀ r, r < n → boxOkB p (r : Int) = true) : planB p = true := by
  unfold planB
  rw [hg, hn, decide_eq_true hr, Bool.true_and, Bool.true_and, Bool.true_and, List.all_eq_true]
  intro r hr'
  rw [List.mem_range] at hr'
  exact h r (by omega)

theorem gridB_len {p : List ByteArray} (h : gridB p = true) : 1 ≤ p.length ∧ p.length ≤ 6 := by
  unfold gridB at h
  rw [Bool.and_eq_true] at h
  have := h.2
  unfold l6B at this
  rw [decide_eq_true_eq] at this
  omega

theorem gridB_row {p : List ByteArray} (h : gridB p = true) : ∀ s ∈ p, s.size = (p.getD 0 ByteArray.empty).size ∧ 1 ≤ s.size ∧ s.size ≤ 6 ∧ smallB s.data.toList = true := fun s hs => by
  unfold gridB at h
  rw [Bool.and_eq_true, List.all_eq_true] at h
  have := h.1 s hs
  unfold rowB at this
  rw [Bool.and_eq_true, Bool.and_eq_true, decide_eq_true_eq] at this
  have h6 := this.1.2
  unfold l6B at h6
  rw [decide_eq_true_eq] at h6
  exact ⟨this.1.1, by omega, by omega, this.2⟩

theorem roomsF_bound (p : List ByteArray) : 0 ≤ roomsB p ∧ roomsB p ≤ 256 := by
  have hrow : ∀ (i : Nat) (l : List UInt8) (k : Nat) (n : Int), 0 ≤ n → n ≤ 256 → 0 ≤ rowFold roomsF i k l n ∧ rowFold roomsF i k l n ≤ 256 := by
    intro i l
    induction l with
    | nil => intro k n h0 h1; exact ⟨h0, h1⟩
    | cons c l ih =>
      intro k n h0 h1
      have hc := UInt8.toNat_lt c
      rw [rowFold]
      refine ih (k + 1) _ ?_ ?_ <;> unfold roomsF <;> split <;> omega
  have hgrid : ∀ (p : List ByteArray) (i : Nat) (n : Int), 0 ≤ n → n ≤ 256 → 0 ≤ gridFold roomsF i p n ∧ gridFold roomsF i p n ≤ 256 := by
    intro p
    induction p with
    | nil => intro i n h0 h1; exact ⟨h0, h1⟩
    | cons s p ih =>
      intro i n h0 h1
      rw [gridFold]
      have := hrow i s.data.toList 0 n h0 h1
      exact ih (i + 1) _ this.1 this.2
  exact hgrid p 0 0 (by omega) (by omega)

end Go.Proofs.Ytfemfmkgdgcemaa
