
/-
  What draws read of a code. (Merged texts: DrawA, and of DrawB what opens.)
-/
import Derived.Test.YtkpjlglfhhdcbaaRow
import Derived.Test.YtkpjlglfhhdcbaaArgs
import Derived.BigQuiet
import Derived.Laws.BitsAllLaws
import Derived.OpenShut
/-
  The numbers that draws pick. (Walks.)
-/
namespace Go.Proofs.Ytkpjlglfhhdcbaa
open Go.RowKit

theorem grownBy_setCell (w : World) (B k : Nat) (v : Value) : w.grownBy (w.setCell ⟨B, k, none⟩ v) (some B) :=
  ⟨rfl, rfl, rfl, by simp [World.setCell], fun j _ hne => Below.heap_setCell w ⟨B, k, none⟩ v j (fun e => hne (by rw [e]))⟩
theorem CellsAt.set_other {w : World} {ao : Option Addr} {xs : List Value} (h : CellsAt w ao xs) {B : Nat} (hne : ∀ a, ao = some a → a.block ≠ B) (k : Nat) (v : Value) : CellsAt (w.setCell ⟨B, k, none⟩ v) ao xs :=
  h.grown (grownBy_setCell w B k v) (fun a ha e => hne a ha (by simpa using e))
theorem grownBy_drew {w w' : World} {row : Option Nat} (h : w.grownBy w' row) (n : Nat) : w.grownBy (w'.drewN n) row := ⟨h.os, h.tape, h.output, h.size, h.block⟩
theorem codeAt_set {w : World} {ao : Option Addr} {c : List UInt8} (h : CellsAt w ao (c.map byteV)) {B : Nat} (hne : c.length = 0 ∨ ∀ a, ao = some a → a.block ≠ B) (k : Nat) (v : Value) : CellsAt (w.setCell ⟨B, k, none⟩ v) ao (c.map byteV) := by
  rcases hne with h0 | h0
  · rw [List.length_eq_zero_iff.1 h0]; exact CellsAt.nil _ _
  · exact h.set_other h0 k v
theorem xor_i64 (a b : Nat) (ha : a < 4294967296) (hb : b < 4294967296) : bits .xor .i64 (a : Int) (b : Int) = ((a ^^^ b : Nat) : Int) := by
  have hx : a ^^^ b < 2 ^ 32 := Nat.xor_lt_two_pow (by omega) (by omega)
  have h1 : (BitVec.ofInt 64 (a : Int)).toNat = a := by
    rw [BitVec.ofInt_natCast, BitVec.toNat_ofNat]; exact Nat.mod_eq_of_lt (by omega)
  have h2 : (BitVec.ofInt 64 (b : Int)).toNat = b := by
    rw [BitVec.ofInt_natCast, BitVec.toNat_ofNat]; exact Nat.mod_eq_of_lt (by omega)
  show IntKind.i64.wrap ((BitVec.ofInt 64 (a : Int) ^^^ BitVec.ofInt 64 (b : Int)).toNat : Int) = _
  rw [BitVec.toNat_xor, h1, h2]
  simp [IntKind.wrap, IntKind.bits, IntKind.signed]
  omega
theorem wrap64_id {n : Nat} (h : n < 4294967296) : wrap64 (n : Int) = (n : Int) := by unfold wrap64; omega
theorem xorShift_i64 (X : Nat) (h : X < 4294967296) : (X : Int).tdiv 64 = ((X / 64 : Nat) : Int) ∧ wrap64 ((X / 64 : Nat) : Int) = ((X / 64 : Nat) : Int) ∧ bits .xor .i64 (X : Int) ((X / 64 : Nat) : Int) = ((X ^^^ X / 64 : Nat) : Int) := by
  have h2 : X / 64 < 4294967296 := Nat.lt_of_le_of_lt (Nat.div_le_self _ _) h
  exact ⟨by rw [Int.tdiv_eq_ediv_of_nonneg (Int.natCast_nonneg _)]; rfl, wrap64_id h2, xor_i64 X (X / 64) h h2⟩
theorem rem_nat {x n : Int} (h0 : 0 ≤ x) (hn : 1 ≤ n) : ∃ v : Nat, x.tmod n = (v : Int) ∧ (v : Int) < n := by
  refine ⟨(x.tmod n).toNat, ?_, ?_⟩
  · rw [Int.toNat_of_nonneg (Int.tmod_nonneg _ h0)]
  · rw [Int.toNat_of_nonneg (Int.tmod_nonneg _ h0), Int.tmod_eq_emod_of_nonneg h0]; exact Int.emod_lt_of_pos _ (by omega)
theorem byteAt_cell {w : World} {ao : Option Addr} {c : List UInt8} (h : CellsAt w ao (c.map byteV)) (i : Nat) (hi : i < c.length) : ∃ b off, ao = some ⟨b, off, none⟩ ∧ w.cell? ⟨b, off + i, none⟩ = some (.int .u8 ((c.getD i 0).toNat : Nat)) := h.byte i hi

end Go.Proofs.Ytkpjlglfhhdcbaa

/-
  Draws of a text and of a reader. (Walks.)
-/
namespace Go.Proofs.Ytkpjlglfhhdcbaa
open Go.ChangeShapes Go.WideShapes Go.ChangeAt Go.RowKit

theorem Try.cellsByte : Try.prog.cellsOf 5 = 1 := by kernel_rfl
theorem cell_lt_size {w : World} {b o : Nat} {v : Value} (h : w.cell? ⟨b, o, none⟩ = some v) : b < w.heap.size := by
  rcases Nat.lt_or_ge b w.heap.size with h1 | h1
  · exact h1
  · simp [World.cell?, Array.getElem?_eq_none h1] at h

theorem code_lt {w : World} {ao : Option Addr} {c : List UInt8} (h : CellsAt w ao (c.map byteV)) : c.length = 0 ∨ ∀ a, ao = some a → a.block ≠ w.heap.size := by
  rcases Nat.eq_zero_or_pos c.length with h0 | h0
  · exact .inl h0
  · obtain ⟨b, o, rfl, hc⟩ := h.byte 0 h0
    exact .inr fun a ha => by cases ha; have := cell_lt_size hc; simp; omega

end Go.Proofs.Ytkpjlglfhhdcbaa
