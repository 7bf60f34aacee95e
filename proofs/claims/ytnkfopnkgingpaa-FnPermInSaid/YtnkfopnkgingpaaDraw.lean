
/-
  Merged texts: DrawA DrawB DrawC DrawD DrawE DrawF DrawG DrawH DrawI.
-/
import Derived.Test.YtnkfopnkgingpaaPick
import Derived.Test.YtnkfopnkgingpaaWalls
import Derived.Test.YtnkfopnkgingpaaArgs
import Derived.Test.YtnkfopnkgingpaaPut
import Derived.BigQuiet
import Derived.Laws.BitsAllLaws
import Derived.OpenShut

/-
  Draws. (Walks.)
-/
namespace Go.Proofs.Ytnkfopnkgingpaa
open Go.ChangeShapes Go.WideShapes Go.ChangeAt Go.RowKit


end Go.Proofs.Ytnkfopnkgingpaa

/-
  Draws of plans: what they look like. (Walks.)
-/
namespace Go.Proofs.Ytnkfopnkgingpaa
open Go.RowKit

/-- texts, so many, each of so many letters -/
def Shp (n m : Nat) (l : List ByteArray) : Prop := l.length = n ∧ ∀ s ∈ l, s.size = m
/-- a drawn list: its cells, apart from the reader -/
def ListAt (B : Nat) (w : World) (ao : Option Addr) (l : List ByteArray) : Prop := CellsAt w ao (l.map Value.string) ∧ ∀ a, ao = some a → a.block ≠ B

theorem ListAt.grown {B : Nat} {w w' : World} {ao : Option Addr} {l : List ByteArray} (h : ListAt B w ao l) (hg : w.grownBy w' (some B)) : ListAt B w' ao l :=
  ⟨h.1.grown hg (fun a ha => by have := h.2 a ha; simpa using this), h.2⟩
theorem ListAt.below {B : Nat} {w w' : World} {ao : Option Addr} {l : List ByteArray} (h : ListAt B w ao l) (hb : Below w.heap.size w w') : ListAt B w' ao l := ⟨h.1.below hb, h.2⟩
theorem grownBy_refl (w : World) (row : Option Nat) : w.grownBy w row := ⟨rfl, rfl, rfl, Nat.le_refl _, fun _ _ _ => rfl⟩
theorem grownBy_b {w w1 w2 : World} {row : Option Nat} (h : w.grownBy w1 row) (hb : Below w1.heap.size w1 w2) : w.grownBy w2 row := grownBy_trans h (grownBy_of_below hb row)

end Go.Proofs.Ytnkfopnkgingpaa

/-
  Draws of plans: rooms that are cut. (Walk.)
-/
namespace Go.Proofs.Ytnkfopnkgingpaa
open Go.RowKit

theorem split_shape {p : List ByteArray} {room k : Int} {letter : ByteArray} {n m : Nat} (hp : Shp n m p) (h : doneO (splitT p room letter k) = true) : Shp n m (namesO (splitT p room letter k)) := by
  have key : ∀ {r c hi wi : Nat} {x : UInt8}, 1 ≤ p.length → doneB (putB p r c hi wi x) = true → Shp n m (orNone (doneB (putB p r c hi wi x)) (namesB (putB p r c hi wi x))) := fun {r c hi wi x} h1 hd => by
    rw [hd]
    refine ⟨?_, fun s hs => ?_⟩
    · show (namesB _).length = n
      rw [namesB_len]; unfold putB; rw [matB_len]; exact hp.1
    · change s ∈ namesB _ at hs
      unfold namesB at hs
      rw [List.mem_map] at hs
      obtain ⟨t, ht, rfl⟩ := hs
      have h2 := matB_size t ht
      have h3 : wideB p = m := hp.2 _ (getD_mem ByteArray.empty (by omega))
      rw [← h3, ← h2]
      show (namesL _ t.data.toList).toArray.size = t.data.size
      rw [List.size_toArray]; unfold namesL; rw [List.length_map, Array.length_toList]
  unfold splitT at h ⊢
  split at h
  · rename_i hg
    rw [if_pos hg]
    have h1 : 1 ≤ p.length := by
      unfold givenB at hg
      rw [Bool.and_eq_true] at hg
      exact (planP_of hg.1).grid.h1
    split at h
    · rename_i hc
      rw [if_pos hc]
      exact key h1 h
    · rename_i hc
      rw [if_neg hc]
      split at h
      · rename_i hc2
        rw [if_pos hc2]
        exact key h1 h
      · cases h
  · cases h

end Go.Proofs.Ytnkfopnkgingpaa

/-
  Draws of plans. (Walks.)
-/
namespace Go.Proofs.Ytnkfopnkgingpaa
open Go.RowKit

end Go.Proofs.Ytnkfopnkgingpaa

/-
  Draws of plans, seldom none. (Walks.)
-/
namespace Go.Proofs.Ytnkfopnkgingpaa
open Go.RowKit

theorem open_row {w : World} {base : Nat} {e : TypeId} {ao : Option Addr} {m c n : Nat} {xs : List Value} (h : w.ownsRow base e 1 (.slice ao m c) n xs) (hn : 0 < n) :
    ∃ g cur, ao = some ⟨g, 0, none⟩ ∧ base ≤ g ∧ HeldB w g e cur ∧ ∀ j, j < n → cur[j]? = xs[j]? := by
  rcases h.2 with ⟨_, h0⟩ | ⟨g, cap, cur, he, hb, hg, _, _, hs, ht⟩
  · omega
  · simp only [Value.slice.injEq] at he
    obtain ⟨rfl, _, _⟩ := he
    refine ⟨g, cur, rfl, hb, hg, fun j hj => ?_⟩
    rw [← ht, List.getElem?_take, if_pos (by omega), Array.getElem?_toList]
theorem cells_set {w : World} {g : Nat} {e : TypeId} {cur : Array Value} {xs : List Value} {n i : Nat} (h : HeldB w g e cur) (hc : ∀ j, j < n → cur[j]? = xs[j]?) (hx : xs.length = n) (v : Value) :
    CellsAt (w.setCell ⟨g, i, none⟩ v) (some ⟨g, 0, none⟩) (xs.set i v) := fun j u hu => by
  refine ⟨g, 0, rfl, ?_⟩
  have hj : j < n := by
    have := (List.getElem?_eq_some_iff.1 hu).1
    rw [List.length_set] at this; omega
  rw [Nat.zero_add, (h.set i v).cell j, ← hu]
  have h1 := hc j hj
  have h2 : j < cur.size := by
    rcases Nat.lt_or_ge j cur.size with h3 | h3
    · exact h3
    · rw [Array.getElem?_eq_none h3] at h1
      rw [List.getElem?_eq_getElem (by omega)] at h1; cases h1
  rw [Array.getElem?_setIfInBounds, List.getElem?_set]
  split
  · rename_i h3; subst h3; rw [if_pos h2, if_pos (by omega)]
  · exact h1
theorem map_set_str {l : List ByteArray} (i : Nat) (s : ByteArray) : (l.map Value.string).set i (.string s) = (l.set i s).map Value.string := by rw [List.map_set]

/-- texts as draws make them: some, not many, none long -/
def Smp (l : List ByteArray) : Prop := 1 ≤ l.length ∧ l.length ≤ 8 ∧ ∀ s ∈ l, s.size ≤ 9
theorem smp_set {l : List ByteArray} {i : Nat} {s : ByteArray} (h : Smp l) (hs : s.size ≤ 9) : Smp (l.set i s) :=
  ⟨by rw [List.length_set]; exact h.1, by rw [List.length_set]; exact h.2.1, fun x hx => by
    rcases List.mem_or_eq_of_mem_set hx with h1 | h1
    · exact h.2.2 x h1
    · rw [h1]; exact hs⟩

theorem cells_flat {w : World} {b off : Nat} {l : List ByteArray} (h : CellsAt w (some ⟨b, off, none⟩) (l.map Value.string)) : ∀ j v, (l.map Value.string)[j]? = some v → w.cell? ⟨b, off + j, none⟩ = some v := fun j v hv => by
  obtain ⟨b', o', he, hc⟩ := h j v hv
  simp only [Option.some.injEq, Addr.mk.injEq, and_true] at he
  obtain ⟨rfl, rfl⟩ := he
  exact hc
theorem strs_one (l : List ByteArray) : ∀ v ∈ l.map Value.string, v.oneCell' = true := fun v hv => by
  rw [List.mem_map] at hv; obtain ⟨s, _, rfl⟩ := hv; rfl
theorem strs_cell {w : World} {g : Nat} {e : TypeId} {cur : Array Value} {l : List ByteArray} {n : Nat} (h : HeldB w g e cur) (hc : ∀ j, j < 0 + n → cur[j]? = (([] : List Value) ++ l.map Value.string)[j]?) (j : Nat) (hj : j < n) (hl : l.length = n := by rfl) :
    w.cell? ⟨g, j, none⟩ = some (.string (l.getD j ByteArray.empty)) := by
  rw [h.cell j, hc j (by omega)]
  simp [show j < l.length by omega]

theorem app_size (a b : ByteArray) : (a ++ b).size = a.size + b.size := ByteArray.size_append
theorem some_done {w w4 w5 : World} {M B g i lc : Nat} {t : TypeId} {cur : Array Value} {l : List ByteArray} {s : ByteArray} (hr : RdAt M B w4) (hg : w.grownBy w4 (some B)) (hb : Below w4.heap.size w4 w5) (hgb : w4.heap.size ≤ g) (hH : HeldB w5 g t cur)
    (hc : ∀ j, j < 0 + l.length → cur[j]? = (([] : List Value) ++ l.map Value.string)[j]?) (hl : Smp l) (hs : s.size ≤ 9) :
    ∃ ro rc l', Smp l' ∧ Ending.returned (.slice (some ⟨g, 0, none⟩) l.length lc) = .returned (.slice ro l'.length rc) ∧ ListAt B (w5.setCell ⟨g, i, none⟩ (.string s)) ro l' ∧ RdAt M B (w5.setCell ⟨g, i, none⟩ (.string s)) ∧ w.grownBy (w5.setCell ⟨g, i, none⟩ (.string s)) (some B) := by
  have hb2 : Below w4.heap.size w4 (w5.setCell ⟨g, i, none⟩ (.string s)) := hb.setCell hgb _
  refine ⟨some ⟨g, 0, none⟩, lc, l.set i s, smp_set hl hs, by rw [List.length_set], ⟨?_, fun a ha => ?_⟩, hr.below hb2, grownBy_b hg hb2⟩
  · rw [← map_set_str]
    exact cells_set (n := l.length) hH (fun j hj => by have := hc j (by omega); rwa [List.nil_append] at this) (by rw [List.length_map]) _
  · cases ha; have := hr.lt; simp; omega

end Go.Proofs.Ytnkfopnkgingpaa

/-
  Draws of a plan. (Walks.)
-/
namespace Go.Proofs.Ytnkfopnkgingpaa
open Go.RowKit

theorem below_reader {B : Nat} {w w1 w2 : World} (hb : Below B w w1) (hB : B ≤ w1.heap.size) (hg : w1.grownBy w2 (some B)) : Below B w w2 :=
  hb.trans (below_of_grownBy hg hB (fun k hk => by cases hk; exact Nat.le_refl _))

/-- a drawn list, handed back -/
def Drawn (_base : Nat) (e : Ending) (w' : World) : Prop := ∃ ro rc l, Smp l ∧ e = .returned (.slice ro l.length rc) ∧ CellsAt w' ro (l.map Value.string)

end Go.Proofs.Ytnkfopnkgingpaa

/-
  Draws of a plan and a room. (Walks.)
-/
namespace Go.Proofs.Ytnkfopnkgingpaa
open Go.RowKit

/-- a drawn list and a number, handed back -/
def DrawnN (e : Ending) (w' : World) : Prop := ∃ ro rc l n, Smp l ∧ e = .returned (.tuple #[.slice ro l.length rc, .int .i64 n]) ∧ CellsAt w' ro (l.map Value.string)

theorem Smp.small {l : List ByteArray} (h : Smp l) : l.length ≤ 1048576 ∧ ∀ s ∈ l, s.size ≤ 1048576 := ⟨by have := h.2.1; omega, fun s hs => by have := h.2.2 s hs; omega⟩

end Go.Proofs.Ytnkfopnkgingpaa

/-
  Draws of two plans. (Walks.)
-/
namespace Go.Proofs.Ytnkfopnkgingpaa
open Go.RowKit

/-- two drawn lists, handed back -/
def Drawn2 (e : Ending) (w' : World) : Prop := ∃ ro rc l ro' rc' l', Smp l ∧ Smp l' ∧ e = .returned (.tuple #[.slice ro l.length rc, .slice ro' l'.length rc']) ∧ CellsAt w' ro (l.map Value.string) ∧ CellsAt w' ro' (l'.map Value.string)
theorem shp_smp {n m : Nat} {l : List ByteArray} (h : Shp n m l) (h1 : 1 ≤ n) (h2 : n ≤ 8) (h3 : m ≤ 9) : Smp l := ⟨by rw [h.1]; exact h1, by rw [h.1]; exact h2, fun s hs => by rw [h.2 s hs]; exact h3⟩

end Go.Proofs.Ytnkfopnkgingpaa
