
/-
  Small facts on worlds, slices and lists that every walk of this seat uses. No function of the program is named here.
-/
import Derived.WalkKit
import Derived.WalkSpells
import Derived.WalkLawsBesides
import Derived.Lib.Hide
import Derived.Deep.QuietTactic
import Derived.BigQuiet
import Derived.Maps.AppendAt
import Derived.Laws.IdiomStrings
import Derived.Lib.QuietBelow
import Derived.Deep.LoopGhost
namespace Go.Proofs.Ytfemfmkgdgcemaa
open Go.RowKit

theorem ret_int {k : IntKind} {a b : Int} (h : a = b) : Ending.returned (.int k a) = .returned (.int k b) := by rw [h]
theorem ret_bool {a b : Bool} (h : a = b) : Ending.returned (.bool a) = .returned (.bool b) := by rw [h]
theorem ret_str {a b : ByteArray} (h : a = b) : Ending.returned (.string a) = .returned (.string b) := by rw [h]

/-- The cells behind a slice's address hold these values. -/
def CellsAt (w : World) (ao : Option Addr) (xs : List Value) : Prop :=
  ∀ i u, xs[i]? = some u → ∃ b off, ao = some ⟨b, off, none⟩ ∧ w.cell? ⟨b, off + i, none⟩ = some u

theorem CellsAt.nil (w : World) (ao : Option Addr) : CellsAt w ao [] := fun i u h => by simp at h

theorem CellsAt.below {w w' : World} {ao : Option Addr} {xs : List Value} (h : CellsAt w ao xs) (hb : Below w.heap.size w w') : CellsAt w' ao xs := fun i u hu => by
  obtain ⟨b, off, rfl, hc⟩ := h i u hu
  exact ⟨b, off, rfl, (hb.cell (p := ⟨b, off + i, none⟩) (World.block_lt_of_cell? _ _ hc)).trans hc⟩

theorem CellsAt.same {w w' : World} {ao : Option Addr} {xs : List Value} (h : CellsAt w ao xs) (hh : ∀ k, k < w.heap.size → w'.heap[k]? = w.heap[k]?) : CellsAt w' ao xs := fun i u hu => by
  obtain ⟨b, off, rfl, hc⟩ := h i u hu
  exact ⟨b, off, rfl, (World.cell?_of_block (a := ⟨b, off + i, none⟩) (hh b (World.block_lt_of_cell? _ _ hc))).trans hc⟩

theorem CellsAt.drewN {w : World} {ao : Option Addr} {xs : List Value} (h : CellsAt w ao xs) (n : Nat) : CellsAt (w.drewN n) ao xs := h

/-- What the world has grown by leaves the cells as they were, if they lie in another block. -/
theorem CellsAt.grown {w w' : World} {ao : Option Addr} {xs : List Value} {row : Option Nat} (h : CellsAt w ao xs) (hg : w.grownBy w' row) (hne : ∀ a, ao = some a → some a.block ≠ row) : CellsAt w' ao xs := fun i u hu => by
  obtain ⟨b, off, rfl, hc⟩ := h i u hu
  exact ⟨b, off, rfl, hg.cell hc (hne ⟨b, off, none⟩ rfl)⟩

theorem CellsAt.str {w : World} {ao : Option Addr} {l : List ByteArray} (h : CellsAt w ao (l.map Value.string)) (i : Nat) (hi : i < l.length) :
    ∃ b off, ao = some ⟨b, off, none⟩ ∧ w.cell? ⟨b, off + i, none⟩ = some (.string (l.getD i ByteArray.empty)) := by
  refine h i _ ?_
  simp [hi]

theorem CellsAt.int {w : World} {ao : Option Addr} {l : List Int} (h : CellsAt w ao (l.map (Value.int .i64))) (i : Nat) (hi : i < l.length) :
    ∃ b off, ao = some ⟨b, off, none⟩ ∧ w.cell? ⟨b, off + i, none⟩ = some (.int .i64 (l.getD i 0)) := by
  refine h i _ ?_
  simp [hi]

/-- bytes as the model's values -/
def byteV (c : UInt8) : Value := .int .u8 c.toNat

theorem CellsAt.byte {w : World} {ao : Option Addr} {l : List UInt8} (h : CellsAt w ao (l.map byteV)) (i : Nat) (hi : i < l.length) :
    ∃ b off, ao = some ⟨b, off, none⟩ ∧ w.cell? ⟨b, off + i, none⟩ = some (.int .u8 (l.getD i 0).toNat) := by
  refine h i _ ?_
  simp [hi, byteV]

theorem ownsRow_len {w : World} {base : Nat} {e : TypeId} {v : Value} {n : Nat} {xs : List Value} (h : w.ownsRow base e 1 v n xs) : xs.length = n := by
  have := h.1; omega

/-- What the call owns reads as cells; the value is a slice with this length. -/
theorem ownsRow_cells {w : World} {base : Nat} {e : TypeId} {v : Value} {n : Nat} {xs : List Value} (h : w.ownsRow base e 1 v n xs) :
    ∃ ao cap, v = .slice ao n cap ∧ CellsAt w ao xs ∧ (∀ a, ao = some a → base ≤ a.block ∧ a.block < w.heap.size) := by
  have hl := ownsRow_len h
  rcases h.2 with ⟨rfl, rfl⟩ | ⟨g, cap, cur, rfl, hb, hg, _⟩
  · refine ⟨none, 0, rfl, ?_, by simp⟩
    have : xs = [] := List.eq_nil_of_length_eq_zero hl
    subst this
    exact CellsAt.nil _ _
  · refine ⟨_, _, rfl, ?_, ?_⟩
    · intro i u hu
      have hi : i < xs.length := by
        rcases Nat.lt_or_ge i xs.length with h' | h'
        · exact h'
        · simp [List.getElem?_eq_none h'] at hu
      refine ⟨g, 0, rfl, ?_⟩
      rw [Nat.zero_add, h.cellAt i (by omega), hu]
    · intro a ha
      simp only [Option.some.injEq] at ha
      subst ha
      exact ⟨hb, (Array.getElem?_eq_some_iff.1 hg).1⟩

theorem ownsRow_below {w w' : World} {base : Nat} {e : TypeId} {size : Nat} {v : Value} {n : Nat} {xs : List Value} (h : w.ownsRow base e size v n xs) (hb : Below w.heap.size w w') : w'.ownsRow base e size v n xs := by
  refine ⟨h.1, ?_⟩
  rcases h.2 with hn | ⟨g, cap, cur, rfl, hbg, hgg, rest⟩
  · exact .inl hn
  · exact .inr ⟨g, cap, cur, rfl, hbg, (hb.block g (Array.getElem?_eq_some_iff.1 hgg).1).trans hgg, rest⟩

theorem ownsRow_base {w : World} {base base' : Nat} {e : TypeId} {size : Nat} {v : Value} {n : Nat} {xs : List Value} (h : w.ownsRow base e size v n xs) (hb : base' ≤ base) : w.ownsRow base' e size v n xs := by
  refine ⟨h.1, ?_⟩
  rcases h.2 with hn | ⟨g, cap, cur, rfl, hbg, rest⟩
  · exact .inl hn
  · exact .inr ⟨g, cap, cur, rfl, Nat.le_trans hb hbg, rest⟩

/-- A row of a made slice: it begins in its own block. -/
theorem ownsRow_some {w : World} {base : Nat} {e : TypeId} {v : Value} {n : Nat} {xs : List Value} (h : w.ownsRow base e 1 v n xs) (hn : 0 < n) :
    ∃ g cap, v = .slice (some ⟨g, 0, none⟩) n cap ∧ base ≤ g ∧ g < w.heap.size := by
  rcases h.2 with ⟨_, h0⟩ | ⟨g, cap, cur, rfl, hb, hg, _⟩
  · omega
  · exact ⟨g, cap, rfl, hb, (Array.getElem?_eq_some_iff.1 hg).1⟩

theorem below_drewN (B : Nat) (w : World) (n : Nat) : Below B w (w.drewN n) := ⟨rfl, rfl, rfl, Nat.le_refl _, fun _ _ => rfl⟩
theorem below_size {B : Nat} {w w' : World} (h : Below B w w') : w.heap.size ≤ w'.heap.size := h.size

/-- two steps, each of which leaves what was there ahead of it -/
theorem below_step {B : Nat} {w w1 w2 : World} (h : Below B w w1) (hB : B ≤ w1.heap.size) (h2 : Below w1.heap.size w1 w2) : Below B w w2 := h.trans (h2.mono hB)

theorem take_succ_getD {α : Type} (l : List α) (k : Nat) (z : α) (h : k < l.length) : l.take (k + 1) = l.take k ++ [l.getD k z] := by
  rw [List.take_succ_eq_append_getElem h]; simp [h]

theorem drop_getD {α : Type} (l : List α) (k : Nat) (z : α) (h : k < l.length) : l.drop k = l.getD k z :: l.drop (k + 1) := by
  rw [List.drop_eq_getElem_cons h]; simp [h]

theorem getD_mem {α : Type} {l : List α} {k : Nat} (z : α) (h : k < l.length) : l.getD k z ∈ l := by
  simp [h]

/-- filling a made row cell by cell -/
theorem fill_set (xs : List Value) (n k : Nat) (z u : Value) (hk : k < n) (hl : xs.length = k) :
    (xs ++ List.replicate (n - k) z).set k u = (xs ++ [u]) ++ List.replicate (n - (k + 1)) z := by
  subst hl
  rw [List.set_append_right _ _ (Nat.le_refl _)]
  obtain ⟨m, hm⟩ : ∃ m, n - xs.length = m + 1 := ⟨n - xs.length - 1, by omega⟩
  rw [hm, Nat.sub_self, List.replicate_succ, List.set_cons_zero, List.append_assoc, show n - (xs.length + 1) = m from by omega]
  rfl

theorem bytes_ext {s t : ByteArray} (h : s.data.toList = t.data.toList) : s = t := by
  cases s; cases t; simp only [ByteArray.mk.injEq]; exact Array.toList_inj.1 h

/-- Go's '!=' on texts, as the walk leaves it -/
theorem str_ne {s t : ByteArray} (h : (!s.toList == t.toList) = true) : s ≠ t := by
  rintro rfl; simp at h
theorem str_eq {s t : ByteArray} (h : (!s.toList == t.toList) = false) : s = t := by
  rw [ByteArray.toList_eq, ByteArray.toList_eq] at h
  exact bytes_ext (by simpa using h)

theorem grownBy_trans {w w1 w2 : World} {row : Option Nat} (h : w.grownBy w1 row) (h2 : w1.grownBy w2 row) : w.grownBy w2 row :=
  ⟨h2.os.trans h.os, h2.tape.trans h.tape, h2.output.trans h.output, Nat.le_trans h.size h2.size, fun k hk hr => (h2.block k (Nat.lt_of_lt_of_le hk h.size) hr).trans (h.block k hk hr)⟩

theorem grownBy_of_below {w w' : World} (h : Below w.heap.size w w') (row : Option Nat) : w.grownBy w' row :=
  ⟨h.os, h.tape, h.output, h.size, fun k hk _ => h.block k hk⟩

theorem below_of_grownBy {B : Nat} {w w' : World} {row : Option Nat} (h : w.grownBy w' row) (hB : B ≤ w.heap.size) (hr : ∀ k, row = some k → B ≤ k) : Below B w w' :=
  (Below.refl B w).grown h hB hr

theorem set_mid {α : Type} (A B : List α) (b u : α) (j : Nat) (h : A.length = j) : (A ++ b :: B).set j u = (A ++ [u]) ++ B := by
  subst h
  rw [List.set_append_right _ _ (Nat.le_refl _), Nat.sub_self, List.set_cons_zero, List.append_assoc]; rfl

/-- the same world but for a count of draws -/
def Quiet (w w' : World) : Prop := ∃ n, w' = w.drewN n
theorem Quiet.refl (w : World) : Quiet w w := ⟨0, rfl⟩
theorem Quiet.drewN (w : World) (n : Nat) : Quiet w (w.drewN n) := ⟨n, rfl⟩
theorem Quiet.trans {w w1 w2 : World} (h : Quiet w w1) (h2 : Quiet w1 w2) : Quiet w w2 := by
  obtain ⟨n, rfl⟩ := h; obtain ⟨m, rfl⟩ := h2; exact ⟨n + m, by simp⟩
theorem Quiet.then {w w1 : World} (h : Quiet w w1) (n : Nat) : Quiet w (w1.drewN n) := h.trans ⟨n, rfl⟩
theorem Quiet.below {w w1 : World} (h : Quiet w w1) (B : Nat) : Below B w w1 := by
  obtain ⟨n, rfl⟩ := h; exact below_drewN B w n
theorem Quiet.cells {w w1 : World} (h : Quiet w w1) {ao : Option Addr} {xs : List Value} (hc : CellsAt w ao xs) : CellsAt w1 ao xs := by
  obtain ⟨n, rfl⟩ := h; exact hc
theorem Quiet.size {w w1 : World} (h : Quiet w w1) : w1.heap.size = w.heap.size := by
  obtain ⟨n, rfl⟩ := h; rfl
theorem Quiet.owns {w w1 : World} (h : Quiet w w1) {base : Nat} {e : TypeId} {size : Nat} {v : Value} {n : Nat} {xs : List Value} (ho : w.ownsRow base e size v n xs) : w1.ownsRow base e size v n xs := by
  obtain ⟨n, rfl⟩ := h; exact ho
theorem Quiet.heap {w w1 : World} (h : Quiet w w1) : w1.heap = w.heap := by
  obtain ⟨n, rfl⟩ := h; rfl

/-! ### append, one element at a time -/

/-- The address of a slice that has grown: it is the old one, or lies in a new block. -/
def NewOr (w : World) (ao ao' : Option Addr) : Prop := ∀ a, ao' = some a → ao = some a ∨ w.heap.size ≤ a.block

/-- Two slices of the call's own lie in different blocks. -/
def Apart (ao bo : Option Addr) : Prop := ∀ a b, ao = some a → bo = some b → a.block ≠ b.block

theorem Apart.symm {ao bo : Option Addr} (h : Apart ao bo) : Apart bo ao := fun a b ha hb e => h b a hb ha e.symm
theorem apart_nil (bo : Option Addr) : Apart Option.none bo := fun _ _ h => by cases h
theorem apart_nil' (ao : Option Addr) : Apart ao Option.none := fun _ _ _ h => by cases h

theorem Apart.push {w : World} {ao ao' bo : Option Addr} (h : Apart ao bo) (hn : NewOr w ao ao') (hb : ∀ b, bo = some b → b.block < w.heap.size) : Apart ao' bo := fun a b ha hb' => by
  rcases hn a ha with h' | h'
  · exact h a b h' hb'
  · have := hb b hb'; omega

/-- A slice made ahead of a new block lies apart from it. -/
theorem Apart.fresh {w : World} {ao : Option Addr} {g : Nat} (hb : ∀ a, ao = some a → a.block < w.heap.size) (hg : w.heap.size ≤ g) (off : Nat) (s : Option Nat) : Apart ao (some ⟨g, off, s⟩) := fun a b ha hb' => by
  simp only [Option.some.injEq] at hb'
  subst hb'
  have := hb a ha
  show a.block ≠ g
  omega

theorem owns_lt {w : World} {base : Nat} {e : TypeId} {size : Nat} {ao : Option Addr} {m cap n : Nat} {xs : List Value} (h : w.ownsRow base e size (.slice ao m cap) n xs) : ∀ a, ao = some a → base ≤ a.block ∧ a.block < w.heap.size := fun a ha => by
  subst ha
  exact h.lt a.block rfl

theorem owns_kept {w w' : World} {base : Nat} {e : TypeId} {size : Nat} {ao bo : Option Addr} {m cap n m' cap' : Nat} {xs : List Value} (h : w.ownsRow base e size (.slice ao m cap) n xs) (hg : w.grownBy w' (Value.ownBlock (.slice bo m' cap'))) (ha : Apart ao bo) : w'.ownsRow base e size (.slice ao m cap) n xs := by
  refine h.kept hg ?_
  cases ao with
  | none => exact .inl rfl
  | some a =>
    cases bo with
    | none => exact .inr (by simp [Value.ownBlock])
    | some b => exact .inr (by simp only [Value.ownBlock, ne_eq, Option.some.injEq]; exact ha a b rfl rfl)

theorem run_push {P : Program} (w : World) (base : Nat) (t ty e : TypeId) (i : TypeInfo) (z : Value) (bytes : Nat) (ht : P.underlying t = some (.slice e)) (hi : P.info? e = some i) (hz : i.zero = some z)
    (hsize : i.size = 1) (hby : i.bytes = bytes) (hzs : z.cells.size = 1) (ao : Option Addr) (n cap : Nat) (xs : List Value) (hown : w.ownsRow base e 1 (.slice ao n cap) n xs)
    (u : Value) (g c : Nat) (hu : w.cell? ⟨g, 0, none⟩ = some u) (h1 : u.oneCell' = true) (h63 : n + 1 ≤ maxLen) (hbytes : (n + 1) * bytes ≤ 140737488355328) (hbase : base ≤ w.heap.size) :
    ∃ ao' cap' w', (Builtin.append_ #[t, t] ty #[.slice ao n cap, .slice (some ⟨g, 0, none⟩) 1 c]).run P w = .ok (.slice ao' (n + 1) cap') w' ∧ w'.ownsRow base e 1 (.slice ao' (n + 1) cap') (n + 1) (xs ++ [u]) ∧
      w.grownBy w' (Value.ownBlock (.slice ao n cap)) ∧ NewOr w ao ao' := by
  have hnews : ∀ (j : Nat) (v : Value), [u][j]? = some v → w.cell? ((⟨g, 0, none⟩ : Addr).add j) = some v := by
    intro j v hv
    cases j with
    | zero => simp only [List.getElem?_cons_zero, Option.some.injEq] at hv; subst hv; simpa [Addr.add] using hu
    | succ j => simp at hv
  have h1' : ∀ v ∈ [u], v.oneCell' = true := by simpa using h1
  obtain ⟨v', w', hr, hown', hg, _⟩ := run_append_own (P := P) w base t ty e i z 1 bytes ht hi hz hsize hby hzs (by decide) _ n xs hown ⟨g, 0, none⟩ 1 c [u] (by simp) hnews h1' h63 hbytes hbase
  obtain ⟨ao', cap', rfl, _, _⟩ := ownsRow_cells hown'
  refine ⟨ao', cap', w', hr, hown', hg, ?_⟩
  intro a' ha'
  subst ha'
  rcases hown.2 with ⟨hv, rfl⟩ | ⟨g0, cap0, cur, hv, hbg, hgg, hnc, hcm, hcs, htake⟩
  · simp only [Value.slice.injEq] at hv
    obtain ⟨rfl, _, rfl⟩ := hv
    right
    have hx : xs = [] := List.eq_nil_of_length_eq_zero (by have := hown.1; omega)
    subst hx
    have hr' := run_append_nil (P := P) w t ty e i z ht hi hz ⟨g, 0, none⟩ 1 c [u] (by simp [hsize]) hnews (by decide) (by simp only [maxLen] at h63; omega) (by rw [hby]; omega)
    rw [hr'] at hr
    simp only [Result.ok.injEq, Value.slice.injEq, Option.some.injEq] at hr
    have := hr.1.1
    rw [← this]
    exact Nat.le_refl _
  · simp only [Value.slice.injEq] at hv
    obtain ⟨rfl, _, rfl⟩ := hv
    by_cases hroom : n + 1 ≤ cap
    · left
      have hr' := run_append_room (P := P) w t ty e i ht hi g0 n cap cur hgg ⟨g, 0, none⟩ 1 c [u] (by simp [hsize]) hnews h1' hroom (by rw [hsize]; simp; omega)
      rw [hr'] at hr
      simp only [Result.ok.injEq, Value.slice.injEq] at hr
      exact hr.1.1
    · right
      have holds : ∀ j v, xs[j]? = some v → w.cell? ((⟨g0, 0, none⟩ : Addr).add j) = some v := hown.cells (g := g0) rfl
      have hr' := run_append_grow (P := P) w t ty e i z ht hi hz ⟨g0, 0, none⟩ n cap xs (by rw [hsize]; exact hown.1) holds ⟨g, 0, none⟩ 1 c [u] (by simp [hsize]) hnews (by omega) (by simp only [maxLen] at h63; omega) (growslice_fits (by simp only [maxLen] at h63; omega) (by rw [hby]; exact hbytes))
      rw [hr'] at hr
      simp only [Result.ok.injEq, Value.slice.injEq, Option.some.injEq] at hr
      rw [← hr.1.1]
      exact Nat.le_refl _

theorem wpList_push {P : Program} (w : World) {ops : Array Oper} {rest : List Oper} {o : Oper} {a : Act} {Q : Exit → Act → World → Prop} (hgd : o.guard = none) (s x : Operand) (t : TypeId)
    (ho : o.op = .call { callee := .builtin .append, args := #[s, x], argTypes := #[t, t] })
    (base : Nat) (e : TypeId) (i : TypeInfo) (z : Value) (bytes : Nat) (ht : P.underlying t = some (.slice e)) (hi : P.info? e = some i) (hz : i.zero = some z)
    (hsize : i.size = 1) (hby : i.bytes = bytes) (hzs : z.cells.size = 1) (ao : Option Addr) (n cap : Nat) (xs : List Value) (hs : a.eval s = .slice ao n cap) (hown : w.ownsRow base e 1 (.slice ao n cap) n xs)
    (u : Value) (g c : Nat) (hx : a.eval x = .slice (some ⟨g, 0, none⟩) 1 c) (hu : w.cell? ⟨g, 0, none⟩ = some u) (h1 : u.oneCell' = true) (h63 : n + 1 ≤ maxLen) (hbytes : (n + 1) * bytes ≤ 140737488355328) (hbase : base ≤ w.heap.size)
    (h : ∀ ao' cap' w', w'.ownsRow base e 1 (.slice ao' (n + 1) cap') (n + 1) (xs ++ [u]) → w.grownBy w' (Value.ownBlock (.slice ao n cap)) → NewOr w ao ao' → wpList P ops Q rest (a.put o.dst (.slice ao' (n + 1) cap')) w') : wpList P ops Q (o :: rest) a w := by
  refine wpList_plain hgd fun K hK' => ?_
  obtain ⟨ao', cap', w', hrun, r1, r2, r3⟩ := run_push (P := P) w base t o.type e i z bytes ht hi hz hsize hby hzs ao n cap xs hown u g c hu h1 h63 hbytes hbase
  unfold Oper.wp
  simp [execOp, ho, resolve, invoke, builtin, hs, hx, hrun, Result.andThen]
  exact hK' _ _ (h ao' cap' w' r1 r2 r3)

theorem cell_below {w w' : World} {a : Addr} {v : Value} (h : w.cell? a = some v) (hb : Below w.heap.size w w') : w'.cell? a = some v :=
  (hb.cell (World.block_lt_of_cell? _ _ h)).trans h
theorem below_alloc (w : World) (o : Obj) : Below w.heap.size w (w.alloc o) := (Below.refl _ _).alloc (Nat.le_refl _) _

/-- Behind an append to another slice of the call's own, whose new element was laid in a block of its own. -/
theorem owns_push_other {w w' : World} {o : Obj} {base : Nat} {e : TypeId} {size : Nat} {ao bo : Option Addr} {m cap n m' cap' : Nat} {xs : List Value} (h : w.ownsRow base e size (.slice ao m cap) n xs) (hg : (w.alloc o).grownBy w' (Value.ownBlock (.slice bo m' cap'))) (ha : Apart ao bo) : w'.ownsRow base e size (.slice ao m cap) n xs :=
  owns_kept (h.alloc o) hg ha

theorem below_push {w w' : World} {o : Obj} {B : Nat} {bo : Option Addr} {m' cap' : Nat} {W : World} (hb : Below B W w) (hB : B ≤ w.heap.size) (hg : (w.alloc o).grownBy w' (Value.ownBlock (.slice bo m' cap'))) (hbo : ∀ b, bo = some b → B ≤ b.block) : Below B W w' :=
  (hb.alloc hB o).trans (below_of_grownBy hg (by rw [World.size_alloc]; omega) (fun k hk => by
    cases bo with
    | none => simp [Value.ownBlock] at hk
    | some b => simp only [Value.ownBlock, Option.some.injEq] at hk; subst hk; exact hbo b rfl))

theorem apart_push {w : World} {o : Obj} {ao ao' bo : Option Addr} (h : Apart ao bo) (hn : NewOr (w.alloc o) ao ao') (hb : ∀ b, bo = some b → b.block < w.heap.size) : Apart ao' bo :=
  h.push hn (fun b hb' => by rw [World.size_alloc]; have := hb b hb'; omega)

theorem owns_eq {w : World} {base : Nat} {e : TypeId} {size : Nat} {v : Value} {n : Nat} {xs ys : List Value} (h : w.ownsRow base e size v n xs) (he : xs = ys) : w.ownsRow base e size v n ys := he ▸ h

theorem byteV_of {n : Int} {m : Nat} (h : n = (m : Int)) (hm : m < 256) : Value.int .u8 n = byteV (UInt8.ofNat m) := by
  subst h; unfold byteV; rw [UInt8.toNat_ofNat', Nat.mod_eq_of_lt hm]

theorem owns_cells {w : World} {base : Nat} {e : TypeId} {ao : Option Addr} {n m cap : Nat} {xs : List Value} (h : w.ownsRow base e 1 (.slice ao m cap) n xs) : CellsAt w ao xs := by
  obtain ⟨ao', cap', hv, hc, _⟩ := ownsRow_cells h
  simp only [Value.slice.injEq] at hv
  obtain ⟨rfl, _, _⟩ := hv
  exact hc

theorem cell_new (w : World) (v : Value) (t : TypeId) : (w.alloc (.cells #[v] t)).cell? ⟨w.heap.size, 0, none⟩ = some v := by
  rw [World.cell?_alloc_at _ _ _ _ rfl]; rfl

theorem rows_step {P : Nat → Prop} {k : Nat} (h : ∀ j, j < k → P j) (hk : P k) : ∀ j, j < k + 1 → P j := fun j hj => by
  rcases Nat.lt_or_ge j k with h' | h'
  · exact h j h'
  · obtain rfl : j = k := by omega
    exact hk

/-! ### texts and bytes -/

theorem size_list (s : ByteArray) : s.data.toList.length = s.size := by rw [Array.length_toList]; rfl

theorem at_list (s : ByteArray) (k : Nat) (h : k < s.size) : s[k] = s.data.toList.getD k 0 := by
  have : k < s.data.toList.length := by rw [size_list]; exact h
  simp only [List.getD_eq_getElem?_getD, List.getElem?_eq_getElem this, Option.getD_some]
  rfl



theorem run_str_of_bytes {P : Program} (w : World) (src dst e : TypeId) (hs : P.underlying src = some (.slice e)) (he : P.underlying e = some (.int .u8)) (hd : P.underlying dst = some .string)
    (ao : Option Addr) (cap : Nat) (l : List UInt8) (h : CellsAt w ao (l.map byteV)) :
    (convert src dst (.slice ao l.length cap)).run P w = .ok (.string ⟨l.toArray⟩) w := by
  cases l with
  | nil =>
    cases ao with
    | none => rw [run_convert_bytes_nil w src e hs he _ _ dst hd]; rfl
    | some a =>
      rw [run_convert_bytes_string w src dst e _ _ cap hs he hd]
      simp [Conv.bytesToString, loadCells, loadCellsFrom]
      rfl
  | cons c l =>
    obtain ⟨b, off, rfl, _⟩ := h.byte 0 (by simp)
    have hc : ∀ i, i < (c :: l).length → w.cell? ⟨b, off + i, none⟩ = some (.int .u8 (((c :: l).map fun d => ((d.toNat : Nat) : Int)).getD i 0)) := fun i hi => by
      obtain ⟨b', off', he', hc⟩ := h.byte i hi
      simp only [Option.some.injEq, Addr.mk.injEq, and_true] at he'
      obtain ⟨rfl, rfl⟩ := he'
      rw [hc]
      simp only [List.getD_eq_getElem?_getD, List.getElem?_map, List.getElem?_eq_getElem hi, Option.map_some, Option.getD_some]
    rw [run_convert_bytes_arg w src e hs he b off _ cap _ (by simp) hc dst hd]
    simp [strOfNums, Function.comp_def]

theorem wpList_str_of_bytes {P : Program} (w : World) {ops : Array Oper} {rest : List Oper} {o : Oper} {a : Act} {Q : Exit → Act → World → Prop} (hg : o.guard = none)
    (src dst e : TypeId) (x : Operand) (hop : o.op = .convert src dst x) (hs : P.underlying src = some (.slice e)) (he : P.underlying e = some (.int .u8)) (hd : P.underlying dst = some .string)
    (ao : Option Addr) (n cap : Nat) (hx : a.eval x = .slice ao n cap) (l : List UInt8) (hn : l.length = n) (h : CellsAt w ao (l.map byteV))
    (hK : wpList P ops Q rest (a.put o.dst (.string ⟨l.toArray⟩)) w) : wpList P ops Q (o :: rest) a w := by
  refine wpList_plain hg fun K hK' => ?_
  subst hn
  have hrun := run_str_of_bytes (P := P) w src dst e hs he hd ao cap l h
  unfold Oper.wp
  simp [execOp, hop, hx, hrun, Result.andThen]
  exact hK' _ _ hK

theorem CellsAt.alloc_lit (w : World) (cs : List Value) (e : TypeId) : CellsAt (w.alloc (.cells cs.toArray e)) (some ⟨w.heap.size, 0, none⟩) cs := fun i u hu =>
  ⟨w.heap.size, 0, rfl, by rw [World.cell?_alloc_at _ _ _ _ rfl]; simpa using hu⟩

theorem CellsAt.one_byte (w : World) (n : Int) (e : TypeId) (c : UInt8) (h : n = c.toNat) : CellsAt (w.alloc (.cells #[.int .u8 n] e)) (some ⟨w.heap.size, 0, none⟩) ([c].map byteV) := by
  subst h
  exact CellsAt.alloc_lit w [byteV c] e

theorem byte_app (c d : UInt8) (out : List UInt8) (h : d = c) : (ByteArray.mk #[d] ++ ByteArray.mk out.toArray) = ByteArray.mk (c :: out).toArray := by
  subst h; exact ByteArray.mk_append_mk [d] out

theorem str_append (x y : List UInt8) : (ByteArray.mk x.toArray ++ ByteArray.mk y.toArray) = ByteArray.mk (x ++ y).toArray := ByteArray.mk_append_mk x y

end Go.Proofs.Ytfemfmkgdgcemaa
