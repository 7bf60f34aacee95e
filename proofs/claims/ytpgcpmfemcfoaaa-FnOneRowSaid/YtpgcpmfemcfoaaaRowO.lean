/-
  Merged texts: Base PlanM Row.
-/
import Derived.Test.YtpgcpmfemcfoaaaProg
import Derived.WalkKit
import Derived.WalkSpells
import Derived.WalkLawsBesides
import Derived.Lib.Hide
import Derived.Deep.QuietTactic
import Derived.BigQuiet
import Derived.Maps.AppendAt
import Derived.Laws.IdiomStrings
import Derived.Lib.QuietBelow
import Derived.Deep.LoopGhost

/-
  Small facts on worlds, slices and lists that every walk of this seat uses. No function of the program is named here.
-/
namespace Go.Proofs.Ytpgcpmfemcfoaaa
open Go.RowKit

theorem ret_int {k : IntKind} {a b : Int} (h : a = b) : Ending.returned (.int k a) = .returned (.int k b) := by rw [h]
theorem ret_bool {a b : Bool} (h : a = b) : Ending.returned (.bool a) = .returned (.bool b) := by rw [h]
/-- The cells behind a slice's address hold these values. -/
def CellsAt (w : World) (ao : Option Addr) (xs : List Value) : Prop :=
  ∀ i u, xs[i]? = some u → ∃ b off, ao = some ⟨b, off, none⟩ ∧ w.cell? ⟨b, off + i, none⟩ = some u

theorem CellsAt.nil (w : World) (ao : Option Addr) : CellsAt w ao [] := fun i u h => by simp at h

theorem CellsAt.below {w w' : World} {ao : Option Addr} {xs : List Value} (h : CellsAt w ao xs) (hb : Below w.heap.size w w') : CellsAt w' ao xs := fun i u hu => by
  obtain ⟨b, off, rfl, hc⟩ := h i u hu
  exact ⟨b, off, rfl, (hb.cell (p := ⟨b, off + i, none⟩) (World.block_lt_of_cell? _ _ hc)).trans hc⟩

theorem CellsAt.same {w w' : World} {ao : Option Addr} {xs : List Value} (h : CellsAt w ao xs) (hh : ∀ k, k < w.heap.size → w'.heap[k]? = w.heap[k]?) : CellsAt w' ao xs := fun i u hu => by
  obtain ⟨b, off, rfl, hc⟩ := h i u hu
  exact ⟨b, off, rfl, (World.cell?_of_block (a := ⟨b, off + i, none⟩) (hh b (World.block_lt_of_cell? _ _ hc))).trans hc⟩

theorem CellsAt.drewN {w : World} {ao : Option Addr} {xs : List Value} (h : CellsAt w ao xs) (n : Nat) : CellsAt (w.drewN n) ao xs := h

/-- What the world has grown by leaves the cells as they were, if they lie in another block. -/
theorem CellsAt.grown {w w' : World} {ao : Option Addr} {xs : List Value} {row : Option Nat} (h : CellsAt w ao xs) (hg : w.grownBy w' row) (hne : ∀ a, ao = some a → some a.block ≠ row) : CellsAt w' ao xs := fun i u hu => by
  obtain ⟨b, off, rfl, hc⟩ := h i u hu
  exact ⟨b, off, rfl, hg.cell hc (hne ⟨b, off, none⟩ rfl)⟩

theorem CellsAt.str {w : World} {ao : Option Addr} {l : List ByteArray} (h : CellsAt w ao (l.map Value.string)) (i : Nat) (hi : i < l.length) :
    ∃ b off, ao = some ⟨b, off, none⟩ ∧ w.cell? ⟨b, off + i, none⟩ = some (.string (l.getD i ByteArray.empty)) := by
  refine h i _ ?_
  simp [hi]

theorem CellsAt.int {w : World} {ao : Option Addr} {l : List Int} (h : CellsAt w ao (l.map (Value.int .i64))) (i : Nat) (hi : i < l.length) :
    ∃ b off, ao = some ⟨b, off, none⟩ ∧ w.cell? ⟨b, off + i, none⟩ = some (.int .i64 (l.getD i 0)) := by
  refine h i _ ?_
  simp [hi]

/-- bytes as the model's values -/
def byteV (c : UInt8) : Value := .int .u8 c.toNat

theorem CellsAt.byte {w : World} {ao : Option Addr} {l : List UInt8} (h : CellsAt w ao (l.map byteV)) (i : Nat) (hi : i < l.length) :
    ∃ b off, ao = some ⟨b, off, none⟩ ∧ w.cell? ⟨b, off + i, none⟩ = some (.int .u8 (l.getD i 0).toNat) := by
  refine h i _ ?_
  simp [hi, byteV]

theorem ownsRow_len {w : World} {base : Nat} {e : TypeId} {v : Value} {n : Nat} {xs : List Value} (h : w.ownsRow base e 1 v n xs) : xs.length = n := by
  have := h.1; omega

/-- What the call owns reads as cells; the value is a slice with this length. -/
theorem ownsRow_cells {w : World} {base : Nat} {e : TypeId} {v : Value} {n : Nat} {xs : List Value} (h : w.ownsRow base e 1 v n xs) :
    ∃ ao cap, v = .slice ao n cap ∧ CellsAt w ao xs ∧ (∀ a, ao = some a → base ≤ a.block ∧ a.block < w.heap.size) := by
  have hl := ownsRow_len h
  rcases h.2 with ⟨rfl, rfl⟩ | ⟨g, cap, cur, rfl, hb, hg, _⟩
  · refine ⟨none, 0, rfl, ?_, by simp⟩
    have : xs = [] := List.eq_nil_of_length_eq_zero hl
    subst this
    exact CellsAt.nil _ _
  · refine ⟨_, _, rfl, ?_, ?_⟩
    · intro i u hu
      have hi : i < xs.length := by
        rcases Nat.lt_or_ge i xs.length with h' | h'
        · exact h'
        · simp [List.getElem?_eq_none h'] at hu
      refine ⟨g, 0, rfl, ?_⟩
      rw [Nat.zero_add, h.cellAt i (by omega), hu]
    · intro a ha
      simp only [Option.some.injEq] at ha
      subst ha
      exact ⟨hb, (Array.getElem?_eq_some_iff.1 hg).1⟩

theorem ownsRow_below {w w' : World} {base : Nat} {e : TypeId} {size : Nat} {v : Value} {n : Nat} {xs : List Value} (h : w.ownsRow base e size v n xs) (hb : Below w.heap.size w w') : w'.ownsRow base e size v n xs := by
  refine ⟨h.1, ?_⟩
  rcases h.2 with hn | ⟨g, cap, cur, rfl, hbg, hgg, rest⟩
  · exact .inl hn
  · exact .inr ⟨g, cap, cur, rfl, hbg, (hb.block g (Array.getElem?_eq_some_iff.1 hgg).1).trans hgg, rest⟩

theorem ownsRow_base {w : World} {base base' : Nat} {e : TypeId} {size : Nat} {v : Value} {n : Nat} {xs : List Value} (h : w.ownsRow base e size v n xs) (hb : base' ≤ base) : w.ownsRow base' e size v n xs := by
  refine ⟨h.1, ?_⟩
  rcases h.2 with hn | ⟨g, cap, cur, rfl, hbg, rest⟩
  · exact .inl hn
  · exact .inr ⟨g, cap, cur, rfl, Nat.le_trans hb hbg, rest⟩

/-- A row of a made slice: it begins in its own block. -/
theorem ownsRow_some {w : World} {base : Nat} {e : TypeId} {v : Value} {n : Nat} {xs : List Value} (h : w.ownsRow base e 1 v n xs) (hn : 0 < n) :
    ∃ g cap, v = .slice (some ⟨g, 0, none⟩) n cap ∧ base ≤ g ∧ g < w.heap.size := by
  rcases h.2 with ⟨_, h0⟩ | ⟨g, cap, cur, rfl, hb, hg, _⟩
  · omega
  · exact ⟨g, cap, rfl, hb, (Array.getElem?_eq_some_iff.1 hg).1⟩

theorem below_drewN (B : Nat) (w : World) (n : Nat) : Below B w (w.drewN n) := ⟨rfl, rfl, rfl, Nat.le_refl _, fun _ _ => rfl⟩
/-- two steps, each of which leaves what was there ahead of it -/
theorem below_step {B : Nat} {w w1 w2 : World} (h : Below B w w1) (hB : B ≤ w1.heap.size) (h2 : Below w1.heap.size w1 w2) : Below B w w2 := h.trans (h2.mono hB)

theorem take_succ_getD {α : Type} (l : List α) (k : Nat) (z : α) (h : k < l.length) : l.take (k + 1) = l.take k ++ [l.getD k z] := by
  rw [List.take_succ_eq_append_getElem h]; simp [h]

theorem drop_getD {α : Type} (l : List α) (k : Nat) (z : α) (h : k < l.length) : l.drop k = l.getD k z :: l.drop (k + 1) := by
  rw [List.drop_eq_getElem_cons h]; simp [h]

theorem getD_mem {α : Type} {l : List α} {k : Nat} (z : α) (h : k < l.length) : l.getD k z ∈ l := by
  simp [h]

theorem bytes_ext {s t : ByteArray} (h : s.data.toList = t.data.toList) : s = t := by
  cases s; cases t; simp only [ByteArray.mk.injEq]; exact Array.toList_inj.1 h

/-- Go's '!=' on texts, as the walk leaves it -/
theorem str_ne {s t : ByteArray} (h : (!s.toList == t.toList) = true) : s ≠ t := by
  rintro rfl; simp at h
theorem str_eq {s t : ByteArray} (h : (!s.toList == t.toList) = false) : s = t := by
  rw [ByteArray.toList_eq, ByteArray.toList_eq] at h
  exact bytes_ext (by simpa using h)

theorem grownBy_trans {w w1 w2 : World} {row : Option Nat} (h : w.grownBy w1 row) (h2 : w1.grownBy w2 row) : w.grownBy w2 row :=
  ⟨h2.os.trans h.os, h2.tape.trans h.tape, h2.output.trans h.output, Nat.le_trans h.size h2.size, fun k hk hr => (h2.block k (Nat.lt_of_lt_of_le hk h.size) hr).trans (h.block k hk hr)⟩

theorem grownBy_of_below {w w' : World} (h : Below w.heap.size w w') (row : Option Nat) : w.grownBy w' row :=
  ⟨h.os, h.tape, h.output, h.size, fun k hk _ => h.block k hk⟩

theorem below_of_grownBy {B : Nat} {w w' : World} {row : Option Nat} (h : w.grownBy w' row) (hB : B ≤ w.heap.size) (hr : ∀ k, row = some k → B ≤ k) : Below B w w' :=
  (Below.refl B w).grown h hB hr

/-- the same world but for a count of draws -/
def Quiet (w w' : World) : Prop := ∃ n, w' = w.drewN n
theorem Quiet.refl (w : World) : Quiet w w := ⟨0, rfl⟩
theorem Quiet.drewN (w : World) (n : Nat) : Quiet w (w.drewN n) := ⟨n, rfl⟩
theorem Quiet.trans {w w1 w2 : World} (h : Quiet w w1) (h2 : Quiet w1 w2) : Quiet w w2 := by
  obtain ⟨n, rfl⟩ := h; obtain ⟨m, rfl⟩ := h2; exact ⟨n + m, by simp⟩
theorem Quiet.then {w w1 : World} (h : Quiet w w1) (n : Nat) : Quiet w (w1.drewN n) := h.trans ⟨n, rfl⟩
theorem Quiet.below {w w1 : World} (h : Quiet w w1) (B : Nat) : Below B w w1 := by
  obtain ⟨n, rfl⟩ := h; exact below_drewN B w n
theorem Quiet.cells {w w1 : World} (h : Quiet w w1) {ao : Option Addr} {xs : List Value} (hc : CellsAt w ao xs) : CellsAt w1 ao xs := by
  obtain ⟨n, rfl⟩ := h; exact hc
theorem Quiet.size {w w1 : World} (h : Quiet w w1) : w1.heap.size = w.heap.size := by
  obtain ⟨n, rfl⟩ := h; rfl
theorem Quiet.owns {w w1 : World} (h : Quiet w w1) {base : Nat} {e : TypeId} {size : Nat} {v : Value} {n : Nat} {xs : List Value} (ho : w.ownsRow base e size v n xs) : w1.ownsRow base e size v n xs := by
  obtain ⟨n, rfl⟩ := h; exact ho
theorem Quiet.heap {w w1 : World} (h : Quiet w w1) : w1.heap = w.heap := by
  obtain ⟨n, rfl⟩ := h; rfl

/-! ### append, one element at a time -/

/-- The address of a slice that has grown: it is the old one, or lies in a new block. -/
def NewOr (w : World) (ao ao' : Option Addr) : Prop := ∀ a, ao' = some a → ao = some a ∨ w.heap.size ≤ a.block

/-- Two slices of the call's own lie in different blocks. -/
def Apart (ao bo : Option Addr) : Prop := ∀ a b, ao = some a → bo = some b → a.block ≠ b.block

theorem Apart.symm {ao bo : Option Addr} (h : Apart ao bo) : Apart bo ao := fun a b ha hb e => h b a hb ha e.symm
theorem apart_nil (bo : Option Addr) : Apart Option.none bo := fun _ _ h => by cases h
theorem Apart.push {w : World} {ao ao' bo : Option Addr} (h : Apart ao bo) (hn : NewOr w ao ao') (hb : ∀ b, bo = some b → b.block < w.heap.size) : Apart ao' bo := fun a b ha hb' => by
  rcases hn a ha with h' | h'
  · exact h a b h' hb'
  · have := hb b hb'; omega

/-- A slice made ahead of a new block lies apart from it. -/
theorem Apart.fresh {w : World} {ao : Option Addr} {g : Nat} (hb : ∀ a, ao = some a → a.block < w.heap.size) (hg : w.heap.size ≤ g) (off : Nat) (s : Option Nat) : Apart ao (some ⟨g, off, s⟩) := fun a b ha hb' => by
  simp only [Option.some.injEq] at hb'
  subst hb'
  have := hb a ha
  show a.block ≠ g
  omega

theorem owns_lt {w : World} {base : Nat} {e : TypeId} {size : Nat} {ao : Option Addr} {m cap n : Nat} {xs : List Value} (h : w.ownsRow base e size (.slice ao m cap) n xs) : ∀ a, ao = some a → base ≤ a.block ∧ a.block < w.heap.size := fun a ha => by
  subst ha
  exact h.lt a.block rfl

theorem owns_kept {w w' : World} {base : Nat} {e : TypeId} {size : Nat} {ao bo : Option Addr} {m cap n m' cap' : Nat} {xs : List Value} (h : w.ownsRow base e size (.slice ao m cap) n xs) (hg : w.grownBy w' (Value.ownBlock (.slice bo m' cap'))) (ha : Apart ao bo) : w'.ownsRow base e size (.slice ao m cap) n xs := by
  refine h.kept hg ?_
  cases ao with
  | none => exact .inl rfl
  | some a =>
    cases bo with
    | none => exact .inr (by simp [Value.ownBlock])
    | some b => exact .inr (by simp only [Value.ownBlock, ne_eq, Option.some.injEq]; exact ha a b rfl rfl)

theorem run_push {P : Program} (w : World) (base : Nat) (t ty e : TypeId) (i : TypeInfo) (z : Value) (bytes : Nat) (ht : P.underlying t = some (.slice e)) (hi : P.info? e = some i) (hz : i.zero = some z)
    (hsize : i.size = 1) (hby : i.bytes = bytes) (hzs : z.cells.size = 1) (ao : Option Addr) (n cap : Nat) (xs : List Value) (hown : w.ownsRow base e 1 (.slice ao n cap) n xs)
    (u : Value) (g c : Nat) (hu : w.cell? ⟨g, 0, none⟩ = some u) (h1 : u.oneCell' = true) (h63 : n + 1 ≤ maxLen) (hbytes : (n + 1) * bytes ≤ 140737488355328) (hbase : base ≤ w.heap.size) :
    ∃ ao' cap' w', (Builtin.append_ #[t, t] ty #[.slice ao n cap, .slice (some ⟨g, 0, none⟩) 1 c]).run P w = .ok (.slice ao' (n + 1) cap') w' ∧ w'.ownsRow base e 1 (.slice ao' (n + 1) cap') (n + 1) (xs ++ [u]) ∧
      w.grownBy w' (Value.ownBlock (.slice ao n cap)) ∧ NewOr w ao ao' := by
  have hnews : ∀ (j : Nat) (v : Value), [u][j]? = some v → w.cell? ((⟨g, 0, none⟩ : Addr).add j) = some v := by
    intro j v hv
    cases j with
    | zero => simp only [List.getElem?_cons_zero, Option.some.injEq] at hv; subst hv; simpa [Addr.add] using hu
    | succ j => simp at hv
  have h1' : ∀ v ∈ [u], v.oneCell' = true := by simpa using h1
  obtain ⟨v', w', hr, hown', hg, _⟩ := run_append_own (P := P) w base t ty e i z 1 bytes ht hi hz hsize hby hzs (by decide) _ n xs hown ⟨g, 0, none⟩ 1 c [u] (by simp) hnews h1' h63 hbytes hbase
  obtain ⟨ao', cap', rfl, _, _⟩ := ownsRow_cells hown'
  refine ⟨ao', cap', w', hr, hown', hg, ?_⟩
  intro a' ha'
  subst ha'
  rcases hown.2 with ⟨hv, rfl⟩ | ⟨g0, cap0, cur, hv, hbg, hgg, hnc, hcm, hcs, htake⟩
  · simp only [Value.slice.injEq] at hv
    obtain ⟨rfl, _, rfl⟩ := hv
    right
    have hx : xs = [] := List.eq_nil_of_length_eq_zero (by have := hown.1; omega)
    subst hx
    have hr' := run_append_nil (P := P) w t ty e i z ht hi hz ⟨g, 0, none⟩ 1 c [u] (by simp [hsize]) hnews (by decide) (by simp only [maxLen] at h63; omega) (by rw [hby]; omega)
    rw [hr'] at hr
    simp only [Result.ok.injEq, Value.slice.injEq, Option.some.injEq] at hr
    have := hr.1.1
    rw [← this]
    exact Nat.le_refl _
  · simp only [Value.slice.injEq] at hv
    obtain ⟨rfl, _, rfl⟩ := hv
    by_cases hroom : n + 1 ≤ cap
    · left
      have hr' := run_append_room (P := P) w t ty e i ht hi g0 n cap cur hgg ⟨g, 0, none⟩ 1 c [u] (by simp [hsize]) hnews h1' hroom (by rw [hsize]; simp; omega)
      rw [hr'] at hr
      simp only [Result.ok.injEq, Value.slice.injEq] at hr
      exact hr.1.1
    · right
      have holds : ∀ j v, xs[j]? = some v → w.cell? ((⟨g0, 0, none⟩ : Addr).add j) = some v := hown.cells (g := g0) rfl
      have hr' := run_append_grow (P := P) w t ty e i z ht hi hz ⟨g0, 0, none⟩ n cap xs (by rw [hsize]; exact hown.1) holds ⟨g, 0, none⟩ 1 c [u] (by simp [hsize]) hnews (by omega) (by simp only [maxLen] at h63; omega) (growslice_fits (by simp only [maxLen] at h63; omega) (by rw [hby]; exact hbytes))
      rw [hr'] at hr
      simp only [Result.ok.injEq, Value.slice.injEq, Option.some.injEq] at hr
      rw [← hr.1.1]
      exact Nat.le_refl _

theorem wpList_push {P : Program} (w : World) {ops : Array Oper} {rest : List Oper} {o : Oper} {a : Act} {Q : Exit → Act → World → Prop} (hgd : o.guard = none) (s x : Operand) (t : TypeId)
    (ho : o.op = .call { callee := .builtin .append, args := #[s, x], argTypes := #[t, t] })
    (base : Nat) (e : TypeId) (i : TypeInfo) (z : Value) (bytes : Nat) (ht : P.underlying t = some (.slice e)) (hi : P.info? e = some i) (hz : i.zero = some z)
    (hsize : i.size = 1) (hby : i.bytes = bytes) (hzs : z.cells.size = 1) (ao : Option Addr) (n cap : Nat) (xs : List Value) (hs : a.eval s = .slice ao n cap) (hown : w.ownsRow base e 1 (.slice ao n cap) n xs)
    (u : Value) (g c : Nat) (hx : a.eval x = .slice (some ⟨g, 0, none⟩) 1 c) (hu : w.cell? ⟨g, 0, none⟩ = some u) (h1 : u.oneCell' = true) (h63 : n + 1 ≤ maxLen) (hbytes : (n + 1) * bytes ≤ 140737488355328) (hbase : base ≤ w.heap.size)
    (h : ∀ ao' cap' w', w'.ownsRow base e 1 (.slice ao' (n + 1) cap') (n + 1) (xs ++ [u]) → w.grownBy w' (Value.ownBlock (.slice ao n cap)) → NewOr w ao ao' → wpList P ops Q rest (a.put o.dst (.slice ao' (n + 1) cap')) w') : wpList P ops Q (o :: rest) a w := by
  refine wpList_plain hgd fun K hK' => ?_
  obtain ⟨ao', cap', w', hrun, r1, r2, r3⟩ := run_push (P := P) w base t o.type e i z bytes ht hi hz hsize hby hzs ao n cap xs hown u g c hu h1 h63 hbytes hbase
  unfold Oper.wp
  simp [execOp, ho, resolve, invoke, builtin, hs, hx, hrun, Result.andThen]
  exact hK' _ _ (h ao' cap' w' r1 r2 r3)

theorem cell_below {w w' : World} {a : Addr} {v : Value} (h : w.cell? a = some v) (hb : Below w.heap.size w w') : w'.cell? a = some v :=
  (hb.cell (World.block_lt_of_cell? _ _ h)).trans h
theorem below_alloc (w : World) (o : Obj) : Below w.heap.size w (w.alloc o) := (Below.refl _ _).alloc (Nat.le_refl _) _

/-- Behind an append to another slice of the call's own, whose new element was laid in a block of its own. -/
theorem owns_push_other {w w' : World} {o : Obj} {base : Nat} {e : TypeId} {size : Nat} {ao bo : Option Addr} {m cap n m' cap' : Nat} {xs : List Value} (h : w.ownsRow base e size (.slice ao m cap) n xs) (hg : (w.alloc o).grownBy w' (Value.ownBlock (.slice bo m' cap'))) (ha : Apart ao bo) : w'.ownsRow base e size (.slice ao m cap) n xs :=
  owns_kept (h.alloc o) hg ha

theorem below_push {w w' : World} {o : Obj} {B : Nat} {bo : Option Addr} {m' cap' : Nat} {W : World} (hb : Below B W w) (hB : B ≤ w.heap.size) (hg : (w.alloc o).grownBy w' (Value.ownBlock (.slice bo m' cap'))) (hbo : ∀ b, bo = some b → B ≤ b.block) : Below B W w' :=
  (hb.alloc hB o).trans (below_of_grownBy hg (by rw [World.size_alloc]; omega) (fun k hk => by
    cases bo with
    | none => simp [Value.ownBlock] at hk
    | some b => simp only [Value.ownBlock, Option.some.injEq] at hk; subst hk; exact hbo b rfl))

theorem apart_push {w : World} {o : Obj} {ao ao' bo : Option Addr} (h : Apart ao bo) (hn : NewOr (w.alloc o) ao ao') (hb : ∀ b, bo = some b → b.block < w.heap.size) : Apart ao' bo :=
  h.push hn (fun b hb' => by rw [World.size_alloc]; have := hb b hb'; omega)

theorem owns_eq {w : World} {base : Nat} {e : TypeId} {size : Nat} {v : Value} {n : Nat} {xs ys : List Value} (h : w.ownsRow base e size v n xs) (he : xs = ys) : w.ownsRow base e size v n ys := he ▸ h

theorem byteV_of {n : Int} {m : Nat} (h : n = (m : Int)) (hm : m < 256) : Value.int .u8 n = byteV (UInt8.ofNat m) := by
  subst h; unfold byteV; rw [UInt8.toNat_ofNat', Nat.mod_eq_of_lt hm]

theorem owns_cells {w : World} {base : Nat} {e : TypeId} {ao : Option Addr} {n m cap : Nat} {xs : List Value} (h : w.ownsRow base e 1 (.slice ao m cap) n xs) : CellsAt w ao xs := by
  obtain ⟨ao', cap', hv, hc, _⟩ := ownsRow_cells h
  simp only [Value.slice.injEq] at hv
  obtain ⟨rfl, _, _⟩ := hv
  exact hc

theorem cell_new (w : World) (v : Value) (t : TypeId) : (w.alloc (.cells #[v] t)).cell? ⟨w.heap.size, 0, none⟩ = some v := by
  rw [World.cell?_alloc_at _ _ _ _ rfl]; rfl

theorem rows_step {P : Nat → Prop} {k : Nat} (h : ∀ j, j < k → P j) (hk : P k) : ∀ j, j < k + 1 → P j := fun j hj => by
  rcases Nat.lt_or_ge j k with h' | h'
  · exact h j h'
  · obtain rfl : j = k := by omega
    exact hk

/-! ### texts and bytes -/

theorem size_list (s : ByteArray) : s.data.toList.length = s.size := by rw [Array.length_toList]; rfl

theorem at_list (s : ByteArray) (k : Nat) (h : k < s.size) : s[k] = s.data.toList.getD k 0 := by
  have : k < s.data.toList.length := by rw [size_list]; exact h
  simp only [List.getD_eq_getElem?_getD, List.getElem?_eq_getElem this, Option.getD_some]
  rfl

theorem run_str_of_bytes {P : Program} (w : World) (src dst e : TypeId) (hs : P.underlying src = some (.slice e)) (he : P.underlying e = some (.int .u8)) (hd : P.underlying dst = some .string)
    (ao : Option Addr) (cap : Nat) (l : List UInt8) (h : CellsAt w ao (l.map byteV)) :
    (convert src dst (.slice ao l.length cap)).run P w = .ok (.string ⟨l.toArray⟩) w := by
  cases l with
  | nil =>
    cases ao with
    | none => rw [run_convert_bytes_nil w src e hs he _ _ dst hd]; rfl
    | some a =>
      rw [run_convert_bytes_string w src dst e _ _ cap hs he hd]
      simp [Conv.bytesToString, loadCells, loadCellsFrom]
      rfl
  | cons c l =>
    obtain ⟨b, off, rfl, _⟩ := h.byte 0 (by simp)
    have hc : ∀ i, i < (c :: l).length → w.cell? ⟨b, off + i, none⟩ = some (.int .u8 (((c :: l).map fun d => ((d.toNat : Nat) : Int)).getD i 0)) := fun i hi => by
      obtain ⟨b', off', he', hc⟩ := h.byte i hi
      simp only [Option.some.injEq, Addr.mk.injEq, and_true] at he'
      obtain ⟨rfl, rfl⟩ := he'
      rw [hc]
      simp only [List.getD_eq_getElem?_getD, List.getElem?_map, List.getElem?_eq_getElem hi, Option.map_some, Option.getD_some]
    rw [run_convert_bytes_arg w src e hs he b off _ cap _ (by simp) hc dst hd]
    simp [strOfNums, Function.comp_def]

theorem wpList_str_of_bytes {P : Program} (w : World) {ops : Array Oper} {rest : List Oper} {o : Oper} {a : Act} {Q : Exit → Act → World → Prop} (hg : o.guard = none)
    (src dst e : TypeId) (x : Operand) (hop : o.op = .convert src dst x) (hs : P.underlying src = some (.slice e)) (he : P.underlying e = some (.int .u8)) (hd : P.underlying dst = some .string)
    (ao : Option Addr) (n cap : Nat) (hx : a.eval x = .slice ao n cap) (l : List UInt8) (hn : l.length = n) (h : CellsAt w ao (l.map byteV))
    (hK : wpList P ops Q rest (a.put o.dst (.string ⟨l.toArray⟩)) w) : wpList P ops Q (o :: rest) a w := by
  refine wpList_plain hg fun K hK' => ?_
  subst hn
  have hrun := run_str_of_bytes (P := P) w src dst e hs he hd ao cap l h
  unfold Oper.wp
  simp [execOp, hop, hx, hrun, Result.andThen]
  exact hK' _ _ hK

theorem CellsAt.alloc_lit (w : World) (cs : List Value) (e : TypeId) : CellsAt (w.alloc (.cells cs.toArray e)) (some ⟨w.heap.size, 0, none⟩) cs := fun i u hu =>
  ⟨w.heap.size, 0, rfl, by rw [World.cell?_alloc_at _ _ _ _ rfl]; simpa using hu⟩

end Go.Proofs.Ytpgcpmfemcfoaaa

/-
  Plain mathematics of letters given anew: the different elements of a list in the order in which they first come. No program is named here.
-/
namespace Go.Proofs.Ytpgcpmfemcfoaaa

section
variable {α : Type} [DecidableEq α]

omit [DecidableEq α] in
theorem snoc_ind {P : List α → Prop} (h0 : P []) (h1 : ∀ l c, P l → P (l ++ [c])) (l : List α) : P l := by
  rw [← List.reverse_reverse l]
  induction l.reverse with
  | nil => exact h0
  | cons c t ih => rw [List.reverse_cons]; exact h1 _ _ ih

/-- the different elements of a list, in the order in which they first come -/
def firstsGo (o : List α) (L : List α) : List α := L.foldl (fun o c => if c ∈ o then o else o ++ [c]) o
def firsts (L : List α) : List α := firstsGo [] L

theorem firstsGo_prefix (L : List α) : ∀ o : List α, o <+: firstsGo o L := by
  induction L with
  | nil => exact fun o => List.prefix_refl o
  | cons c L ih =>
    intro o
    unfold firstsGo
    rw [List.foldl_cons]
    split
    · exact ih o
    · exact (List.prefix_append o [c]).trans (ih (o ++ [c]))

theorem firsts_append (P R : List α) : firsts (P ++ R) = firstsGo (firsts P) R := by
  unfold firsts firstsGo; rw [List.foldl_append]

theorem firsts_snoc (P : List α) (c : α) : firsts (P ++ [c]) = if c ∈ firsts P then firsts P else firsts P ++ [c] := by
  rw [firsts_append]; rfl

theorem firsts_prefix (P R : List α) : firsts P <+: firsts (P ++ R) := by
  rw [firsts_append]; exact firstsGo_prefix R _

theorem firsts_mem_snoc (P : List α) (c : α) : c ∈ firsts (P ++ [c]) := by
  rw [firsts_snoc]; split
  · assumption
  · simp

theorem mem_firsts (L : List α) (x : α) : x ∈ firsts L ↔ x ∈ L := by
  induction L using snoc_ind with
  | h0 => simp [firsts, firstsGo]
  | h1 P c ih =>
    rw [firsts_snoc, List.mem_append, List.mem_singleton]
    split
    · rename_i hc
      constructor
      · intro h; exact .inl (ih.1 h)
      · rintro (h | rfl)
        · exact ih.2 h
        · exact hc
    · rw [List.mem_append, List.mem_singleton, ih]

theorem firsts_nodup (L : List α) : (firsts L).Nodup := by
  induction L using snoc_ind with
  | h0 => simp [firsts, firstsGo]
  | h1 P c ih =>
    rw [firsts_snoc]
    split
    · exact ih
    · rename_i hc
      rw [List.nodup_append]
      refine ⟨ih, by simp, ?_⟩
      intro a ha b hb
      rw [List.mem_singleton] at hb
      subst hb
      rintro rfl
      exact hc ha

theorem firsts_len (L : List α) : (firsts L).length ≤ L.length := by
  induction L using snoc_ind with
  | h0 => simp [firsts, firstsGo]
  | h1 P c ih =>
    rw [firsts_snoc, List.length_append]
    split
    · simp; omega
    · simp; omega

theorem idxOf_prefix {o F : List α} (h : o <+: F) {c : α} (hc : c ∈ o) : F.idxOf c = o.idxOf c := by
  obtain ⟨t, rfl⟩ := h
  rw [List.idxOf_append, if_pos hc]

theorem idxOf_not_mem {o : List α} {c : α} (h : c ∉ o) : o.idxOf c = o.length := List.idxOf_eq_length h

/-- the number that an element gets is told by what came ahead of it -/
theorem name_at (P R : List α) (c : α) : (firsts (P ++ c :: R)).idxOf c = (firsts P).idxOf c := by
  have h := idxOf_prefix (firsts_prefix (P ++ [c]) R) (firsts_mem_snoc P c)
  rw [List.append_assoc, List.singleton_append] at h
  rw [h, firsts_snoc]
  split
  · rfl
  · rename_i hc
    rw [List.idxOf_append, if_neg hc, idxOf_not_mem hc]
    simp

theorem idxOf_found {o : List α} {c z : α} {at_ : Nat} (h1 : at_ < o.length) (h2 : ∀ j, j < at_ → o.getD j z ≠ c) (h3 : o.getD at_ z = c) : o.idxOf c = at_ := by
  induction o generalizing at_ with
  | nil => simp at h1
  | cons x o ih =>
    cases at_ with
    | zero => simp only [List.getD_cons_zero] at h3; subst h3; simp
    | succ k =>
      have hx := h2 0 (by omega)
      simp only [List.getD_cons_zero] at hx
      simp only [List.getD_cons_succ] at h3
      rw [List.idxOf_cons, beq_false_of_ne hx, cond_false, ih (at_ := k) (by simpa using h1) (fun j hj => by simpa using h2 (j + 1) (by omega)) h3]

omit [DecidableEq α] in
theorem not_mem_of {o : List α} {c z : α} (h2 : ∀ j, j < o.length → o.getD j z ≠ c) : c ∉ o := by
  intro hc
  obtain ⟨j, hj, rfl⟩ := List.getElem_of_mem hc
  exact h2 j hj (by simp [hj])
end

/-- all bytes of a list of texts -/
def flat (p : List ByteArray) : List UInt8 := p.flatMap fun s => s.data.toList

theorem flat_snoc (p : List ByteArray) (s : ByteArray) : flat (p ++ [s]) = flat p ++ s.data.toList := by simp [flat]

theorem flat_split (p : List ByteArray) (i k : Nat) (h : i < p.length) (hk : k < (p.getD i ByteArray.empty).data.toList.length) :
    flat p = (flat (p.take i) ++ (p.getD i ByteArray.empty).data.toList.take k) ++ (p.getD i ByteArray.empty).data.toList.getD k 0 :: ((p.getD i ByteArray.empty).data.toList.drop (k + 1) ++ flat (p.drop (i + 1))) := by
  conv => lhs; rw [← List.take_append_drop i p, drop_getD p i ByteArray.empty h]
  unfold flat
  rw [List.flatMap_append, List.flatMap_cons]
  conv => lhs; rw [← List.take_append_drop k (p.getD i ByteArray.empty).data.toList, drop_getD _ k 0 hk]
  simp

/-- bytes given anew by an order -/
def namesL (F l : List UInt8) : List UInt8 := l.map fun c => UInt8.ofNat (97 + F.idxOf c)
/-- texts whose letters are given anew, in the order of first cells -/
def namesB (p : List ByteArray) : List ByteArray := p.map fun s => ⟨(namesL (firsts (flat p)) s.data.toList).toArray⟩

theorem namesB_len (p : List ByteArray) : (namesB p).length = p.length := by simp [namesB]

theorem flat_len (p : List ByteArray) (m : Nat) (hs : ∀ s ∈ p, s.size ≤ m) : (flat p).length ≤ p.length * m := by
  induction p with
  | nil => simp [flat]
  | cons s p ih =>
    have h1 := hs s (by simp)
    have h2 := ih (fun t ht => hs t (by simp [ht]))
    have : (flat (s :: p)).length = s.size + (flat p).length := by
      unfold flat; rw [List.flatMap_cons, List.length_append, Array.length_toList]; rfl
    rw [this, List.length_cons, Nat.add_mul]
    omega

theorem namesB_step (p : List ByteArray) (i : Nat) (h : i < p.length) : (namesB p).take (i + 1) = (namesB p).take i ++ [⟨(namesL (firsts (flat p)) (p.getD i ByteArray.empty).data.toList).toArray⟩] := by
  rw [take_succ_getD _ i ByteArray.empty (by rw [namesB_len]; exact h)]
  congr 2
  simp [namesB, h]

theorem namesL_step (F l : List UInt8) (k : Nat) (h : k < l.length) : namesL F (l.take (k + 1)) = namesL F (l.take k) ++ [UInt8.ofNat (97 + F.idxOf (l.getD k 0))] := by
  rw [take_succ_getD l k 0 h]; simp [namesL]

/-! ### folds over cells, row by row -/
def rowFold {σ : Type} (f : Nat → Nat → UInt8 → σ → σ) (i : Nat) : Nat → List UInt8 → σ → σ
  | _, [], st => st
  | k, c :: t, st => rowFold f i (k + 1) t (f i k c st)
def gridFold {σ : Type} (f : Nat → Nat → UInt8 → σ → σ) : Nat → List ByteArray → σ → σ
  | _, [], st => st
  | i, s :: t, st => gridFold f (i + 1) t (rowFold f i 0 s.data.toList st)

theorem rowFold_step {σ : Type} (f : Nat → Nat → UInt8 → σ → σ) (i k : Nat) (l : List UInt8) (st : σ) (h : k < l.length) : rowFold f i k (l.drop k) st = rowFold f i (k + 1) (l.drop (k + 1)) (f i k (l.getD k 0) st) := by
  rw [drop_getD l k 0 h, rowFold]
theorem rowFold_end {σ : Type} (f : Nat → Nat → UInt8 → σ → σ) (i k : Nat) (l : List UInt8) (st : σ) (h : ¬ k < l.length) : rowFold f i k (l.drop k) st = st := by
  rw [List.drop_eq_nil_of_le (by omega), rowFold]
theorem gridFold_step {σ : Type} (f : Nat → Nat → UInt8 → σ → σ) (i : Nat) (p : List ByteArray) (st : σ) (h : i < p.length) : gridFold f i (p.drop i) st = gridFold f (i + 1) (p.drop (i + 1)) (rowFold f i 0 (p.getD i ByteArray.empty).data.toList st) := by
  rw [drop_getD p i ByteArray.empty h, gridFold]
theorem gridFold_end {σ : Type} (f : Nat → Nat → UInt8 → σ → σ) (i : Nat) (p : List ByteArray) (st : σ) (h : ¬ i < p.length) : gridFold f i (p.drop i) st = st := by
  rw [List.drop_eq_nil_of_le (by omega), gridFold]

def roomsF (_ _ : Nat) (c : UInt8) (n : Int) : Int := if n < (c.toNat : Int) - 97 + 1 then (c.toNat : Int) - 97 + 1 else n
def roomsB (p : List ByteArray) : Int := gridFold roomsF 0 p 0
def cellsF (room : Int) (_ _ : Nat) (c : UInt8) (n : Int) : Int := if (c.toNat : Int) - 97 = room then n + 1 else n
def cellsB (p : List ByteArray) (room : Int) : Int := gridFold (cellsF room) 0 p 0
structure Box4 where
  top : Int
  left : Int
  low : Int
  right : Int
def boxF (room : Int) (i k : Nat) (c : UInt8) (b : Box4) : Box4 :=
  if (c.toNat : Int) - 97 = room then ⟨if (i : Int) < b.top then i else b.top, if (k : Int) < b.left then k else b.left, if b.low < (i : Int) then i else b.low, if b.right < (k : Int) then k else b.right⟩ else b
def boxB (p : List ByteArray) (room : Int) : Box4 := gridFold (boxF room) 0 p ⟨p.length, (p.getD 0 ByteArray.empty).size, -1, -1⟩

end Go.Proofs.Ytpgcpmfemcfoaaa

/-
  Blocks of cells as wholes: what they hold, made, read, written; a plan's cells. (No function of the program is walked here.)
-/
namespace Go.Proofs.Ytpgcpmfemcfoaaa
open Go.RowKit

/-- a block of cells that may be written -/
def HeldB (W : World) (B : Nat) (t : TypeId) (cs : Array Value) : Prop := W.heap[B]? = some (.cells cs t (0, 0))
theorem HeldB.lt {W : World} {B : Nat} {t : TypeId} {cs : Array Value} (h : HeldB W B t cs) : B < W.heap.size := (Array.getElem?_eq_some_iff.1 h).1
theorem HeldB.cell {W : World} {B : Nat} {t : TypeId} {cs : Array Value} (h : HeldB W B t cs) (k : Nat) : W.cell? ⟨B, k, none⟩ = cs[k]? := cell_of_row W B k cs t (0, 0) h
theorem HeldB.frozen {W : World} {B : Nat} {t : TypeId} {cs : Array Value} (h : HeldB W B t cs) (k : Nat) : W.frozen? ⟨B, k, none⟩ = false := frozen_of_row W B k cs t h
theorem HeldB.kept {W W' : World} {B : Nat} {t : TypeId} {cs : Array Value} (h : HeldB W B t cs) {row : Option Nat} (hg : W.grownBy W' row) (hne : some B ≠ row) : HeldB W' B t cs := (hg.block B h.lt hne).trans h
theorem HeldB.below {W W' : World} {B : Nat} {t : TypeId} {cs : Array Value} (h : HeldB W B t cs) (hb : Below W.heap.size W W') : HeldB W' B t cs := (hb.block B h.lt).trans h
theorem HeldB.new (W : World) (t : TypeId) (cs : Array Value) : HeldB (W.alloc (.cells cs t)) W.heap.size t cs := heap_alloc_new W _
theorem HeldB.alloc {W : World} {B : Nat} {t : TypeId} {cs : Array Value} (h : HeldB W B t cs) (o : Obj) : HeldB (W.alloc o) B t cs := h.below (below_alloc W o)
theorem HeldB.other {W : World} {B : Nat} {t : TypeId} {cs : Array Value} (h : HeldB W B t cs) {a : Addr} (hne : B ≠ a.block) (u : Value) : HeldB (W.setCell a u) B t cs := (Below.heap_setCell W a u B hne).trans h
/-- the cells of a plan: rows, columns, rooms, and the room of each cell of six rows of six -/
def planC (h w r : Nat) (g : Nat → Nat → Nat) : Array Value :=
  (.int .i64 (h : Int) :: .int .i64 (w : Int) :: .int .i64 (r : Int) :: (List.range 36).map fun i => .int .i64 ((g (i / 6) (i % 6) : Nat) : Int)).toArray

theorem planC_size (h w r : Nat) (g : Nat → Nat → Nat) : (planC h w r g).size = 39 := by simp [planC]
theorem planC_0 (h w r : Nat) (g : Nat → Nat → Nat) : (planC h w r g)[0]? = some (.int .i64 h) := by simp [planC]
theorem planC_1 (h w r : Nat) (g : Nat → Nat → Nat) : (planC h w r g)[1]? = some (.int .i64 w) := by simp [planC]
theorem planC_2 (h w r : Nat) (g : Nat → Nat → Nat) : (planC h w r g)[2]? = some (.int .i64 r) := by simp [planC]
theorem planC_at (h w r : Nat) (g : Nat → Nat → Nat) (i j : Nat) (hi : i < 6) (hj : j < 6) : (planC h w r g)[3 + i * 6 + j]? = some (.int .i64 (g i j : Nat)) := by
  have h1 : (i * 6 + j) / 6 = i := by omega
  have h2 : (i * 6 + j) % 6 = j := by omega
  have h3 : i * 6 + j < 36 := by omega
  unfold planC
  rw [List.getElem?_toArray, show 3 + i * 6 + j = (i * 6 + j) + 1 + 1 + 1 from by omega, List.getElem?_cons_succ, List.getElem?_cons_succ, List.getElem?_cons_succ, List.getElem?_map, List.getElem?_range h3]
  simp [h1, h2]

/-- the cells of no plan -/
def zeroC : Array Value := planC 0 0 0 (fun _ _ => 0)

theorem HeldB.set {W : World} {B : Nat} {t : TypeId} {cs : Array Value} (h : HeldB W B t cs) (k : Nat) (u : Value) : HeldB (W.setCell ⟨B, k, none⟩ u) B t (cs.setIfInBounds k u) :=
  heap_setCell_same W B k cs t u h
theorem HeldB.eq {W : World} {B : Nat} {t : TypeId} {cs cs' : Array Value} (h : HeldB W B t cs) (he : cs = cs') : HeldB W B t cs' := he ▸ h
theorem HeldB.drew {W : World} {B : Nat} {t : TypeId} {cs : Array Value} (h : HeldB W B t cs) : HeldB W.drew B t cs := h

theorem setRow_alloc (W : World) (t : TypeId) (Z C : Array Value) : (W.alloc (.cells Z t)).setRow W.heap.size C = W.alloc (.cells C t) := by
  unfold World.setRow World.alloc
  congr 1
  apply Array.ext_getElem?
  intro i
  rw [Array.getElem?_modify, Array.getElem?_push, Array.getElem?_push]
  by_cases h : i = W.heap.size
  · subst h; simp
  · rw [if_neg (Ne.symm h), if_neg h, if_neg h]

theorem zero_planC : zeroC = #[.int .i64 0, .int .i64 0, .int .i64 0, .int .i64 0, .int .i64 0, .int .i64 0, .int .i64 0, .int .i64 0, .int .i64 0, .int .i64 0, .int .i64 0, .int .i64 0, .int .i64 0, .int .i64 0, .int .i64 0, .int .i64 0, .int .i64 0, .int .i64 0, .int .i64 0, .int .i64 0, .int .i64 0, .int .i64 0, .int .i64 0, .int .i64 0, .int .i64 0, .int .i64 0, .int .i64 0, .int .i64 0, .int .i64 0, .int .i64 0, .int .i64 0, .int .i64 0, .int .i64 0, .int .i64 0, .int .i64 0, .int .i64 0, .int .i64 0, .int .i64 0, .int .i64 0] := by kernel_rfl

theorem zero_plan (w : World) : (zeroValue 47).run Try.prog w = .ok (.agg zeroC) w := by
  rw [zero_planC]; exact Try.zeroValue47 w

theorem planC_one (h w r : Nat) (g : Nat → Nat → Nat) : (planC h w r g).all (·.oneCell') = true := by
  rw [Array.all_eq_true_iff_forall_mem]
  intro v hv
  unfold planC at hv
  rw [List.mem_toArray, List.mem_cons, List.mem_cons, List.mem_cons, List.mem_map] at hv
  rcases hv with rfl | rfl | rfl | ⟨_, _, rfl⟩ <;> rfl

theorem plan_size (h w r : Nat) (g : Nat → Nat → Nat) : (Try.prog.info? 47).map (·.size) = some (planC h w r g).size := by
  rw [planC_size]; kernel_rfl

section
variable {P : Program} {ops : Array Oper} {rest : List Oper} {o : Oper} {a : Act} {w : World} {Q : Exit → Act → World → Prop}

/-- a variable is made with its zero cells -/
theorem wpList_alloc_zero (hgd : o.guard = none) (t : TypeId) (ho : o.op = .alloc t) (Z : Array Value) (hz : ∀ w, (zeroValue t).run P w = .ok (.agg Z) w)
    (h : wpList P ops Q rest (a.put o.dst (.pointer (some ⟨w.heap.size, 0, none⟩))) (w.alloc (.cells Z t))) : wpList P ops Q (o :: rest) a w := by
  refine wpList_plain hgd fun K hK' => ?_
  unfold Oper.wp
  simp [execOp, ho, Instr.alloc, hz, newVar, newRow, Result.andThen, Value.cells]
  exact hK' _ _ h

/-- an aggregate built out of parts, by its cells -/
theorem wpList_build_as (hg : o.guard = none) (t : TypeId) (parts : Array (Nat × Operand)) (ho : o.op = .build t parts) (C : Array Value)
    (hf : P.built t (parts.map fun (i, x) => (i, a.eval x)).toList = some C) (h : wpList P ops Q rest (a.put o.dst (.agg C)) w) : wpList P ops Q (o :: rest) a w := by
  refine wpList_build hg t parts ho (by rw [hf]; rfl) ?_
  rw [hf]
  exact h

/-- a whole block is read, in an operation that a guard lets by -/
theorem wpList_load_row_guard (hw : Region.wanted o (yielded ops a.tmps) = true) (ty : TypeId) (x : Operand) (ho : o.op = .load ty x)
    (g : Nat) (hx : a.eval x = .pointer (some ⟨g, 0, none⟩)) (t : TypeId) (cs : Array Value) (fr : Nat × Nat) (d : TypeDesc) (hg : w.heap[g]? = some (.cells cs t fr))
    (hu : P.underlying ty = some d) (hd : (match d with | .struct _ | .array _ _ => true | _ => false) = true) (hi : (P.info? ty).map (·.size) = some cs.size)
    (h : wpList P ops Q rest (a.put o.dst (.agg cs)) w) : wpList P ops Q (o :: rest) a w :=
  wpList_step fun K hK => by
    rw [if_pos hw]
    exact wp_load_row ty x ho g hx t cs fr d hg hu hd hi (hK _ _ h)

/-- a whole block is written -/
theorem HeldB.setRow {W : World} {B : Nat} {t : TypeId} {cs : Array Value} (h : HeldB W B t cs) (cs' : Array Value) : HeldB (W.setRow B cs') B t cs' := setRow_heap W B cs cs' t (0, 0) h
theorem HeldB.otherRow {W : World} {B B' : Nat} {t : TypeId} {cs : Array Value} (h : HeldB W B t cs) (hne : B ≠ B') (cs' : Array Value) : HeldB (W.setRow B' cs') B t cs := (setRow_other W B' B cs' hne).trans h
theorem below_setRowB {B : Nat} {W w : World} (h : Below B W w) {g : Nat} (hg : B ≤ g) (cs : Array Value) : Below B W (w.setRow g cs) :=
  h.trans ⟨rfl, rfl, rfl, by simp, fun k hk => setRow_other w g k cs (by omega)⟩

/-- a whole block that has just been made is written -/
theorem wpList_store_new (hgd : o.guard = none) (ty : TypeId) (x y : Operand) (ho : o.op = .store ty x y) (W : World) (Z C : Array Value) (hw : w = W.alloc (.cells Z ty))
    (hx : a.eval x = .pointer (some ⟨W.heap.size, 0, none⟩)) (hy : a.eval y = .agg C) (hi : (P.info? ty).map (·.size) = some C.size) (hold : Z.size = C.size) (h1 : C.all (·.oneCell') = true)
    (h : wpList P ops Q rest (a.put o.dst undef) (W.alloc (.cells C ty))) : wpList P ops Q (o :: rest) a w := by
  subst hw
  refine wpList_store_row hgd ty x y ho W.heap.size C hx hy ty Z (HeldB.new W ty Z) hi hold h1 ?_
  rw [setRow_alloc]
  exact h
end

end Go.Proofs.Ytpgcpmfemcfoaaa
