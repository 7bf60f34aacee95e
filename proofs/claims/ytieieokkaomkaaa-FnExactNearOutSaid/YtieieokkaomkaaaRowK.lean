
/-
  Slices of the call's own whose elements are several cells: append, reading. (No function of the program is named.)
-/
import Derived.Test.YtieieokkaomkaaaRow
import Derived.Great.BuildSlice
namespace Go.Proofs.Ytieieokkaomkaaa
open Go.RowKit

theorem ownsRow_shape {w : World} {base : Nat} {e : TypeId} {size : Nat} {v : Value} {n : Nat} {xs : List Value} (h : w.ownsRow base e size v n xs) : ∃ ao cap, v = .slice ao n cap := by
  rcases h.2 with ⟨rfl, rfl⟩ | ⟨g, cap, _, rfl, _⟩
  · exact ⟨none, 0, rfl⟩
  · exact ⟨_, cap, rfl⟩

theorem ownsK_cells {w : World} {base : Nat} {e : TypeId} {size : Nat} {ao : Option Addr} {m cap n : Nat} {xs : List Value} (h : w.ownsRow base e size (.slice ao m cap) n xs) : CellsAt w ao xs := fun i u hu => by
  rcases h.2 with ⟨hv, hn⟩ | ⟨g, cap', cur, hv, hb, hg, _⟩
  · have hl := h.1
    rw [hn, Nat.zero_mul] at hl
    rw [List.eq_nil_of_length_eq_zero hl] at hu; simp at hu
  · have hv' := hv
    simp only [Value.slice.injEq] at hv'
    obtain ⟨rfl, _, rfl⟩ := hv'
    refine ⟨g, 0, rfl, ?_⟩
    have := h.cells (g := g) rfl i u hu
    rwa [Addr.add_lit] at this

theorem run_pushK {P : Program} (w : World) (base : Nat) (t ty e : TypeId) (i : TypeInfo) (z : Value) (size bytes : Nat) (ht : P.underlying t = some (.slice e)) (hi : P.info? e = some i) (hz : i.zero = some z)
    (hsize : i.size = size) (hby : i.bytes = bytes) (hzs : z.cells.size = size) (hs0 : 0 < size) (ao : Option Addr) (n cap : Nat) (xs : List Value) (hown : w.ownsRow base e size (.slice ao n cap) n xs)
    (us : List Value) (m g off c : Nat) (hm : 0 < m) (hl : us.length = m * size) (hu : ∀ j v, us[j]? = some v → w.cell? ⟨g, off + j, none⟩ = some v) (h1 : ∀ v ∈ us, v.oneCell' = true) (h63 : n + m ≤ maxLen) (hbytes : (n + m) * bytes ≤ 140737488355328) (hbase : base ≤ w.heap.size) :
    ∃ ao' cap' w', (Builtin.append_ #[t, t] ty #[.slice ao n cap, .slice (some ⟨g, off, none⟩) m c]).run P w = .ok (.slice ao' (n + m) cap') w' ∧ w'.ownsRow base e size (.slice ao' (n + m) cap') (n + m) (xs ++ us) ∧
      w.grownBy w' (Value.ownBlock (.slice ao n cap)) ∧ NewOr w ao ao' := by
  have hnews : ∀ (j : Nat) (v : Value), us[j]? = some v → w.cell? ((⟨g, off, none⟩ : Addr).add j) = some v := fun j v hv => by
    rw [Addr.add_lit]
    exact hu j v hv
  obtain ⟨v', w', hr, hown', hg, _⟩ := run_append_own (P := P) w base t ty e i z size bytes ht hi hz hsize hby hzs hs0 _ n xs hown ⟨g, off, none⟩ m c us hl hnews h1 h63 hbytes hbase
  obtain ⟨ao', cap', rfl⟩ := ownsRow_shape hown'
  refine ⟨ao', cap', w', hr, hown', hg, ?_⟩
  intro a' ha'
  subst ha'
  rcases hown.2 with ⟨hv, rfl⟩ | ⟨g0, cap0, cur, hv, hbg, hgg, hnc, hcm, hcs, htake⟩
  · simp only [Value.slice.injEq] at hv
    obtain ⟨rfl, _, rfl⟩ := hv
    right
    have hx : xs = [] := List.eq_nil_of_length_eq_zero (by have := hown.1; rw [Nat.zero_mul] at this; exact this)
    subst hx
    have hr' := run_append_nil (P := P) w t ty e i z ht hi hz ⟨g, off, none⟩ m c us (by rw [hsize]; exact hl) hnews hm (by simp only [maxLen] at h63; omega) (by rw [hby]; rw [Nat.zero_add] at hbytes; omega)
    rw [hr'] at hr
    simp only [Result.ok.injEq, Value.slice.injEq, Option.some.injEq] at hr
    have := hr.1.1
    rw [← this]
    exact Nat.le_refl _
  · simp only [Value.slice.injEq] at hv
    obtain ⟨rfl, _, rfl⟩ := hv
    by_cases hroom : n + m ≤ cap
    · left
      have hr' := run_append_room (P := P) w t ty e i ht hi g0 n cap cur hgg ⟨g, off, none⟩ m c us (by rw [hsize]; exact hl) hnews h1 hroom (by rw [hsize, hl, hcs, ← Nat.add_mul]; exact Nat.mul_le_mul_right _ hroom)
      rw [hr'] at hr
      simp only [Result.ok.injEq, Value.slice.injEq] at hr
      exact hr.1.1
    · right
      have holds : ∀ j v, xs[j]? = some v → w.cell? ((⟨g0, 0, none⟩ : Addr).add j) = some v := hown.cells (g := g0) rfl
      have hr' := run_append_grow (P := P) w t ty e i z ht hi hz ⟨g0, 0, none⟩ n cap xs (by rw [hsize]; exact hown.1) holds ⟨g, off, none⟩ m c us (by rw [hsize]; exact hl) hnews (by omega) (by simp only [maxLen] at h63; omega) (growslice_fits (by simp only [maxLen] at h63; omega) (by rw [hby]; exact hbytes))
      rw [hr'] at hr
      simp only [Result.ok.injEq, Value.slice.injEq, Option.some.injEq] at hr
      rw [← hr.1.1]
      exact Nat.le_refl _

theorem wpList_pushK {P : Program} (w : World) {ops : Array Oper} {rest : List Oper} {o : Oper} {a : Act} {Q : Exit → Act → World → Prop} (hgd : o.guard = none) (s x : Operand) (t : TypeId)
    (ho : o.op = .call { callee := .builtin .append, args := #[s, x], argTypes := #[t, t] })
    (base : Nat) (e : TypeId) (i : TypeInfo) (z : Value) (size bytes : Nat) (ht : P.underlying t = some (.slice e)) (hi : P.info? e = some i) (hz : i.zero = some z)
    (hsize : i.size = size) (hby : i.bytes = bytes) (hzs : z.cells.size = size) (hs0 : 0 < size) (ao : Option Addr) (n cap : Nat) (xs : List Value) (hs : a.eval s = .slice ao n cap) (hown : w.ownsRow base e size (.slice ao n cap) n xs)
    (us : List Value) (m g off c : Nat) (hx : a.eval x = .slice (some ⟨g, off, none⟩) m c) (hm : 0 < m) (hl : us.length = m * size) (hu : ∀ j v, us[j]? = some v → w.cell? ⟨g, off + j, none⟩ = some v) (h1 : ∀ v ∈ us, v.oneCell' = true) (h63 : n + m ≤ maxLen) (hbytes : (n + m) * bytes ≤ 140737488355328) (hbase : base ≤ w.heap.size)
    (h : ∀ ao' cap' w', w'.ownsRow base e size (.slice ao' (n + m) cap') (n + m) (xs ++ us) → w.grownBy w' (Value.ownBlock (.slice ao n cap)) → NewOr w ao ao' → wpList P ops Q rest (a.put o.dst (.slice ao' (n + m) cap')) w') : wpList P ops Q (o :: rest) a w := by
  refine wpList_plain hgd fun K hK' => ?_
  obtain ⟨ao', cap', w', hrun, r1, r2, r3⟩ := run_pushK (P := P) w base t o.type e i z size bytes ht hi hz hsize hby hzs hs0 ao n cap xs hown us m g off c hm hl hu h1 h63 hbytes hbase
  unfold Oper.wp
  simp [execOp, ho, resolve, invoke, builtin, hs, hx, hrun, Result.andThen]
  exact hK' _ _ (h ao' cap' w' r1 r2 r3)

/-- the cells of a block that has just been made -/
theorem cells_new (w : World) (C : Array Value) (t : TypeId) : ∀ j v, C.toList[j]? = some v → (w.alloc (.cells C t)).cell? ⟨w.heap.size, 0 + j, none⟩ = some v := fun j v hv => by
  rw [Nat.zero_add, (HeldB.new w t C).cell j, ← hv]
  simp

theorem cells_new2 (w : World) (o : Obj) (C : Array Value) (t : TypeId) : ∀ j v, C.toList[j]? = some v → ((w.alloc o).alloc (.cells C t)).cell? ⟨w.heap.size + 1, 0 + j, none⟩ = some v := by
  have := cells_new (w.alloc o) C t
  rwa [World.size_alloc] at this

theorem kept_own {W W' : World} {B : Nat} {t : TypeId} {cs : Array Value} {ao : Option Addr} {m cap : Nat} (h : HeldB W B t cs) (hg : W.grownBy W' (Value.ownBlock (.slice ao m cap))) (hne : ∀ a, ao = some a → a.block ≠ B) : HeldB W' B t cs :=
  h.kept hg (by
    cases ao with
    | none => simp [Value.ownBlock]
    | some a => simp only [Value.ownBlock, ne_eq, Option.some.injEq]; exact fun e => hne a rfl e.symm)
theorem owns_setRow {w : World} {base : Nat} {e : TypeId} {size : Nat} {ao : Option Addr} {m cap n : Nat} {xs : List Value} {B : Nat} (h : w.ownsRow base e size (.slice ao m cap) n xs) (hne : ∀ a, ao = some a → a.block ≠ B) (cs : Array Value) : (w.setRow B cs).ownsRow base e size (.slice ao m cap) n xs := by
  refine ⟨h.1, ?_⟩
  rcases h.2 with hn | ⟨g, cap', cur, hv, hbg, hgg, rest⟩
  · exact .inl hn
  · have hv' := hv
    simp only [Value.slice.injEq] at hv'
    refine .inr ⟨g, cap', cur, hv, hbg, ?_, rest⟩
    rw [setRow_other w B g cs (fun e => hne _ hv'.1 (by rw [e]))]
    exact hgg
theorem grown_lt {w : World} {ao ao' : Option Addr} {B : Nat} (hn : NewOr w ao ao') (h : ∀ a, ao = some a → a.block ≠ B) (hB : B < w.heap.size) : ∀ a, ao' = some a → a.block ≠ B := fun a ha => by
  rcases hn a ha with h' | h'
  · exact h a h'
  · omega

theorem below_of_grownBy' {B : Nat} {W w w' : World} {ao : Option Addr} {m cap : Nat} (hb : Below B W w) (hg : w.grownBy w' (Value.ownBlock (.slice ao m cap))) (hne : ∀ a, ao = some a → B ≤ a.block) (hB : B ≤ W.heap.size := by omega) : Below B W w' :=
  hb.trans (below_of_grownBy hg (Nat.le_trans hB hb.size) (fun k hk => by
    cases ao with
    | none => simp [Value.ownBlock] at hk
    | some a => simp only [Value.ownBlock, Option.some.injEq] at hk; subst hk; exact hne a rfl))

theorem CellsAt.setOther {w : World} {ao : Option Addr} {xs : List Value} (h : CellsAt w ao xs) {p : Addr} (hne : ∀ a, ao = some a → a.block ≠ p.block) (v : Value) : CellsAt (w.setCell p v) ao xs := fun i u hu => by
  obtain ⟨b, off, rfl, hc⟩ := h i u hu
  exact ⟨b, off, rfl, (World.cell?_of_block (a := ⟨b, off + i, none⟩) (Below.heap_setCell w p v b (hne _ rfl))).trans hc⟩

/-- two values compared, whatever the test -/
theorem wpList_bin {P : Program} {w : World} {ops : Array Oper} {rest : List Oper} {o : Oper} {a : Act} {Q : Exit → Act → World → Prop} (hw : Region.wanted o (yielded ops a.tmps) = true) (op : BinOp) (t t2 : TypeId) (x y : Operand) (ho : o.op = .binOp op t x y t2) (v : Value)
    (hgd : (eqGuard op t x y (a.eval x) (a.eval y)).run P w = .ok () w) (hrun : (binOp op t (a.eval x) (a.eval y)).run P w = .ok v w) (h : wpList P ops Q rest (a.put o.dst v) w) : wpList P ops Q (o :: rest) a w :=
  wpList_step fun K hK => by
    rw [if_pos hw]
    unfold Oper.wp
    simp [execOp, ho, hgd, hrun, Result.andThen]
    exact hK _ _ h

/-- a slice of one element that is an aggregate -/
theorem wpList_build1 {P : Program} {w : World} {ops : Array Oper} {rest : List Oper} {o : Oper} {a : Act} {Q : Exit → Act → World → Prop} (hgd : o.guard = none) (t e : TypeId) (x : Operand) (ho : o.op = .buildSlice t 1 #[(0, x)]) (cs : Array Value)
    (hx : a.eval x = .agg cs) (hrun : (Instr.buildSlice t 1 #[(0, .agg cs)]).run P w = .ok (.slice (some ⟨w.heap.size, 0, none⟩) 1 1) (w.alloc (.cells cs e)))
    (h : wpList P ops Q rest (a.put o.dst (.slice (some ⟨w.heap.size, 0, none⟩) 1 1)) (w.alloc (.cells cs e))) : wpList P ops Q (o :: rest) a w := by
  refine wpList_plain hgd fun K hK' => ?_
  unfold Oper.wp
  simp [execOp, ho, hx, hrun, Result.andThen]
  exact hK' _ _ h

end Go.Proofs.Ytieieokkaomkaaa
