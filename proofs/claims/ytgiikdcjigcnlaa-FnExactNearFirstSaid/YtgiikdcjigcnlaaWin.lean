
/-
  A slice from the middle of a block to its end, of the call's own: append to it. (Memory.)
-/
import Derived.Test.YtgiikdcjigcnlaaRow

namespace Go.Proofs.Ytgiikdcjigcnlaa
open Go.RowKit

/-- a slice of one-cell elements that begins anywhere in a block of the call's own and may grow up to its end -/
def ownsWin (w : World) (base : Nat) (e : TypeId) (ao : Addr) (n cap : Nat) (xs : List Value) : Prop :=
  ∃ g off cur, ao = ⟨g, off, none⟩ ∧ base ≤ g ∧ w.heap[g]? = some (.cells cur e (0, 0)) ∧ n ≤ cap ∧ cap ≤ maxLen ∧ off + cap ≤ cur.size ∧ xs.length = n ∧ ∀ j v, xs[j]? = some v → cur[off + j]? = some v

theorem ownsWin.cells {w : World} {base : Nat} {e : TypeId} {ao : Addr} {n cap : Nat} {xs : List Value} (h : ownsWin w base e ao n cap xs) : CellsAt w (some ao) xs := fun i u hu => by
  obtain ⟨g, off, cur, rfl, _, hg, _, _, _, _, hc⟩ := h
  refine ⟨g, off, rfl, ?_⟩
  rw [cell_of_row w g (off + i) cur e (0, 0) hg]
  exact hc i u hu
theorem ownsWin.tail {w : World} {base : Nat} {e : TypeId} {g off n cap : Nat} {x : Value} {xs : List Value} (h : ownsWin w base e ⟨g, off, none⟩ (n + 1) cap (x :: xs)) : ownsWin w base e ⟨g, off + 1, none⟩ n (cap - 1) xs := by
  obtain ⟨g', off', cur, he, hb, hg, hn, hc, hs, hl, hx⟩ := h
  simp only [Addr.mk.injEq, and_true] at he
  obtain ⟨rfl, rfl⟩ := he
  refine ⟨g, off + 1, cur, rfl, hb, hg, by omega, by omega, by omega, by simpa using hl, fun j v hv => ?_⟩
  have := hx (j + 1) v (by simpa using hv)
  rw [← this]; congr 1; omega
/-- where what lies behind the first element begins: at the same place if there is no room behind it -/
def tailA (a : Addr) (cap : Nat) : Addr := if cap = 1 then a else a.add 1
theorem tailA_block (a : Addr) (cap : Nat) : (tailA a cap).block = a.block := by
  unfold tailA
  split
  · rfl
  · unfold Addr.add; split <;> rfl
theorem ownsWin.tailA {w : World} {base : Nat} {e : TypeId} {ra : Addr} {n cap : Nat} {x : Value} {xs : List Value} (h : ownsWin w base e ra (n + 1) cap (x :: xs)) : ownsWin w base e (tailA ra cap) n (cap - 1) xs := by
  obtain ⟨g, off, cur, rfl, hb, hg, hn, hc, hs, hl, hx⟩ := h
  by_cases h1 : cap = 1
  · have : xs = [] := by
      have h2 : xs.length = n := by simpa using hl
      exact List.eq_nil_of_length_eq_zero (by omega)
    subst this
    unfold Go.Proofs.Ytgiikdcjigcnlaa.tailA
    rw [if_pos h1]
    exact ⟨g, off, cur, rfl, hb, hg, by omega, by omega, by omega, by simp at hl ⊢; omega, fun j v hv => by simp at hv⟩
  · unfold Go.Proofs.Ytgiikdcjigcnlaa.tailA
    rw [if_neg h1, Addr.add_lit]
    exact (ownsWin.tail ⟨g, off, cur, rfl, hb, hg, hn, hc, hs, hl, hx⟩)
theorem wpList_tail {P : Program} {ops : Array Oper} {rest : List Oper} {o : Oper} {a : Act} {w : World} {Q : Exit → Act → World → Prop} (hgd : o.guard = none) (t : TypeId) (x : Operand)
    (ho : o.op = .slice t x (some (.const (.int .i64 1))) none none) (ra : Addr) (m cap : Nat) (hx : a.eval x = .slice (some ra) m cap) (h1 : 1 ≤ m) (ht : P.underlying t = some (.slice (P.elem t))) (hs : (P.info? (P.elem t)).map (·.size) = some 1)
    (h : wpList P ops Q rest (a.put o.dst (.slice (some (tailA ra cap)) (m - 1) (cap - 1))) w) : wpList P ops Q (o :: rest) a w := by
  refine wpList_plain hgd fun K hK' => ?_
  have h2 := hK' _ _ h
  obtain ⟨i, hi, hi1⟩ : ∃ i, P.info? (P.elem t) = some i ∧ i.size = 1 := by
    cases hh : P.info? (P.elem t) with
    | none => rw [hh] at hs; cases hs
    | some i => rw [hh] at hs; exact ⟨i, rfl, by simpa using hs⟩
  have hc1 : a.eval (.const (.int .i64 1)) = .int .i64 1 := rfl
  unfold Oper.wp
  simp [execOp, ho, hx, hc1, run_sliceAt_slice (h := ht), run_slice_l (ht := ht) (h0 := (by decide : (0 : Int) ≤ 1)) (h1 := (by omega : (1 : Int) ≤ (m : Int))), sizeOf, typeInfo, hi, hi1, sliced, Result.andThen]
  have e : (if cap = 1 then some ra else some (ra.add 1)) = some (tailA ra cap) := by unfold tailA; split <;> rfl
  rw [e]; exact h2
theorem ownsWin.kept {w w' : World} {base : Nat} {e : TypeId} {ao : Addr} {n cap : Nat} {xs : List Value} (h : ownsWin w base e ao n cap xs) (hb : w'.heap[ao.block]? = w.heap[ao.block]?) : ownsWin w' base e ao n cap xs := by
  obtain ⟨g, off, cur, rfl, hbg, hg, rest⟩ := h
  exact ⟨g, off, cur, rfl, hbg, by rw [← hg]; exact hb, rest⟩
theorem ownsWin.lt {w : World} {base : Nat} {e : TypeId} {ao : Addr} {n cap : Nat} {xs : List Value} (h : ownsWin w base e ao n cap xs) : base ≤ ao.block ∧ ao.block < w.heap.size := by
  obtain ⟨g, off, cur, rfl, hb, hg, _⟩ := h
  exact ⟨hb, (Array.getElem?_eq_some_iff.1 hg).1⟩
theorem ownsWin.below {w w' : World} {base : Nat} {e : TypeId} {ao : Addr} {n cap : Nat} {xs : List Value} (h : ownsWin w base e ao n cap xs) (hb : Below w.heap.size w w') : ownsWin w' base e ao n cap xs :=
  h.kept (hb.block _ h.lt.2)
theorem ownsWin.alloc {w : World} {base : Nat} {e : TypeId} {ao : Addr} {n cap : Nat} {xs : List Value} (h : ownsWin w base e ao n cap xs) (o : Obj) : ownsWin (w.alloc o) base e ao n cap xs := h.below (below_alloc w o)
theorem ownsWin.of {w : World} {base : Nat} {e : TypeId} {g n cap : Nat} {xs : List Value} (h : w.ownsRow base e 1 (.slice (some ⟨g, 0, none⟩) n cap) n xs) : ownsWin w base e ⟨g, 0, none⟩ n cap xs := by
  rcases h.2 with ⟨hv, _⟩ | ⟨g', cap', cur, hv, hb, hg, hn, hc, hs, ht⟩
  · cases hv
  · simp only [Value.slice.injEq, Option.some.injEq, Addr.mk.injEq, and_true] at hv
    obtain ⟨rfl, _, rfl⟩ := hv
    refine ⟨g, 0, cur, rfl, hb, hg, hn, hc, by omega, by have := h.1; omega, fun j v hj => ?_⟩
    rw [← ht, List.getElem?_take] at hj
    split at hj
    · rw [Nat.zero_add]; simpa using hj
    · cases hj

theorem run_pushW {P : Program} (w : World) (base : Nat) (t ty e : TypeId) (i : TypeInfo) (z : Value) (bytes : Nat) (ht : P.underlying t = some (.slice e)) (hi : P.info? e = some i) (hz : i.zero = some z)
    (hsize : i.size = 1) (hby : i.bytes = bytes) (hzs : z.cells.size = 1) (ao : Addr) (n cap : Nat) (xs : List Value) (hown : ownsWin w base e ao n cap xs)
    (u : Value) (g c : Nat) (hu : w.cell? ⟨g, 0, none⟩ = some u) (h1 : u.oneCell' = true) (h63 : n + 1 ≤ maxLen) (hbytes : (n + 1) * bytes ≤ 140737488355328) (hbase : base ≤ w.heap.size) :
    ∃ ao' cap' w', (Builtin.append_ #[t, t] ty #[.slice (some ao) n cap, .slice (some ⟨g, 0, none⟩) 1 c]).run P w = .ok (.slice (some ao') (n + 1) cap') w' ∧ ownsWin w' base e ao' (n + 1) cap' (xs ++ [u]) ∧
      w.grownBy w' (some ao.block) ∧ (ao' = ao ∨ w.heap.size ≤ ao'.block) := by
  have hnews : ∀ (j : Nat) (v : Value), [u][j]? = some v → w.cell? ((⟨g, 0, none⟩ : Addr).add j) = some v := by
    intro j v hv
    cases j with
    | zero => simp only [List.getElem?_cons_zero, Option.some.injEq] at hv; subst hv; simpa [Addr.add] using hu
    | succ j => simp at hv
  have h1' : ∀ v ∈ [u], v.oneCell' = true := by simpa using h1
  have hcl := hown.cells
  obtain ⟨g0, off, cur, rfl, hb0, hg0, hnc, hcm, hcs, hxl, hx⟩ := hown
  by_cases hroom : n + 1 ≤ cap
  · have hf := run_firstCells_some (P := P) w i.size 1 ⟨g, 0, none⟩ 1 c [u] (by simp [hsize]) hnews
    have hst := run_storeCells_at P g0 (off + n * i.size) e [u] 0 cur w hg0 (by rw [hsize]; simp; omega) h1'
    simp only [Nat.add_zero] at hst
    refine ⟨⟨g0, off, none⟩, cap, _, by simp [Builtin.append_, run_underlying ht, sizeOf, typeInfo, hi, Builtin.lenOf, hroom, hf, Addr.add_lit, hst]; exact rfl, ?_, ?_, .inl rfl⟩
    · refine ⟨g0, off, _, rfl, hb0, setRow_heap w g0 cur _ e _ hg0, hroom, hcm, ?_, by simp [hxl], fun j v hj => ?_⟩
      · rw [hsize]; simp only [List.size_toArray, List.length_append, List.length_take, List.length_drop, Array.length_toList, List.length_cons]; omega
      · rw [hsize, Nat.mul_one, List.getElem?_toArray]
        rcases Nat.lt_or_ge j n with hjn | hjn
        · rw [List.getElem?_append_left (by rw [hxl]; exact hjn)] at hj
          have := hx j v hj
          rw [List.getElem?_append_left (by rw [List.length_take, Array.length_toList]; omega), List.getElem?_take, if_pos (by omega)]
          simpa using this
        · rw [List.getElem?_append_right (by omega), hxl] at hj
          have hj0 : j - n = 0 := by
            rcases Nat.eq_zero_or_pos (j - n) with h | h
            · exact h
            · rw [List.getElem?_eq_none (by simp; omega)] at hj; cases hj
          rw [hj0] at hj
          obtain rfl : j = n := by omega
          rw [List.getElem?_append_right (by rw [List.length_take, Array.length_toList]; omega), List.length_take, Array.length_toList, Nat.min_eq_left (by omega), Nat.sub_self]
          exact hj
    · exact ⟨rfl, rfl, rfl, by simp, fun k hk hne => setRow_other w g0 k _ (fun e => hne (by rw [e]))⟩
  · have holds : ∀ j v, xs[j]? = some v → w.cell? ((⟨g0, off, none⟩ : Addr).add j) = some v := fun j v hj => by
      obtain ⟨b, o, he, hc⟩ := hcl j v hj
      simp only [Option.some.injEq, Addr.mk.injEq, and_true] at he
      obtain ⟨rfl, rfl⟩ := he
      rw [Addr.add_lit]; exact hc
    have hr := run_append_grow (P := P) w t ty e i z ht hi hz ⟨g0, off, none⟩ n cap xs (by rw [hsize]; omega) holds ⟨g, 0, none⟩ 1 c [u] (by simp [hsize]) hnews (by omega) (by simp only [maxLen] at h63; omega) (growslice_fits (by simp only [maxLen] at h63; omega) (by rw [hby]; exact hbytes))
    refine ⟨_, _, _, hr, ?_, ?_, .inr (Nat.le_refl _)⟩
    rotate_left
    · exact ⟨rfl, rfl, rfl, by simp, fun k hk _ => heap_alloc_old w.drew _ hk⟩
    have hge := grownCap_ge w (n + 1) cap e
    have hcm' : grownCap w (n + 1) cap e ≤ maxLen := grownCap_le_maxLen w (n + 1) cap e h63
    refine ⟨w.heap.size, 0, _, rfl, hbase, heap_alloc_new w.drew _, hge, hcm', ?_, by simp [hxl], fun j v hj => ?_⟩
    · simp only [Array.size_append, List.size_toArray, size_zeroCells, hzs, hxl, List.length_cons, List.length_nil]
      omega
    · rw [Nat.zero_add]
      have hj2 := (List.getElem?_eq_some_iff.1 hj).1
      rw [Array.getElem?_append_left (by simpa using hj2)]
      simpa using hj

theorem wpList_pushW {P : Program} (w : World) {ops : Array Oper} {rest : List Oper} {o : Oper} {a : Act} {Q : Exit → Act → World → Prop} (hgd : o.guard = none) (s x : Operand) (t : TypeId)
    (ho : o.op = .call { callee := .builtin .append, args := #[s, x], argTypes := #[t, t] })
    (base : Nat) (e : TypeId) (i : TypeInfo) (z : Value) (bytes : Nat) (ht : P.underlying t = some (.slice e)) (hi : P.info? e = some i) (hz : i.zero = some z)
    (hsize : i.size = 1) (hby : i.bytes = bytes) (hzs : z.cells.size = 1) (ao : Addr) (n cap : Nat) (xs : List Value) (hs : a.eval s = .slice (some ao) n cap) (hown : ownsWin w base e ao n cap xs)
    (u : Value) (g c : Nat) (hx : a.eval x = .slice (some ⟨g, 0, none⟩) 1 c) (hu : w.cell? ⟨g, 0, none⟩ = some u) (h1 : u.oneCell' = true) (h63 : n + 1 ≤ maxLen) (hbytes : (n + 1) * bytes ≤ 140737488355328) (hbase : base ≤ w.heap.size)
    (h : ∀ ao' cap' w', ownsWin w' base e ao' (n + 1) cap' (xs ++ [u]) → w.grownBy w' (some ao.block) → (ao' = ao ∨ w.heap.size ≤ ao'.block) → wpList P ops Q rest (a.put o.dst (.slice (some ao') (n + 1) cap')) w') : wpList P ops Q (o :: rest) a w := by
  refine wpList_plain hgd fun K hK' => ?_
  obtain ⟨ao', cap', w', hrun, r1, r2, r3⟩ := run_pushW (P := P) w base t o.type e i z bytes ht hi hz hsize hby hzs ao n cap xs hown u g c hu h1 h63 hbytes hbase
  unfold Oper.wp
  simp [execOp, ho, resolve, invoke, builtin, hs, hx, hrun, Result.andThen]
  exact hK' _ _ (h ao' cap' w' r1 r2 r3)

end Go.Proofs.Ytgiikdcjigcnlaa
