/-
  Small facts on rows of bytes made of texts, and on appending a whole slice. No function of the program is named here.
-/
import Derived.Test.YtpgcpmfemcfoaaaRowO

namespace Go.Proofs.Ytpgcpmfemcfoaaa
open Go.RowKit

/-- a block of cells, with a mark -/
def HeldM (W : World) (B : Nat) (t : TypeId) (cs : Array Value) (fr : Nat × Nat) : Prop := W.heap[B]? = some (.cells cs t fr)
theorem HeldM.lt {W : World} {B : Nat} {t : TypeId} {cs : Array Value} {fr : Nat × Nat} (h : HeldM W B t cs fr) : B < W.heap.size := (Array.getElem?_eq_some_iff.1 h).1
theorem HeldM.cell {W : World} {B : Nat} {t : TypeId} {cs : Array Value} {fr : Nat × Nat} (h : HeldM W B t cs fr) (k : Nat) : W.cell? ⟨B, k, none⟩ = cs[k]? := cell_of_row W B k cs t fr h
theorem HeldM.frozen {W : World} {B : Nat} {t : TypeId} {cs : Array Value} {lo hi : Nat} (h : HeldM W B t cs (lo, hi)) {k : Nat} (hk : k < lo) : W.frozen? ⟨B, k, none⟩ = false := by
  unfold World.frozen?
  rw [show W.heap[B]? = _ from h]
  simp
  omega
theorem HeldM.below {W W' : World} {B : Nat} {t : TypeId} {cs : Array Value} {fr : Nat × Nat} (h : HeldM W B t cs fr) (hb : Below W.heap.size W W') : HeldM W' B t cs fr := (hb.block B h.lt).trans h
theorem HeldM.kept {W W' : World} {B : Nat} {t : TypeId} {cs : Array Value} {fr : Nat × Nat} (h : HeldM W B t cs fr) {row : Option Nat} (hg : W.grownBy W' row) (hne : some B ≠ row) : HeldM W' B t cs fr := (hg.block B h.lt hne).trans h
theorem HeldM.set {W : World} {B : Nat} {t : TypeId} {cs : Array Value} {fr : Nat × Nat} (h : HeldM W B t cs fr) (k : Nat) (u : Value) : HeldM (W.setCell ⟨B, k, none⟩ u) B t (cs.setIfInBounds k u) fr := by
  unfold HeldM
  rw [setCell_eq_setRow W B k cs t fr u h]
  exact setRow_heap W B cs _ t fr h

theorem HeldM.bytes {W : World} {B : Nat} {t : TypeId} {cs : Array Value} {fr : Nat × Nat} (h : HeldM W B t cs fr) (l : List UInt8) (r : List Value) (hcs : cs = (l.map byteV ++ r).toArray) : CellsAt W (some ⟨B, 0, none⟩) (l.map byteV) := fun i u hu => by
  refine ⟨B, 0, rfl, ?_⟩
  rw [Nat.zero_add, h.cell i, hcs]
  have hi : i < (l.map byteV).length := by
    rcases Nat.lt_or_ge i (l.map byteV).length with h' | h'
    · exact h'
    · rw [List.getElem?_eq_none h'] at hu; cases hu
  rw [List.getElem?_toArray, List.getElem?_append_left hi, hu]

theorem bytesRow_list (s : ByteArray) (cap : Nat) : bytesRow s cap = (s.data.toList.map byteV ++ List.replicate (cap - s.size) (Value.int .u8 0)).toArray := by
  unfold bytesRow
  apply Array.ext'
  simp
  exact fun _ _ => rfl
theorem bytesRow_len (s : ByteArray) (cap : Nat) (h : s.size ≤ cap) : (bytesRow s cap).size = cap := by
  unfold bytesRow
  rw [Array.size_append, Array.size_map, Array.size_replicate, show s.data.size = s.size from rfl]
  omega

variable {P : Program} {ops : Array Oper} {rest : List Oper} {o : Oper} {a : Act} {w : World} {Q : Exit → Act → World → Prop}

/-- '[]byte(s)': a new block -/
theorem wpList_bytes_of_str (hg : o.guard = none) (src dst e : TypeId) (x : Operand) (hop : o.op = .convert src dst x) (hs : P.underlying src = some .string) (hd : P.underlying dst = some (.slice e)) (he : P.underlying e = some (.int .u8))
    (s : ByteArray) (hx : a.eval x = .string s)
    (hK : ∀ (cap : Nat) (r : List Value) (W : World), s.size ≤ cap → HeldM W w.heap.size e (s.data.toList.map byteV ++ r).toArray (cap, cap + 1) → W.heap.size = w.heap.size + 1 → Below w.heap.size w W →
      wpList P ops Q rest (a.put o.dst (.slice (some ⟨w.heap.size, 0, none⟩) s.size cap)) W) : wpList P ops Q (o :: rest) a w := by
  refine wpList_plain hg fun K hK' => ?_
  have hrun := run_bytes_of_string (P := P) w src dst e s hs hd he
  have hcap := grownCap_ge w s.size 0 e
  have hlen := bytesRow_len s _ hcap
  rw [hlen] at hrun
  have hK2 := hK (grownCap w s.size 0 e) (List.replicate (grownCap w s.size 0 e - s.size) (Value.int .u8 0)) (w.drew.alloc (.cells (bytesRow s (grownCap w s.size 0 e)) e (grownCap w s.size 0 e, grownCap w s.size 0 e + 1))) hcap
    (by rw [← bytesRow_list]; exact heap_alloc_new w.drew (.cells (bytesRow s (grownCap w s.size 0 e)) e (grownCap w s.size 0 e, grownCap w s.size 0 e + 1)))
    (World.size_alloc w.drew _) ((show Below w.heap.size w w.drew from below_drewN _ w 1).alloc (Nat.le_refl _) _)
  unfold Oper.wp
  simp [execOp, hop, hx, hrun, Result.andThen]
  exact hK' _ _ hK2

/-- append of a whole slice -/
theorem wpList_join (hgd : o.guard = none) (s x : Operand) (t : TypeId)
    (ho : o.op = .call { callee := .builtin .append, args := #[s, x], argTypes := #[t, t] })
    (base : Nat) (e : TypeId) (i : TypeInfo) (z : Value) (bytes : Nat) (ht : P.underlying t = some (.slice e)) (hi : P.info? e = some i) (hz : i.zero = some z)
    (hsize : i.size = 1) (hby : i.bytes = bytes) (hzs : z.cells.size = 1) (ao : Option Addr) (n cap : Nat) (xs : List Value) (hs : a.eval s = .slice ao n cap) (hown : w.ownsRow base e 1 (.slice ao n cap) n xs)
    (bo : Option Addr) (m c N : Nat) (hN : n + m = N) (hx : a.eval x = .slice bo m c) (ys : List Value) (hm : ys.length = m) (hpos : 0 < m) (hy : CellsAt w bo ys) (h1 : ∀ u ∈ ys, u.oneCell' = true) (h63 : N ≤ maxLen) (hbytes : N * bytes ≤ 140737488355328) (hbase : base ≤ w.heap.size)
    (h : ∀ ao' cap' w', w'.ownsRow base e 1 (.slice ao' N cap') N (xs ++ ys) → w.grownBy w' (Value.ownBlock (.slice ao n cap)) → wpList P ops Q rest (a.put o.dst (.slice ao' N cap')) w') : wpList P ops Q (o :: rest) a w := by
  refine wpList_plain hgd fun K hK' => ?_
  subst hN
  obtain ⟨b, off, rfl, _⟩ := hy 0 _ (List.getElem?_eq_getElem (show 0 < ys.length by omega))
  have hnews : ∀ (j : Nat) (v : Value), ys[j]? = some v → w.cell? ((⟨b, off, none⟩ : Addr).add j) = some v := by
    intro j v hv
    obtain ⟨b', off', he, hc⟩ := hy j v hv
    simp only [Option.some.injEq, Addr.mk.injEq, and_true] at he
    obtain ⟨rfl, rfl⟩ := he
    unfold Addr.add
    by_cases hj : j = 0
    · subst hj; simpa using hc
    · simpa [hj] using hc
  obtain ⟨v', w', hrun, r1, r2, _⟩ := run_append_own (P := P) w base t o.type e i z 1 bytes ht hi hz hsize hby hzs (by decide) _ n xs hown ⟨b, off, none⟩ m c ys (by omega) hnews h1 h63 hbytes hbase
  obtain ⟨ao', cap', rfl, _, _⟩ := ownsRow_cells r1
  unfold Oper.wp
  simp [execOp, ho, resolve, invoke, builtin, hs, hx, hrun, Result.andThen]
  exact hK' _ _ (h ao' cap' w' r1 r2)

end Go.Proofs.Ytpgcpmfemcfoaaa
