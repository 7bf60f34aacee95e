
/-
  Merged texts: ChamM InsK ChamI ChamJ.
-/
import Derived.Test.YtkbgkkempooplaaCut
import Derived.Test.YtkbgkkempooplaaLong
import Derived.Lib.Overlaps
import Derived.Lib.AppendZerosOnto
import Derived.Lib.AppendZeros
import Derived.Laws.Externs
import Derived.Laws.IdiomCopy
import Derived.Laws.NewBlocks
import Derived.Shelf.RegionOpenPlain
import Derived.OneCell

/-
  Neighbours with the lengths along which they lie: lists in order, one cell more. (Plain mathematics.)
-/
namespace Go.Proofs.Ytkbgkkempooplaa
open Go.RowKit

theorem getD_appL {α : Type} {l k : List α} {i : Nat} (z : α) (h : i < l.length) : (l ++ k).getD i z = l.getD i z := by
  rw [List.getD_eq_getElem?_getD, List.getD_eq_getElem?_getD, List.getElem?_append_left h]
theorem getD_appR {α : Type} {l k : List α} {i : Nat} (z : α) (h : l.length ≤ i) : (l ++ k).getD i z = k.getD (i - l.length) z := by
  rw [List.getD_eq_getElem?_getD, List.getD_eq_getElem?_getD, List.getElem?_append_right h]

/-- those of some rooms that have a length, with it -/
def lnkL (l : List Nat) (f : Nat → Nat) : List (Nat × Nat) := (l.filter fun b => decide (0 < f b)).map fun b => (b, f b)
/-- all rooms that have a length, in order, with it -/
def lnk (n : Nat) (f : Nat → Nat) : List (Nat × Nat) := lnkL (List.range n) f
/-- a length one greater -/
def up1 (f : Nat → Nat) (b : Nat) : Nat → Nat := fun x => if x = b then f x + 1 else f x
/-- where a room stands, or would stand -/
def lnkAt (b : Nat) (f : Nat → Nat) : Nat := (lnkL (List.range b) f).length

theorem lnkL_append (l k : List Nat) (f : Nat → Nat) : lnkL (l ++ k) f = lnkL l f ++ lnkL k f := by simp [lnkL]
theorem lnkL_congr {l : List Nat} {f g : Nat → Nat} (h : ∀ b ∈ l, f b = g b) : lnkL l f = lnkL l g := by
  unfold lnkL
  have h1 : (l.filter fun b => decide (0 < f b)) = l.filter fun b => decide (0 < g b) := List.filter_congr fun b hb => by rw [h b hb]
  rw [h1]
  exact List.map_congr_left fun b hb => by rw [h b (List.mem_filter.1 hb).1]
theorem lnkL_mem {l : List Nat} {f : Nat → Nat} {x : Nat × Nat} (h : x ∈ lnkL l f) : x.1 ∈ l ∧ 0 < f x.1 ∧ x.2 = f x.1 := by
  unfold lnkL at h
  obtain ⟨b, hb, rfl⟩ := List.mem_map.1 h
  obtain ⟨h1, h2⟩ := List.mem_filter.1 hb
  exact ⟨h1, by simpa using h2, rfl⟩
theorem lnkL_len (l : List Nat) (f : Nat → Nat) : (lnkL l f).length ≤ l.length := by
  unfold lnkL; rw [List.length_map]; exact List.length_filter_le _ _
theorem lnk_len (n : Nat) (f : Nat → Nat) : (lnk n f).length ≤ n := by have := lnkL_len (List.range n) f; simpa [lnk] using this
theorem range_three {n b : Nat} (h : b < n) : List.range n = List.range b ++ [b] ++ List.range' (b + 1) (n - b - 1) := by
  rw [List.range_eq_range', List.range_eq_range']
  rw [show n = b + (1 + (n - b - 1)) from by omega, ← List.range'_append_1, ← List.range'_append_1, Nat.zero_add]
  rw [show b + (1 + (n - b - 1)) - b - 1 = n - b - 1 from by omega, List.append_assoc]
  rfl
theorem lnk_split {n b : Nat} (h : b < n) (f : Nat → Nat) : lnk n f = lnkL (List.range b) f ++ (if 0 < f b then [(b, f b)] else []) ++ lnkL (List.range' (b + 1) (n - b - 1)) f := by
  unfold lnk
  rw [range_three h, lnkL_append, lnkL_append]
  congr 2
  by_cases hb : 0 < f b <;> simp [lnkL, hb]
theorem lnkAt_le {n b : Nat} (h : b < n) (f : Nat → Nat) : lnkAt b f ≤ (lnk n f).length := by
  rw [lnk_split h f, List.append_assoc, List.length_append]; exact Nat.le_add_right _ _
theorem lnk_mem {n : Nat} {f : Nat → Nat} {x : Nat × Nat} (h : x ∈ lnk n f) : x.1 < n ∧ 0 < f x.1 ∧ x.2 = f x.1 := by
  have := lnkL_mem h; exact ⟨by simpa using this.1, this.2⟩

/-- ahead of its place stand smaller rooms -/
theorem lnk_ahead {n b : Nat} (h : b < n) (f : Nat → Nat) {j : Nat} (hj : j < lnkAt b f) : ((lnk n f).getD j (0, 0)).1 < b := by
  have : (lnk n f).getD j (0, 0) ∈ lnkL (List.range b) f := by
    rw [lnk_split h f, List.append_assoc, getD_appL _ hj]
    exact getD_mem _ hj
  simpa using (lnkL_mem this).1
/-- from its place on stand others that are no smaller -/
theorem lnk_behind {n b : Nat} (h : b < n) (f : Nat → Nat) {j : Nat} (hj : lnkAt b f ≤ j) (hl : j < (lnk n f).length) : b ≤ ((lnk n f).getD j (0, 0)).1 := by
  have : (lnk n f).getD j (0, 0) ∈ (if 0 < f b then [(b, f b)] else []) ++ lnkL (List.range' (b + 1) (n - b - 1)) f := by
    rw [lnk_split h f, List.append_assoc] at hl ⊢
    rw [getD_appR _ hj]
    rw [List.length_append] at hl
    exact getD_mem _ (by unfold lnkAt at hj; omega)
  rw [List.mem_append] at this
  rcases this with h1 | h1
  · split at h1
    · rw [List.mem_singleton] at h1; rw [h1]; exact Nat.le_refl _
    · simp at h1
  · have := (lnkL_mem h1).1
    rw [List.mem_range'_1] at this
    omega
/-- it is there just if it has a length -/
theorem lnk_there {n b : Nat} (h : b < n) (f : Nat → Nat) (hf : 0 < f b) : lnkAt b f < (lnk n f).length ∧ (lnk n f).getD (lnkAt b f) (0, 0) = (b, f b) := by
  rw [lnk_split h f, if_pos hf, List.append_assoc]
  refine ⟨by rw [List.length_append, List.length_append]; unfold lnkAt; simp only [List.length_singleton]; omega, ?_⟩
  unfold lnkAt
  rw [getD_appR _ (Nat.le_refl _), Nat.sub_self]; rfl
theorem lnk_not {n b : Nat} (h : b < n) (f : Nat → Nat) (hf : f b = 0) {j : Nat} (hj : lnkAt b f ≤ j) (hl : j < (lnk n f).length) : b < ((lnk n f).getD j (0, 0)).1 := by
  have h1 := lnk_behind h f hj hl
  rcases Nat.lt_or_ge b ((lnk n f).getD j (0, 0)).1 with h2 | h2
  · exact h2
  · have h3 := lnk_mem (getD_mem (0, 0) hl)
    have : ((lnk n f).getD j (0, 0)).1 = b := by omega
    rw [this] at h3
    omega
theorem up1_self (f : Nat → Nat) (b : Nat) : up1 f b b = f b + 1 := if_pos rfl
theorem up1_other (f : Nat → Nat) {b x : Nat} (h : x ≠ b) : up1 f b x = f x := if_neg h
theorem lnkAt_up (b : Nat) (f : Nat → Nat) : lnkL (List.range b) (up1 f b) = lnkL (List.range b) f := lnkL_congr fun x hx => up1_other f (by have := List.mem_range.1 hx; omega)
theorem lnkR_up (b m : Nat) (f : Nat → Nat) : lnkL (List.range' (b + 1) m) (up1 f b) = lnkL (List.range' (b + 1) m) f := lnkL_congr fun x hx => up1_other f (by have := List.mem_range'_1.1 hx; omega)
/-- one cell more where it is there -/
theorem lnk_more {n b : Nat} (h : b < n) (f : Nat → Nat) (hf : 0 < f b) : lnk n (up1 f b) = (lnk n f).set (lnkAt b f) (b, f b + 1) := by
  rw [lnk_split h f, lnk_split h (up1 f b), up1_self, if_pos hf, if_pos (by omega), lnkAt_up, lnkR_up, List.append_assoc, List.append_assoc]
  unfold lnkAt
  rw [List.set_append_right _ _ (Nat.le_refl _), Nat.sub_self]; rfl
/-- one cell more where it is not there -/
theorem lnk_new {n b : Nat} (h : b < n) (f : Nat → Nat) (hf : f b = 0) : lnk n (up1 f b) = ((lnk n f).take (lnkAt b f) ++ [(b, 0)] ++ (lnk n f).drop (lnkAt b f)).set (lnkAt b f) (b, 1) := by
  have e : lnk n f = lnkL (List.range b) f ++ lnkL (List.range' (b + 1) (n - b - 1)) f := by rw [lnk_split h f, if_neg (by omega), List.append_nil]
  have e2 : lnk n (up1 f b) = lnkL (List.range b) f ++ ((b, 1) :: lnkL (List.range' (b + 1) (n - b - 1)) f) := by
    rw [lnk_split h (up1 f b), up1_self, hf, if_pos (by omega), lnkAt_up, lnkR_up, List.append_assoc]; rfl
  rw [e2, e]
  unfold lnkAt
  rw [List.take_left', List.drop_left', List.append_assoc, List.set_append_right _ _ (Nat.le_refl _), Nat.sub_self]
  · rfl
  · rfl
  · rfl

/-- the cells of links: a pointer to the room's block, and the length -/
def lnkC1 (Q : Nat) (x : Nat × Nat) : List Value := [.pointer (some ⟨Q + x.1, 0, none⟩), .int .i64 (x.2 : Nat)]
def lnkC (Q : Nat) (L : List (Nat × Nat)) : List Value := L.flatMap (lnkC1 Q)
theorem lnkC_append (Q : Nat) (L K : List (Nat × Nat)) : lnkC Q (L ++ K) = lnkC Q L ++ lnkC Q K := by simp [lnkC]
theorem lnkC_len (Q : Nat) (L : List (Nat × Nat)) : (lnkC Q L).length = L.length * 2 := by
  induction L with
  | nil => rfl
  | cons x L ih => unfold lnkC at ih ⊢; rw [List.flatMap_cons, List.length_append, ih, List.length_cons, Nat.succ_mul]; simp [lnkC1]; omega
theorem lnkC_take (Q : Nat) (L : List (Nat × Nat)) (i : Nat) : (lnkC Q L).take (i * 2) = lnkC Q (L.take i) := by
  induction L generalizing i with
  | nil => simp [lnkC]
  | cons x L ih =>
    cases i with
    | zero => simp [lnkC]
    | succ i =>
      unfold lnkC at ih ⊢
      rw [List.flatMap_cons, List.take_succ_cons, List.flatMap_cons, ← ih, show (i + 1) * 2 = (lnkC1 Q x).length + i * 2 from by simp [lnkC1]; omega, List.take_length_add_append]
theorem lnkC_drop (Q : Nat) (L : List (Nat × Nat)) (i : Nat) : (lnkC Q L).drop (i * 2) = lnkC Q (L.drop i) := by
  induction L generalizing i with
  | nil => simp [lnkC]
  | cons x L ih =>
    cases i with
    | zero => simp
    | succ i =>
      unfold lnkC at ih ⊢
      rw [List.flatMap_cons, List.drop_succ_cons, ← ih, show (i + 1) * 2 = (lnkC1 Q x).length + i * 2 from by simp [lnkC1]; omega, List.drop_length_add_append]
theorem lnkC_at (Q : Nat) (L : List (Nat × Nat)) (k j : Nat) (hk : k < L.length) (hj : j < 2) : (lnkC Q L)[k * 2 + j]? = (lnkC1 Q (L.getD k (0, 0)))[j]? := by
  induction L generalizing k with
  | nil => simp at hk
  | cons x L ih =>
    unfold lnkC at ih ⊢
    rw [List.flatMap_cons]
    cases k with
    | zero => rw [Nat.zero_mul, Nat.zero_add, List.getElem?_append_left (by simp [lnkC1]; omega)]; simp
    | succ k =>
      rw [List.getElem?_append_right (by simp [lnkC1]; omega), show (k + 1) * 2 + j - (lnkC1 Q x).length = k * 2 + j from by simp [lnkC1]; omega]
      rw [ih k (by simp at hk; omega)]
      simp
theorem lnkC_one (Q : Nat) (L : List (Nat × Nat)) : ∀ v ∈ lnkC Q L, v.oneCell' = true := by
  intro v hv
  unfold lnkC at hv
  obtain ⟨x, _, hx⟩ := List.mem_flatMap.1 hv
  simp only [lnkC1, List.mem_cons, List.not_mem_nil, or_false] at hx
  rcases hx with rfl | rfl <;> rfl
/-- another length at a place -/
theorem lnkC_set (Q : Nat) (L : List (Nat × Nat)) (k : Nat) (b m m' : Nat) (hk : k < L.length) (hx : L.getD k (0, 0) = (b, m)) : lnkC Q (L.set k (b, m')) = (lnkC Q L).set (k * 2 + 1) (.int .i64 (m' : Nat)) := by
  induction L generalizing k with
  | nil => simp at hk
  | cons x L ih =>
    unfold lnkC at ih ⊢
    cases k with
    | zero =>
      simp at hx; subst hx
      simp [lnkC1]
    | succ k =>
      rw [List.set_cons_succ, List.flatMap_cons, List.flatMap_cons, ih k (by simp at hk; omega) (by simpa using hx), List.set_append_right _ _ (by simp [lnkC1]; omega)]
      congr 2
      simp [lnkC1]; omega

end Go.Proofs.Ytkbgkkempooplaa

/-
  slices.Insert of one link into links: what lies there behind it. (Walks.)
-/
namespace Go.Proofs.Ytkbgkkempooplaa
open Go.RowKit

theorem run_copyK {P : Program} (w : World) (dT sT ty elem : TypeId) (size g o dLen dCap m : Nat) (a : Addr) (sLen sCap : Nat) (cur : Array Value) (t : TypeId) (cs : List Value)
    (hu : P.underlying dT = some (.slice elem)) (hs : (P.info? elem).map (·.size) = some size)
    (hg : w.heap[g]? = some (.cells cur t (0, 0))) (hm : m = Nat.min sLen dLen) (hn : cs.length = m * size)
    (hsrc : ∀ j v, cs[j]? = some v → w.cell? (a.add j) = some v) (hfit : o + cs.length ≤ cur.size) (h1 : ∀ v ∈ cs, v.oneCell' = true) :
    (Builtin.copy_ #[dT, sT] ty #[.slice (some ⟨g, o, none⟩) dLen dCap, .slice (some a) sLen sCap]).run P w =
      .ok (goInt m) (w.setRow g (cur.toList.take o ++ cs ++ cur.toList.drop (o + cs.length)).toArray) := by
  have hl := run_loadCells_list (P := P) w a cs hsrc
  have hst := run_storeCells_at P g o t cs 0 cur w hg (by simpa using hfit) h1
  cases hq : P.info? elem with
  | none => simp [hq] at hs
  | some i =>
    have hi : i.size = size := by simpa [hq] using hs
    simp [Builtin.copy_, run_underlying hu, Builtin.lenOf, Builtin.firstCells, sizeOf, typeInfo, hq, hi, ← hn, ← hm, hl, hst]

theorem wpList_copyK {P : Program} (w : World) {ops : Array Oper} {rest : List Oper} {o : Oper} {a : Act} {Q : Exit → Act → World → Prop} (hgd : o.guard = none) (d s : Operand) (t t' : TypeId)
    (ho : o.op = .call { callee := .builtin .copy, args := #[d, s], argTypes := #[t, t'] }) (v u : Value) (hd : a.eval d = v) (hs : a.eval s = u) {v' : Value} {w' : World}
    (hr : (Builtin.copy_ #[t, t'] o.type #[v, u]).run P w = .ok v' w') (h : wpList P ops Q rest (a.put o.dst v') w') : wpList P ops Q (o :: rest) a w := by
  refine wpList_plain hgd fun K hK' => ?_
  unfold Oper.wp execOp
  simp only [ho, resolve, invoke, builtin, Sem.run_bind, Sem.run_pure, Result.andThen_ok, List.map_toArray, List.map_cons, List.map_nil, hd, hs, hr]
  exact hK' _ _ h
/-- .. and as one step of a region that draws (for 'go_region_law_o'). -/
theorem step_copyK {P : Program} {ops : Array Oper} {o : Oper} {a : Act} {w : World} {K : Act → World → Prop} {Q : Exit → Act → World → Prop} {E : Prop}
    (hg : o.guard = none) (d x : Operand) (dT sT : TypeId) (hop : o.op = Op.call { callee := Callee.builtin Builtin.copy, args := #[d, x], argTypes := #[dT, sT] })
    (v u : Value) (hd : a.eval d = v) (hx : a.eval x = u) {v' : Value} {w' : World} (hr : (Builtin.copy_ #[dT, sT] o.type #[v, u]).run P w = .ok v' w') (hK : K (a.put o.dst v') w') :
    if Region.wanted o (yielded ops a.tmps) = true then Oper.wp P o a w K Q else E := by
  have hw : Region.wanted o (yielded ops a.tmps) = true := by simp [Region.wanted, hg]
  rw [if_pos hw]
  unfold Oper.wp
  simp [execOp, hop, resolve, invoke, builtin, hd, hx, hr, Result.andThen]
  exact hK

theorem wpList_append_run' {P : Program} (w : World) {ops : Array Oper} {rest : List Oper} {o : Oper} {a : Act} {Q : Exit → Act → World → Prop} (hgd : o.guard = none) (s x : Operand) (t t' : TypeId)
    (ho : o.op = .call { callee := .builtin .append, args := #[s, x], argTypes := #[t, t'] }) (v u : Value) (hs : a.eval s = v) (hx : a.eval x = u) {v' : Value} {w' : World}
    (hr : (Builtin.append_ #[t, t'] o.type #[v, u]).run P w = .ok v' w') (h : wpList P ops Q rest (a.put o.dst v') w') : wpList P ops Q (o :: rest) a w := by
  refine wpList_plain hgd fun K hK' => ?_
  unfold Oper.wp execOp
  simp only [ho, resolve, invoke, builtin, Sem.run_bind, Sem.run_pure, Result.andThen_ok, List.map_toArray, List.map_cons, List.map_nil, hs, hx, hr]
  exact hK' _ _ h

/-- two copies into a row: what lies in it then -/
theorem two_copies {cur xs us : List Value} {i n : Nat} (hi : i < n) (hx : xs.length = n * 2) (hu : us.length = 2) (hc : (n + 1) * 2 ≤ cur.length) (ht : cur.take (i * 2) = xs.take (i * 2))
    {c1 c2 : List Value} (h1 : c1 = cur.take ((i + 1) * 2) ++ xs.drop (i * 2) ++ cur.drop ((i + 1) * 2 + (xs.drop (i * 2)).length)) (h2 : c2 = c1.take (i * 2) ++ us ++ c1.drop (i * 2 + us.length)) :
    c1.length = cur.length ∧ c2.length = cur.length ∧ c2.take ((n + 1) * 2) = xs.take (i * 2) ++ us ++ xs.drop (i * 2) := by
  have hd : (xs.drop (i * 2)).length = (n - i) * 2 := by rw [List.length_drop, hx]; omega
  have l1 : c1.length = cur.length := by
    rw [h1, List.length_append, List.length_append, List.length_take, hd, List.length_drop]; omega
  have e1 : c1.take (i * 2) = xs.take (i * 2) := by
    rw [h1, List.append_assoc, List.take_append_of_le_length (by rw [List.length_take]; omega), List.take_take, show min (i * 2) ((i + 1) * 2) = i * 2 from by omega, ht]
  have e2 : c1.drop (i * 2 + us.length) = xs.drop (i * 2) ++ cur.drop ((i + 1) * 2 + (xs.drop (i * 2)).length) := by
    rw [h1, List.append_assoc, hu, show i * 2 + 2 = (cur.take ((i + 1) * 2)).length from by rw [List.length_take]; omega, List.drop_left]
  have l2 : c2.length = cur.length := by
    rw [h2, List.length_append, List.length_append, e1, e2, List.length_append, List.length_take, hd, List.length_drop]; omega
  refine ⟨l1, l2, ?_⟩
  rw [h2, e1, e2, ← List.append_assoc, List.take_left']
  rw [List.length_append, List.length_append, List.length_take, hd]; omega
/-- .. the other way round -/
theorem two_copies' {cur xs us : List Value} {i n : Nat} (hi : i < n) (hx : xs.length = n * 2) (hu : us.length = 2) (hc : (n + 1) * 2 ≤ cur.length) (ht : cur.take (i * 2) = xs.take (i * 2))
    {c1 c2 : List Value} (h1 : c1 = cur.take (i * 2) ++ us ++ cur.drop (i * 2 + us.length)) (h2 : c2 = c1.take ((i + 1) * 2) ++ xs.drop (i * 2) ++ c1.drop ((i + 1) * 2 + (xs.drop (i * 2)).length)) :
    c1.length = cur.length ∧ c2.length = cur.length ∧ c2.take ((n + 1) * 2) = xs.take (i * 2) ++ us ++ xs.drop (i * 2) := by
  have hd : (xs.drop (i * 2)).length = (n - i) * 2 := by rw [List.length_drop, hx]; omega
  have l1 : c1.length = cur.length := by
    rw [h1, List.length_append, List.length_append, List.length_take, List.length_drop]; omega
  have e1 : c1.take ((i + 1) * 2) = xs.take (i * 2) ++ us := by
    rw [h1, ht, List.take_left']
    rw [List.length_append, List.length_take]; omega
  have l2 : c2.length = cur.length := by
    rw [h2, List.length_append, List.length_append, List.length_take, hd, List.length_drop]; omega
  refine ⟨l1, l2, ?_⟩
  rw [h2, e1, List.take_left']
  rw [List.length_append, List.length_append, List.length_take, hd]; omega

theorem Try.infoLnk : (Try.prog.info? 53).map (fun i => (i.zero, i.size, i.bytes)) = some (some (.agg #[.pointer none, .int .i64 0]), 2, 16) := by kernel_rfl
theorem Try.sizeLnk : (Try.prog.info? 53).map (·.size) = some 2 := by kernel_rfl

def InsRet (base : Nat) (w : World) (ao : Option Addr) (n cap : Nat) (ys : List Value) (e : Ending) (w' : World) : Prop :=
  ∃ ao' cap', e = .returned (.slice ao' (n + 1) cap') ∧ w'.ownsRow base 53 2 (.slice ao' (n + 1) cap') (n + 1) ys ∧ w.grownBy w' (Value.ownBlock (.slice ao n cap)) ∧ NewOr w ao ao'

set_option maxRecDepth 100000 in
set_option maxHeartbeats 4000000 in
/-- at the end -/
theorem insert_end (base : Nat) (ao : Option Addr) (n cap : Nat) (xs us : List Value) (vb vc : Nat) (w : World) (hn : n ≤ 1000) (hb : base ≤ w.heap.size) (hown : w.ownsRow base 53 2 (.slice ao n cap) n xs)
    (hul : us.length = 2) (hu1 : ∀ v ∈ us, v.oneCell' = true) (hu : ∀ j v, us[j]? = some v → w.cell? ⟨vb, 0 + j, none⟩ = some v) :
    Calls Try.prog 83 #[.slice ao n cap, .int .i64 n, .slice (some ⟨vb, 0, none⟩) 1 vc] w (InsRet base w ao n cap (xs ++ us)) := by
  obtain ⟨im, hmi, hmz, hm1, hm2⟩ := info_parts Try.infoLnk
  have h63 : n + 1 ≤ maxLen := by unfold maxLen; omega
  have h64 : (n + 1) * 16 ≤ 140737488355328 := by omega
  have HO := Lib.hid hown
  have HU := Lib.hid hu
  have HU1 := Lib.hid hu1
  have HUL := Lib.hid hul
  have hnc : n ≤ cap ∧ (ao = none → n = 0) := by
    rcases hown.2 with ⟨h1, h2⟩ | ⟨g, c, cur, h1, _, _, h2, _⟩
    · simp only [Value.slice.injEq] at h1; omega
    · simp only [Value.slice.injEq] at h1
      obtain ⟨rfl, _, rfl⟩ := h1
      exact ⟨h2, fun h => by cases h⟩
  obtain ⟨hnc1, hnc2⟩ := hnc
  clear hown hu hu1 hul
  cases ao with
  | none =>
    obtain rfl := hnc2 rfl
    go_enter Try.func83, Try.ntmps83
    go_wp2_with (at_builtin; refine wpList_pushK _ rfl _ _ 49 rfl base 53 im _ 2 16 Try.underlying49 hmi hmz hm1 hm2 rfl (by decide) none 0 cap _ rfl HO.out us 1 vb 0 vc rfl (by decide) HUL.out HU.out HU1.out h63 h64 hb ?_; intro ao2 cap2 w2 hown2 hg2 hnew2)
    go_ret
    exact ⟨ao2, cap2, rfl, hown2, hg2, hnew2⟩
  | some a =>
    obtain ⟨g, off, spn⟩ := a
    have hsh : off = 0 ∧ spn = none := by
      rcases HO.out.2 with ⟨h1, _⟩ | ⟨g', c', cur', h1, _⟩
      · simp at h1
      · simp only [Value.slice.injEq, Option.some.injEq, Addr.mk.injEq] at h1; exact ⟨h1.1.2.1, h1.1.2.2⟩
    obtain ⟨rfl, rfl⟩ := hsh
    clear hnc2
    go_enter Try.func83, Try.ntmps83
    go_wp2_with (at_builtin; refine wpList_pushK _ rfl _ _ 49 rfl base 53 im _ 2 16 Try.underlying49 hmi hmz hm1 hm2 rfl (by decide) (some ⟨g, 0, none⟩) n cap _ rfl HO.out us 1 vb 0 vc rfl (by decide) HUL.out HU.out HU1.out h63 h64 hb ?_; intro ao2 cap2 w2 hown2 hg2 hnew2)
    all_goals (go_ret; exact ⟨ao2, cap2, rfl, hown2, hg2, hnew2⟩)

theorem add_lit0 (b off j : Nat) : (⟨b, off, none⟩ : Addr).add j = ⟨b, off + j, none⟩ := Addr.add_lit b off j

set_option maxRecDepth 100000 in
set_option maxHeartbeats 4000000 in
/-- in the middle, where there is room: in place -/
theorem insert_shift (base : Nat) (b n cap i : Nat) (xs us : List Value) (cur : Array Value) (vb vc : Nat) (w : World) (tA : TypeId) (kA : Nat) (hn : n ≤ 1000) (hi : i < n) (hbb : base ≤ b) (hheap : w.heap[b]? = some (.cells cur 53 (0, 0)))
    (hroom : n + 1 ≤ cap) (hcm : cap ≤ maxLen) (hcs : cur.size = cap * 2) (htake : cur.toList.take (n * 2) = xs) (hx1 : ∀ v ∈ xs, v.oneCell' = true) (hvb : vb ≠ b)
    (hul : us.length = 2) (hu1 : ∀ v ∈ us, v.oneCell' = true) (hu : ∀ j v, us[j]? = some v → w.cell? ⟨vb, 0 + j, none⟩ = some v)
    (hsa : w.shape? vb = some (tA, kA)) (hfa : w.frozen? ⟨vb, 0, none⟩ = false) (hfe : w.frozen? ⟨vb, kA, none⟩ = false) :
    Calls Try.prog 83 #[.slice (some ⟨b, 0, none⟩) n cap, .int .i64 i, .slice (some ⟨vb, 0, none⟩) 1 vc] w
      (InsRet base w (some ⟨b, 0, none⟩) n cap (xs.take (i * 2) ++ us ++ xs.drop (i * 2))) := by
  have hxl : xs.length = n * 2 := by rw [← htake, List.length_take, Array.length_toList, hcs]; omega
  have hcl : (n + 1) * 2 ≤ cur.toList.length := by rw [Array.length_toList, hcs]; omega
  have hsb : w.shape? b = some (53, cur.size) := by simp [World.shape?, hheap]
  have hov : ∀ lb cb, (callFunc 93 #[.slice (some ⟨vb, 0, none⟩) 1 vc, .slice (some ⟨b, (i + 1) * 2, none⟩) lb cb]).run Try.prog w = .ok (.value (.bool false)) w := fun lb cb => by
    rw [run_callFunc_extern Try.func93 (by kernel_rfl) (by kernel_rfl) (by kernel_rfl) (e := Extern.SlicesOverlaps.overlaps #[49, 49] #[4]) (by kernel_rfl),
      Lib.run_overlaps_apart w 49 4 53 Try.underlying49 2 Try.sizeOf53 ⟨vb, 0, none⟩ ⟨b, (i + 1) * 2, none⟩ 1 vc lb cb hvb tA 53 kA cur.size hsa hsb (by omega) hfa hfe]
    rfl
  obtain ⟨c1, hc1⟩ : ∃ c1, c1 = cur.toList.take ((i + 1) * 2) ++ xs.drop (i * 2) ++ cur.toList.drop ((i + 1) * 2 + (xs.drop (i * 2)).length) := ⟨_, rfl⟩
  obtain ⟨c2, hc2⟩ : ∃ c2, c2 = c1.take (i * 2) ++ us ++ c1.drop (i * 2 + us.length) := ⟨_, rfl⟩
  obtain ⟨m1, m2, m3⟩ := two_copies hi hxl hul hcl (by rw [← htake, List.take_take, show min (i * 2) (n * 2) = i * 2 from by omega]) hc1 hc2
  have hdl : (xs.drop (i * 2)).length = (n - i) * 2 := by rw [List.length_drop, hxl]; omega
  have hcell : ∀ j v, xs[j]? = some v → w.cell? ⟨b, j, none⟩ = some v := fun j v hv => by
    rw [cell_of_row w b j cur _ (0, 0) hheap, ← Array.getElem?_toList]
    rw [← htake, List.getElem?_take] at hv
    split at hv
    · exact hv
    · cases hv
  have hcp1 : ∀ ty dc sc, (Builtin.copy_ #[49, 49] ty #[.slice (some ⟨b, (i + 1) * 2, none⟩) (n - i) dc, .slice (some ⟨b, i * 2, none⟩) (n + 1 - i) sc]).run Try.prog w.drew = .ok (goInt (n - i : Nat)) (w.drew.setRow b c1.toArray) := fun ty dc sc => by
    have := run_copyK (P := Try.prog) w.drew 49 49 ty 53 2 b ((i + 1) * 2) (n - i) dc (n - i) ⟨b, i * 2, none⟩ (n + 1 - i) sc cur 53 (xs.drop (i * 2)) Try.underlying49 Try.sizeLnk hheap
      (by simp only [Nat.min_def]; split <;> omega) hdl (fun j v hj => by rw [Addr.add_lit]; exact hcell _ v (by rwa [List.getElem?_drop] at hj)) (by rw [hdl, hcs]; omega) (fun v hv => hx1 v (List.mem_of_mem_drop hv))
    rw [this, hc1]
  have hW1 : (w.drew.setRow b c1.toArray).heap[b]? = some (.cells c1.toArray 53 (0, 0)) := setRow_heap w.drew b cur c1.toArray _ (0, 0) hheap
  have hcp2 : ∀ (W : World), W.heap = (w.drew.setRow b c1.toArray).heap → ∀ ty dc, (Builtin.copy_ #[49, 49] ty #[.slice (some ⟨b, i * 2, none⟩) (n + 1 - i) dc, .slice (some ⟨vb, 0, none⟩) 1 vc]).run Try.prog W = .ok (goInt (1 : Nat)) (W.setRow b c2.toArray) := fun W hWh ty dc => by
    have := run_copyK (P := Try.prog) W 49 49 ty 53 2 b (i * 2) (n + 1 - i) dc 1 ⟨vb, 0, none⟩ 1 vc c1.toArray 53 us Try.underlying49 Try.sizeLnk (by rw [hWh]; exact hW1)
      (by simp only [Nat.min_def]; split <;> omega) (by rw [hul]) (fun j v hj => by
        rw [Addr.add_lit, World.cell?_of_block (w := w) (a := ⟨vb, 0 + j, none⟩) (by rw [hWh]; exact setRow_other w.drew b vb _ hvb)]
        exact hu j v hj) (by rw [hul, List.size_toArray, m1, Array.length_toList, hcs]; omega) hu1
    rw [this, hc2]
  obtain ⟨W1, hW⟩ : ∃ W1, W1 = w.drew.setRow b c1.toArray := ⟨_, rfl⟩
  have hfin : ∀ W : World, W.heap = W1.heap → W.os = w.os → W.tape = w.tape → W.output = w.output → (W.setRow b c2.toArray).ownsRow base 53 2 (.slice (some ⟨b, 0, none⟩) (n + 1) cap) (n + 1) (xs.take (i * 2) ++ us ++ xs.drop (i * 2)) ∧ w.grownBy (W.setRow b c2.toArray) (Value.ownBlock (.slice (some ⟨b, 0, none⟩) n cap)) := fun W hh ho ht hp => by
    refine ⟨⟨?_, .inr ⟨b, cap, c2.toArray, rfl, hbb, setRow_heap W b c1.toArray c2.toArray _ (0, 0) (by rw [hh, hW]; exact hW1), hroom, hcm, by rw [List.size_toArray, m2, Array.length_toList, hcs], by rw [← m3]⟩⟩, ⟨ho, ht, hp, ?_, fun k hk hne => ?_⟩⟩
    · rw [List.length_append, List.length_append, List.length_take, hdl, hul]; omega
    · have : W.heap.size = w.heap.size := by rw [hh, hW]; simp [World.setRow]
      simp [World.setRow, this]
    · have hkb : k ≠ b := fun e => hne (by rw [e]; rfl)
      rw [setRow_other W b k _ hkb, hh, hW, setRow_other w.drew b k _ hkb]; rfl
  have hW1w : W1.os = w.os ∧ W1.tape = w.tape ∧ W1.output = w.output := by rw [hW]; exact ⟨rfl, rfl, rfl⟩
  rw [← hW] at hcp1 hcp2
  have HF := Lib.hid hfin
  have hcp3 := hcp2 W1 rfl
  have HWW := Lib.hid hW1w
  clear hfin hcp2 hcell hW1w hdl m1 m2 m3 hc1 hc2 hsb hxl hcl hW1 hW hu hu1 hsa hfa hfe hx1 htake hcs hheap hul
  have e1 : (i : Int) + 1 = ((i + 1 : Nat) : Int) := by omega
  have hin : (i : Int) ≤ (n : Int) := by omega
  have hne : ¬ ((i : Int) = (n : Int)) := by omega
  have hb3 : (i : Int) ≤ (n : Int) + 1 := by omega
  have hb1 : (0 : Int) ≤ (i : Int) + 1 := by omega
  have htn : ((i : Int) + 1).toNat = i + 1 := by omega
  have hb2 : ¬ (cap = i + 1) := by omega
  have hb4 : ¬ (cap = i) := by omega
  have hcm' : cap ≤ 9223372036854775807 := by unfold maxLen at hcm; omega
  have hnn : ((n : Int) + 1).toNat = n + 1 := by omega
  have hrl : ¬ ((cap : Int) < (n : Int) + 1) := by omega
  have mixed : Try.prog.follows .mixedOrders = true := by kernel_rfl
  have hw1 : IntKind.i64.wrap ((i : Int) + 1) = (i : Int) + 1 := by rw [IntKind.wrap_i64]; omega
  clear e1
  go_enter Try.func83, Try.ntmps83
  go_wp2_with (simp only [hov])
  go_region_law_o (refine step_copyK rfl _ _ 49 49 rfl (.slice (some ⟨b, (i + 1) * 2, none⟩) (n - i) (cap - (i + 1))) (.slice (some ⟨b, i * 2, none⟩) (n + 1 - i) (cap - i)) (by simp [Act.eval, Act.put]) (by simp [Act.eval, Act.put]) (hcp1 3 (cap - (i + 1)) (cap - i)) ?_)
  go_wp2
  go_ret
  obtain ⟨f1, f2⟩ := HF.out W1 rfl HWW.out.1 HWW.out.2.1 HWW.out.2.2
  exact ⟨_, _, rfl, f1, f2, fun a ha => .inl ha⟩

set_option maxRecDepth 100000 in
set_option maxHeartbeats 4000000 in
/-- in the middle, where there is no room: a new row -/
theorem insert_grow (base : Nat) (b n cap i : Nat) (xs us : List Value) (vb vc : Nat) (w : World) (hn : n ≤ 1000) (hi : i < n) (hbase : base ≤ w.heap.size) (hnc : n ≤ cap)
    (hroom : cap < n + 1) (hxl : xs.length = n * 2) (hcell : ∀ j v, xs[j]? = some v → w.cell? ⟨b, j, none⟩ = some v) (hx1 : ∀ v ∈ xs, v.oneCell' = true)
    (hul : us.length = 2) (hu1 : ∀ v ∈ us, v.oneCell' = true) (hu : ∀ j v, us[j]? = some v → w.cell? ⟨vb, 0 + j, none⟩ = some v) :
    Calls Try.prog 83 #[.slice (some ⟨b, 0, none⟩) n cap, .int .i64 i, .slice (some ⟨vb, 0, none⟩) 1 vc] w
      (InsRet base w (some ⟨b, 0, none⟩) n cap (xs.take (i * 2) ++ us ++ xs.drop (i * 2))) := by
  obtain rfl : cap = n := by omega
  obtain ⟨i0, hi0, hz0, hzs, hzb⟩ := info_parts Try.infoLnk
  have hbw : b < w.heap.size := block_lt_of_cell (hcell 0 _ (List.getElem?_eq_getElem (by omega)))
  have hvw : vb < w.heap.size := block_lt_of_cell (hu 0 _ (List.getElem?_eq_getElem (by omega)))
  have hold : (Builtin.firstCells i0.size i (.slice (some ⟨b, 0, none⟩) i cap)).run Try.prog w.drew = .ok (xs.take (i * 2)).toArray w.drew := by
    rw [hzs]
    exact run_firstCells_some w.drew 2 i ⟨b, 0, none⟩ i cap (xs.take (i * 2)) (by rw [List.length_take]; omega) (fun j v hj => by
      rw [Addr.add_lit, Nat.zero_add]
      rw [List.getElem?_take] at hj
      split at hj
      · exact hcell j v hj
      · cases hj)
  have hik : i + (cap + 1 - i) = cap + 1 := by omega
  have hkk : (cap : Int) + 1 - (i : Int) = ((cap + 1 - i : Nat) : Int) := by omega
  have hrz : ∀ ty, (Builtin.append_ #[49, 3] ty #[.slice (some ⟨b, 0, none⟩) i cap, .int .i64 ((cap : Int) + 1 - (i : Int))]).run Try.prog w =
      .ok (.slice (some ⟨w.heap.size, 0, none⟩) (cap + 1) (grownCap w (cap + 1) cap 53)) (w.drew.alloc (.cells ((xs.take (i * 2)).toArray ++ Builtin.zeroCells (Value.agg #[.pointer none, .int .i64 0]).cells (cap + 1 - i) ++ Builtin.zeroCells (Value.agg #[.pointer none, .int .i64 0]).cells (grownCap w (cap + 1) cap 53 - (cap + 1))) 53)) := fun ty => by
    have h := Lib.run_append_grow_zeros (P := Try.prog) w 49 3 ty 53 i0 _ .i64 .i64 Try.underlying49 Try.underlying3 hi0 hz0 (some ⟨b, 0, none⟩) i cap (xs.take (i * 2)) hold (cap + 1 - i) (by omega) (by rw [hzs]; decide) (by omega) (by omega) (by rw [hzb]; omega) (by rw [hzb, hik]; exact growslice_fits hroom (by omega))
    rw [hik] at h
    rw [hkk]
    exact h
  obtain ⟨G, hG⟩ : ∃ G, G = grownCap w (cap + 1) cap 53 := ⟨_, rfl⟩
  obtain ⟨ROW, hROW⟩ : ∃ ROW : Array Value, ROW = (xs.take (i * 2)).toArray ++ Builtin.zeroCells (Value.agg #[.pointer none, .int .i64 0]).cells (cap + 1 - i) ++ Builtin.zeroCells (Value.agg #[.pointer none, .int .i64 0]).cells (G - (cap + 1)) := ⟨_, rfl⟩
  rw [← hG] at hrz
  rw [← hROW] at hrz
  have hGn : cap + 1 ≤ G := by rw [hG]; exact grownCap_ge w _ _ _
  have hGm : G ≤ maxLen := by
    have := grownCap_le_maxLen w (cap + 1) cap 53 (by unfold maxLen; omega)
    rw [← hG] at this; exact this
  have hRl : ROW.size = G * 2 := by
    rw [hROW]
    simp [Builtin.zeroCells, Value.cells]
    omega
  have hRt : ROW.toList.take (i * 2) = xs.take (i * 2) := by
    rw [hROW, Array.toList_append, Array.toList_append, List.append_assoc, List.take_append_of_le_length (by simp; omega)]
    rw [show ((xs.take (i * 2)).toArray).toList = xs.take (i * 2) from rfl, List.take_take, Nat.min_self]
  obtain ⟨c1, hc1⟩ : ∃ c1, c1 = ROW.toList.take (i * 2) ++ us ++ ROW.toList.drop (i * 2 + us.length) := ⟨_, rfl⟩
  obtain ⟨c2, hc2⟩ : ∃ c2, c2 = c1.take ((i + 1) * 2) ++ xs.drop (i * 2) ++ c1.drop ((i + 1) * 2 + (xs.drop (i * 2)).length) := ⟨_, rfl⟩
  obtain ⟨m1, m2, m3⟩ := two_copies' hi hxl hul (show (cap + 1) * 2 ≤ ROW.toList.length by rw [Array.length_toList, hRl]; omega) hRt hc1 hc2
  have hdl : (xs.drop (i * 2)).length = (cap - i) * 2 := by rw [List.length_drop, hxl]; omega
  obtain ⟨W1, hW1⟩ : ∃ W1, W1 = w.drew.alloc (.cells ROW 53) := ⟨_, rfl⟩
  rw [← hW1] at hrz
  have hN1 : W1.heap[w.heap.size]? = some (.cells ROW 53 (0, 0)) := by rw [hW1]; exact heap_alloc_new w.drew _
  have hold1 : ∀ k, k < w.heap.size → W1.heap[k]? = w.heap[k]? := fun k hk => by rw [hW1]; exact (below_alloc w.drew _).block k hk
  have hcpA : ∀ (W : World), W.heap = W1.heap → ∀ ty dc, (Builtin.copy_ #[49, 49] ty #[.slice (some ⟨w.heap.size, i * 2, none⟩) (cap + 1 - i) dc, .slice (some ⟨vb, 0, none⟩) 1 vc]).run Try.prog W = .ok (goInt (1 : Nat)) (W.setRow w.heap.size c1.toArray) := fun W hWh ty dc => by
    have := run_copyK (P := Try.prog) W 49 49 ty 53 2 w.heap.size (i * 2) (cap + 1 - i) dc 1 ⟨vb, 0, none⟩ 1 vc ROW 53 us Try.underlying49 Try.sizeLnk (by rw [hWh]; exact hN1)
      (by simp only [Nat.min_def]; split <;> omega) (by rw [hul]) (fun j v hj => by
        rw [Addr.add_lit, World.cell?_of_block (w := w) (a := ⟨vb, 0 + j, none⟩) (by rw [hWh]; exact hold1 vb hvw)]
        exact hu j v hj) (by rw [hul, hRl]; omega) hu1
    rw [this, hc1]
  obtain ⟨W2, hW2⟩ : ∃ W2, W2 = W1.setRow w.heap.size c1.toArray := ⟨_, rfl⟩
  have hN2 : W2.heap[w.heap.size]? = some (.cells c1.toArray 53 (0, 0)) := by rw [hW2]; exact setRow_heap W1 _ ROW _ _ (0, 0) hN1
  have hold2 : ∀ k, k < w.heap.size → W2.heap[k]? = w.heap[k]? := fun k hk => by rw [hW2, setRow_other W1 _ k _ (by omega)]; exact hold1 k hk
  have hcpB : ∀ (W : World), W.heap = W2.heap → ∀ ty dc sc, (Builtin.copy_ #[49, 49] ty #[.slice (some ⟨w.heap.size, (i + 1) * 2, none⟩) (cap - i) dc, .slice (some ⟨b, i * 2, none⟩) (cap - i) sc]).run Try.prog W = .ok (goInt (cap - i : Nat)) (W.setRow w.heap.size c2.toArray) := fun W hWh ty dc sc => by
    have := run_copyK (P := Try.prog) W 49 49 ty 53 2 w.heap.size ((i + 1) * 2) (cap - i) dc (cap - i) ⟨b, i * 2, none⟩ (cap - i) sc c1.toArray 53 (xs.drop (i * 2)) Try.underlying49 Try.sizeLnk (by rw [hWh]; exact hN2)
      (by simp only [Nat.min_def]; split <;> omega) hdl (fun j v hj => by
        rw [Addr.add_lit, World.cell?_of_block (w := w) (a := ⟨b, i * 2 + j, none⟩) (by rw [hWh]; exact hold2 b hbw)]
        exact hcell _ v (by rwa [List.getElem?_drop] at hj)) (by rw [hdl, List.size_toArray, m1, Array.length_toList, hRl]; omega) (fun v hv => hx1 v (List.mem_of_mem_drop hv))
    rw [this, hc2]
  have hfin : ∀ W : World, W.heap = W2.heap → W.os = w.os → W.tape = w.tape → W.output = w.output → (W.setRow w.heap.size c2.toArray).ownsRow base 53 2 (.slice (some ⟨w.heap.size, 0, none⟩) (cap + 1) G) (cap + 1) (xs.take (i * 2) ++ us ++ xs.drop (i * 2)) ∧ w.grownBy (W.setRow w.heap.size c2.toArray) (Value.ownBlock (.slice (some ⟨b, 0, none⟩) cap cap)) := fun W hh ho ht hp => by
    refine ⟨⟨?_, .inr ⟨w.heap.size, G, c2.toArray, rfl, hbase, setRow_heap W _ c1.toArray c2.toArray _ (0, 0) (by rw [hh]; exact hN2), hGn, hGm, by rw [List.size_toArray, m2, Array.length_toList, hRl], by rw [← m3]⟩⟩, ⟨ho, ht, hp, ?_, fun k hk hne => ?_⟩⟩
    · rw [List.length_append, List.length_append, List.length_take, hdl, hul]; omega
    · have : W.heap.size = w.heap.size + 1 := by rw [hh, hW2, hW1]; simp [World.setRow]
      simp [World.setRow, this]
    · rw [setRow_other W _ k _ (by omega), hh]; exact hold2 k hk
  have hcA := hcpA W1 rfl
  rw [← hW2] at hcA
  have hW2w : W2.drew.os = w.os ∧ W2.drew.tape = w.tape ∧ W2.drew.output = w.output := by rw [hW2, hW1]; exact ⟨rfl, rfl, rfl⟩
  have hcB := hcpB W2.drew rfl
  have HF := Lib.hid (hfin W2.drew rfl hW2w.1 hW2w.2.1 hW2w.2.2)
  clear hfin hcpA hcpB hcell hW2w hdl m1 m2 m3 hc1 hc2 hxl hW2 hN2 hold2 hW1 hN1 hold1 hu hu1 hx1 hul hRl hRt hROW hG hold hkk hik hbw hvw hi0 hz0 hzs hzb
  have hin : (i : Int) ≤ (cap : Int) := by omega
  have hne : ¬ ((i : Int) = (cap : Int)) := by omega
  have hb3 : (i : Int) ≤ (cap : Int) + 1 := by omega
  have hb1 : (0 : Int) ≤ (i : Int) + 1 := by omega
  have htn : ((i : Int) + 1).toNat = i + 1 := by omega
  have hb2 : ¬ (G = i + 1) := by omega
  have hb4 : ¬ (G = i) := by omega
  have hb5 : ¬ (cap = i) := by omega
  have hcm' : G ≤ 9223372036854775807 := by unfold maxLen at hGm; omega
  have hnn : ((cap : Int) + 1).toNat = cap + 1 := by omega
  have hrl : ((cap : Int) < (cap : Int) + 1) := by omega
  have mixed : Try.prog.follows .mixedOrders = true := by kernel_rfl
  have hw1 : IntKind.i64.wrap ((i : Int) + 1) = (i : Int) + 1 := by rw [IntKind.wrap_i64]; omega
  go_enter Try.func83, Try.ntmps83
  go_wp2_with (at_builtin; refine wpList_append_run' _ rfl _ _ _ _ rfl _ _ rfl rfl (hrz _) ?_)
  go_region_law_o (refine step_copyK rfl _ _ 49 49 rfl (.slice (some ⟨w.heap.size, (i + 1) * 2, none⟩) (cap - i) (G - (i + 1))) (.slice (some ⟨b, i * 2, none⟩) (cap - i) (cap - i)) (by simp [Act.eval, Act.put]) (by simp [Act.eval, Act.put]) (hcB 3 (G - (i + 1)) (cap - i)) ?_)
  go_wp2
  go_ret
  exact ⟨_, _, rfl, HF.out.1, HF.out.2, fun a ha => .inr (by simp only [Option.some.injEq] at ha; subst ha; exact Nat.le_refl _)⟩

/-- one link put among links: wherever, whether there is room or none -/
theorem insert_any (base : Nat) (ao : Option Addr) (n cap i : Nat) (xs us : List Value) (vb vc : Nat) (w : World) (tA : TypeId) (kA : Nat) (hn : n ≤ 1000) (hi : i ≤ n) (hb : base ≤ w.heap.size) (hown : w.ownsRow base 53 2 (.slice ao n cap) n xs) (hx1 : ∀ v ∈ xs, v.oneCell' = true)
    (hvb : ∀ a, ao = some a → vb ≠ a.block) (hul : us.length = 2) (hu1 : ∀ v ∈ us, v.oneCell' = true) (hu : ∀ j v, us[j]? = some v → w.cell? ⟨vb, 0 + j, none⟩ = some v)
    (hsa : w.shape? vb = some (tA, kA)) (hfa : w.frozen? ⟨vb, 0, none⟩ = false) (hfe : w.frozen? ⟨vb, kA, none⟩ = false) :
    Calls Try.prog 83 #[.slice ao n cap, .int .i64 i, .slice (some ⟨vb, 0, none⟩) 1 vc] w
      (InsRet base w ao n cap (xs.take (i * 2) ++ us ++ xs.drop (i * 2))) := by
  have hxl := hown.1
  rcases Nat.lt_or_ge i n with hlt | hge
  · rcases hown.2 with ⟨_, h0⟩ | ⟨g, cap', cur, hv, hbg, hgg, hnc, hcm, hcs, htake⟩
    · omega
    · have hv' := hv
      simp only [Value.slice.injEq] at hv'
      obtain ⟨rfl, _, rfl⟩ := hv'
      by_cases hroom : n + 1 ≤ cap
      · exact insert_shift base g n cap i xs us cur vb vc w tA kA hn hlt hbg hgg hroom hcm hcs htake hx1 (hvb _ rfl) hul hu1 hu hsa hfa hfe
      · refine insert_grow base g n cap i xs us vb vc w hn hlt hb hnc (by omega) hxl (fun j v hj => ?_) hx1 hul hu1 hu
        rw [cell_of_row w g j cur _ (0, 0) hgg, ← Array.getElem?_toList]
        rw [← htake, List.getElem?_take] at hj
        split at hj
        · exact hj
        · cases hj
  · obtain rfl : i = n := by omega
    have := insert_end base ao i cap xs us vb vc w hn hb hown hul hu1 hu
    rw [List.take_of_length_le (by omega), List.drop_of_length_le (by omega), List.append_nil]
    exact this

end Go.Proofs.Ytkbgkkempooplaa

/-
  Where a room has the link to another one. (Walks.)
-/
namespace Go.Proofs.Ytkbgkkempooplaa
open Go.RowKit

theorem lnk_range {w : World} {ao : Option Addr} {Q : Nat} {L : List (Nat × Nat)} (h : CellsAt w ao (lnkC Q L)) {i : Nat} (hi : i < L.length) : ∃ b off, ao = some ⟨b, off, none⟩ ∧ w.rangeAt b (off + i * 2) (lnkC1 Q (L.getD i (0, 0))) := by
  obtain ⟨b, off, rfl, _⟩ := h (i * 2 + 0) _ ((lnkC_at Q L i 0 hi (by omega)).trans rfl)
  refine ⟨b, off, rfl, fun j v hv => ?_⟩
  have hj : j < 2 := by
    have := (List.getElem?_eq_some_iff.1 hv).1
    simpa [lnkC1] using this
  obtain ⟨b', off', he, hc⟩ := h (i * 2 + j) v (by rw [lnkC_at Q L i j hi hj, ← hv])
  simp only [Option.some.injEq, Addr.mk.injEq, and_true] at he
  obtain ⟨rfl, rfl⟩ := he
  rw [show off + i * 2 + j = off + (i * 2 + j) from by omega]
  exact hc

theorem wpList_load_mid_guard {P : Program} {ops : Array Oper} {rest : List Oper} {o : Oper} {a : Act} {w : World} {Q : Exit → Act → World → Prop} (hw : Region.wanted o (yielded ops a.tmps) = true) (ty : TypeId) (x : Operand) (ho : o.op = .load ty x)
    (b off : Nat) (hx : a.eval x = .pointer (some ⟨b, off, none⟩)) (cs : List Value) (d : TypeDesc) (hc : w.rangeAt b off cs)
    (hu : P.underlying ty = some d) (hd : d.isRow = true) (hi : (P.info? ty).map (·.size) = some cs.length)
    (h : wpList P ops Q rest (a.put o.dst (.agg cs.toArray)) w) : wpList P ops Q (o :: rest) a w :=
  wpList_step fun K hK => by
    rw [if_pos hw]
    unfold Oper.wp execOp
    simp only [ho, hx, Instr.loadAt, Instr.sureAddr, Sem.run_bind, Sem.run_pure, Result.andThen_ok, run_loadVar_mid w b off ty cs d hc hu hd hi]
    exact hK _ _ h

set_option maxRecDepth 100000 in
set_option maxHeartbeats 1000000 in
theorem lead_any (Q x m b : Nat) (w : World) (hx : w.cell? ⟨Q + x, 0, none⟩ = some (.int .i64 (x : Nat))) :
    Calls Try.prog 72 #[.agg (lnkC1 Q (x, m)).toArray, .int .i64 b] w fun e w' => e = .returned (.int .i64 (cmpI x b)) ∧ Below w.heap.size w w' := by
  have hb := HeldB.new w 53 (lnkC1 Q (x, m)).toArray
  have c0 : (w.alloc (.cells (lnkC1 Q (x, m)).toArray 53)).cell? ⟨w.heap.size, 0, none⟩ = some (.pointer (some ⟨Q + x, 0, none⟩)) := (hb.cell 0).trans rfl
  have cx : (w.alloc (.cells (lnkC1 Q (x, m)).toArray 53)).cell? ⟨Q + x, 0, none⟩ = some (.int .i64 (x : Nat)) := cell_below hx (below_alloc w _)
  have hB := below_alloc w (.cells (lnkC1 Q (x, m)).toArray 53)
  generalize (lnkC1 Q (x, m)).toArray = C at *
  clear hb
  go_enter Try.func72, Try.ntmps72
  go_wp2_with (go_at_call 73; refine (compare_any _ _ _).mono ?_; rintro e w1 ⟨rfl, rfl⟩)
  go_ret
  exact ⟨rfl, hB⟩

def rms (w : World) (Q : Nat) (L : List (Nat × Nat)) : Prop := ∀ x ∈ L, w.cell? ⟨Q + x.1, 0, none⟩ = some (.int .i64 (x.1 : Nat))
theorem rms.below {w w' : World} {Q : Nat} {L : List (Nat × Nat)} (h : rms w Q L) (hb : Below w.heap.size w w') : rms w' Q L := fun x hx => cell_below (h x hx) hb

set_option maxRecDepth 100000 in
set_option maxHeartbeats 4000000 in
theorem search_any (Q : Nat) (ro : Option Addr) (rc : Nat) (L : List (Nat × Nat)) (b i : Nat) (w : World) (hl : L.length ≤ 1000) (hi : i ≤ L.length) (h1 : ∀ j, j < i → (L.getD j (0, 0)).1 < b) (h2 : ∀ j, i ≤ j → j < L.length → b ≤ (L.getD j (0, 0)).1)
    (hc : CellsAt w ro (lnkC Q L)) (hq : rms w Q L) :
    Calls Try.prog 71 #[.slice ro L.length rc, .int .i64 b, .func (.func 72) #[] #[]] w
      fun e w' => e = .returned (.tuple #[.int .i64 (i : Nat), .bool (decide (i < L.length) && decide ((L.getD i (0, 0)).1 = b))]) ∧ Below w.heap.size w w' := by
  have eg := enters_of Try.func72 (by kernel_rfl) rfl
  have HC := Lib.hid hc
  have HQ := Lib.hid hq
  have H1 := Lib.hid h1
  have H2 := Lib.hid h2
  clear hc hq h1 h2
  obtain ⟨R, hR⟩ : ∃ R, (decide (i < L.length) && decide ((L.getD i (0, 0)).1 = b)) = R := ⟨_, rfl⟩
  rw [hR]
  have HR := Lib.hid hR
  clear hR
  go_enter Try.func71, Try.ntmps71
  go_wp2
  go_loopw [9, 10] (fun v9 v10 wr => ∃ lo hi' : Nat, v9 = .int .i64 lo ∧ v10 = .int .i64 hi' ∧ lo ≤ i ∧ i ≤ hi' ∧ hi' ≤ L.length ∧ Below w.heap.size w wr) (fun v9 v10 _ => (intOf v10).toNat - (intOf v9).toNat)
  case atStart => exact ⟨0, L.length, rfl, rfl, Nat.zero_le _, hi, Nat.le_refl _, Below.refl _ _⟩
  case round =>
    obtain ⟨lo, hi', rfl, rfl, hlo, hhi, hln, hB⟩ := hrel
    by_cases hlt : lo < hi'
    · have hlt' : decide ((lo : Int) < (hi' : Int)) = true := by rw [decide_eq_true_eq]; omega
      obtain ⟨mid, hmid⟩ : ∃ mid, mid = (lo + hi') / 2 := ⟨_, rfl⟩
      have hml : lo ≤ mid ∧ mid < hi' := by omega
      have hme : ((lo : Int) + (hi' : Int)) / 2 = (mid : Int) := by omega
      have hmL : mid < L.length := by omega
      obtain ⟨bb, off, rfl, hrg⟩ := lnk_range (HC.out.below hB) hmL
      have hin : L.getD mid (0, 0) ∈ L := getD_mem _ hmL
      have hcx := HQ.out.below hB _ hin
      have HA := Lib.hid (fun (h : mid < i) => H1.out mid h)
      have HE := Lib.hid (fun (h : i ≤ mid) => H2.out mid h hmL)
      obtain ⟨X, hX⟩ : ∃ X, L.getD mid (0, 0) = X := ⟨_, rfl⟩
      rw [hX] at hrg hcx HA HE
      obtain ⟨x, m⟩ := X
      simp only at hcx HA HE
      have hcl := lead_any Q x m b wr hcx
      have HCL := Lib.hid hcl
      have HRG := Lib.hid hrg
      clear hX hin hcx hcl hrg hmid
      by_cases hxb : x < b
      · have hmi : mid < i := by
          rcases Nat.lt_or_ge mid i with h | h
          · exact h
          · have := HE.out h; omega
        have hcm : cmpI (x : Int) (b : Int) = -1 := if_pos (by omega)
        rw [hcm] at HCL
        go_wp2_with (first
          | (refine wpList_load_mid rfl 53 _ rfl bb (off + mid * 2) rfl (lnkC1 Q (x, m)) _ HRG.out Try.underlying53 rfl Try.sizeLnk ?_)
          | (go_at_call 72; refine (HCL.out).mono ?_; rintro e w3 ⟨rfl, hb3⟩))
        go_roundw
        case rel => exact ⟨mid + 1, hi', by go_num, rfl, by omega, hhi, hln, below_step hB hB.size hb3⟩
        case measure => simp [intOf]; omega
      · have hmi : i ≤ mid := by
          rcases Nat.lt_or_ge mid i with h | h
          · have := HA.out h; omega
          · exact h
        have hcm : 0 ≤ cmpI (x : Int) (b : Int) := by unfold cmpI; rw [if_neg (by omega)]; split <;> omega
        have hcn : decide (cmpI (x : Int) (b : Int) < 0) = false := by rw [decide_eq_false_iff_not]; omega
        clear hcm
        generalize cmpI (x : Int) (b : Int) = cm at *
        go_wp2_with (first
          | (refine wpList_load_mid rfl 53 _ rfl bb (off + mid * 2) rfl (lnkC1 Q (x, m)) _ HRG.out Try.underlying53 rfl Try.sizeLnk ?_)
          | (go_at_call 72; refine (HCL.out).mono ?_; rintro e w3 ⟨rfl, hb3⟩))
        go_roundw
        case rel => exact ⟨lo, mid, rfl, rfl, hlo, hmi, by omega, below_step hB hB.size hb3⟩
        case measure => simp [intOf]; omega
    · obtain rfl : lo = i := by omega
      obtain rfl : hi' = lo := by omega
      have hlt' : decide ((hi' : Int) < (hi' : Int)) = false := by rw [decide_eq_false_iff_not]; omega
      by_cases hnl : hi' < L.length
      · have hnl' : decide ((hi' : Int) < (L.length : Int)) = true := by rw [decide_eq_true_eq]; omega
        obtain ⟨bb, off, rfl, hrg⟩ := lnk_range (HC.out.below hB) hnl
        have hin : L.getD hi' (0, 0) ∈ L := getD_mem _ hnl
        have hcx := HQ.out.below hB _ hin
        rw [decide_eq_true hnl, Bool.true_and] at HR
        obtain ⟨X, hX⟩ : ∃ X, L.getD hi' (0, 0) = X := ⟨_, rfl⟩
        rw [hX] at hrg hcx HR
        obtain ⟨x, m⟩ := X
        simp only at hcx HR
        have hcl := lead_any Q x m b wr hcx
        have HCL := Lib.hid hcl
        have HRG := Lib.hid hrg
        have hcn : (cmpI (x : Int) (b : Int) == 0) = R := by
          rw [← HR.out, Bool.eq_iff_iff, beq_iff_eq, decide_eq_true_eq]; unfold cmpI; split
          · constructor <;> intro _ <;> omega
          · split
            · constructor <;> intro _ <;> omega
            · constructor <;> intro _ <;> omega
        clear hX hin hcx hcl hrg HR hlo hhi
        generalize cmpI (x : Int) (b : Int) = cm at *
        go_wp2_with (first
          | (refine wpList_load_mid_guard rfl 53 _ rfl bb (off + hi' * 2) rfl (lnkC1 Q (x, m)) _ HRG.out Try.underlying53 rfl Try.sizeLnk ?_)
          | (go_at_call 72; refine (HCL.out).mono ?_; rintro e w3 ⟨rfl, hb3⟩))
        go_ret2
        exact ⟨rfl, below_step hB hB.size hb3⟩
      · have hnl' : decide ((hi' : Int) < (L.length : Int)) = false := by rw [decide_eq_false_iff_not]; omega
        rw [decide_eq_false hnl, Bool.false_and] at HR
        have HR2 := Lib.hid HR.out
        go_wp2
        go_ret2
        exact ⟨by rw [← HR2.out]; rfl, hB⟩

end Go.Proofs.Ytkbgkkempooplaa

/-
  Rooms linked to their neighbours: what lies in memory, and one cell more. (Walks.)
-/
namespace Go.Proofs.Ytkbgkkempooplaa
open Go.RowKit

/-- some blocks are as they were -/
structure KeptK (K : Nat → Prop) (w w' : World) : Prop where
  os : w'.os = w.os
  tape : w'.tape = w.tape
  output : w'.output = w.output
  size : w.heap.size ≤ w'.heap.size
  block : ∀ k, K k → k < w.heap.size → w'.heap[k]? = w.heap[k]?
theorem KeptK.refl (K : Nat → Prop) (w : World) : KeptK K w w := ⟨rfl, rfl, rfl, Nat.le_refl _, fun _ _ _ => rfl⟩
theorem KeptK.trans {K : Nat → Prop} {a b c : World} (h : KeptK K a b) (k : KeptK K b c) : KeptK K a c :=
  ⟨k.os.trans h.os, k.tape.trans h.tape, k.output.trans h.output, Nat.le_trans h.size k.size, fun i hi hl => (k.block i hi (Nat.lt_of_lt_of_le hl h.size)).trans (h.block i hi hl)⟩
theorem KeptK.of_below {K : Nat → Prop} {w w' : World} (h : Below w.heap.size w w') : KeptK K w w' := ⟨h.os, h.tape, h.output, h.size, fun k _ hl => h.block k hl⟩
theorem KeptK.mono {K K' : Nat → Prop} {w w' : World} (h : KeptK K w w') (hk : ∀ k, K' k → K k) : KeptK K' w w' := ⟨h.os, h.tape, h.output, h.size, fun k hk' hl => h.block k (hk k hk') hl⟩
theorem KeptK.held {K : Nat → Prop} {w w' : World} (h : KeptK K w w') {B : Nat} {t : TypeId} {cs : Array Value} (hB : HeldB w B t cs) (hk : K B) : HeldB w' B t cs := (h.block B hk hB.lt).trans hB
theorem KeptK.cells {K : Nat → Prop} {w w' : World} (h : KeptK K w w') {ao : Option Addr} {xs : List Value} (hc : CellsAt w ao xs) (hk : ∀ a, ao = some a → K a.block) : CellsAt w' ao xs := fun i u hu => by
  obtain ⟨b, off, rfl, hc'⟩ := hc i u hu
  exact ⟨b, off, rfl, (World.cell?_of_block (a := ⟨b, off + i, none⟩) (h.block b (hk _ rfl) (World.block_lt_of_cell? _ _ hc'))).trans hc'⟩
theorem KeptK.below {K : Nat → Prop} {B : Nat} {w w' : World} (h : KeptK K w w') (hk : ∀ k, k < B → K k) (hB : B ≤ w.heap.size) : Below B w w' := ⟨h.os, h.tape, h.output, h.size, fun k hl => h.block k (hk k hl) (by omega)⟩

/-- a length one greater -/
def up2 (f : Nat → Nat → Nat) (a b : Nat) : Nat → Nat → Nat := fun r => if r = a then up1 (f a) b else f r
theorem up2_self (f : Nat → Nat → Nat) (a b : Nat) : up2 f a b a = up1 (f a) b := if_pos rfl
theorem up2_other (f : Nat → Nat → Nat) {a r : Nat} (b : Nat) (h : r ≠ a) : up2 f a b r = f r := if_neg h

/-- the cells of a room that is linked -/
def chaC (r : Nat) (so : Option Addr) (n c : Nat) : Array Value := #[.int .i64 (r : Nat), .slice so n c]
/-- rooms lie in memory one behind the other, each with its links in a row of its own, apart from other things -/
def ChB (w : World) (Q n : Nat) (f : Nat → Nat → Nat) (K : Nat → Prop) (so : Nat → Option Addr) (sc : Nat → Nat) : Prop :=
  (∀ r, r < n → HeldB w (Q + r) 51 (chaC r (so r) (lnk n (f r)).length (sc r))) ∧
  (∀ r, r < n → w.ownsRow (Q + n) 53 2 (.slice (so r) (lnk n (f r)).length (sc r)) (lnk n (f r)).length (lnkC Q (lnk n (f r)))) ∧
  (∀ r s, r < n → s < n → r ≠ s → Apart (so r) (so s)) ∧
  (∀ r, r < n → ∀ a, so r = some a → ¬ K a.block)

theorem ChB.step {w w' : World} {Q n : Nat} {f : Nat → Nat → Nat} {K K' : Nat → Prop} {so : Nat → Option Addr} {sc : Nat → Nat} (h : ChB w Q n f K so sc) (hb : Below w.heap.size w w') (hk : ∀ k, K' k → K k ∨ w.heap.size ≤ k) : ChB w' Q n f K' so sc :=
  ⟨fun r hr => (h.1 r hr).below hb, fun r hr => ownsRow_below (h.2.1 r hr) hb, h.2.2.1, fun r hr a ha hka => by
    rcases hk _ hka with h' | h'
    · exact h.2.2.2 r hr a ha h'
    · have := (owns_lt (h.2.1 r hr) a ha).2; omega⟩
theorem ChB.below {w w' : World} {Q n : Nat} {f : Nat → Nat → Nat} {K : Nat → Prop} {so : Nat → Option Addr} {sc : Nat → Nat} (h : ChB w Q n f K so sc) (hb : Below w.heap.size w w') : ChB w' Q n f K so sc := h.step hb fun _ h => .inl h
theorem ChB.rms {w : World} {Q n : Nat} {f : Nat → Nat → Nat} {K : Nat → Prop} {so : Nat → Option Addr} {sc : Nat → Nat} (h : ChB w Q n f K so sc) (a : Nat) : rms w Q (lnk n (f a)) := fun x hx => by
  rw [(h.1 x.1 (lnk_mem hx).1).cell 0]; rfl
theorem ChB.eq {w : World} {Q n : Nat} {f f' : Nat → Nat → Nat} {K : Nat → Prop} {so : Nat → Option Addr} {sc : Nat → Nat} (h : ChB w Q n f K so sc) (he : ∀ r, r < n → lnk n (f r) = lnk n (f' r)) : ChB w Q n f' K so sc :=
  ⟨fun r hr => by rw [← he r hr]; exact h.1 r hr, fun r hr => by rw [← he r hr]; exact h.2.1 r hr, h.2.2⟩

set_option maxRecDepth 100000 in
set_option maxHeartbeats 1000000 in
theorem find_any (Q n a b : Nat) (f : Nat → Nat → Nat) (K : Nat → Prop) (so : Nat → Option Addr) (sc : Nat → Nat) (w : World) (hn : n ≤ 9) (ha : a < n) (hb : b < n) (h : ChB w Q n f K so sc) :
    Calls Try.prog 51 #[.pointer (some ⟨Q + a, 0, none⟩), .int .i64 b] w
      fun e w' => e = .returned (.tuple #[.int .i64 (lnkAt b (f a) : Nat), .bool (decide (0 < f a b))]) ∧ Below w.heap.size w w' := by
  have hl := lnk_len n (f a)
  have c1 : w.cell? ⟨Q + a, 1, none⟩ = some (.slice (so a) (lnk n (f a)).length (sc a)) := (h.1 a ha).cell 1
  have hR : (decide (lnkAt b (f a) < (lnk n (f a)).length) && decide (((lnk n (f a)).getD (lnkAt b (f a)) (0, 0)).1 = b)) = decide (0 < f a b) := by
    by_cases hf : 0 < f a b
    · obtain ⟨h1, h2⟩ := lnk_there hb (f a) hf
      rw [h2]; simp [h1, hf]
    · rw [decide_eq_false hf]
      by_cases hlt : lnkAt b (f a) < (lnk n (f a)).length
      · have := lnk_not hb (f a) (by omega) (Nat.le_refl _) hlt
        rw [decide_eq_false (show ¬ ((lnk n (f a)).getD (lnkAt b (f a)) (0, 0)).1 = b by omega), Bool.and_false]
      · rw [decide_eq_false hlt, Bool.false_and]
  have HS := search_any Q (so a) (sc a) (lnk n (f a)) b (lnkAt b (f a)) w (by omega) (lnkAt_le hb (f a)) (fun j hj => lnk_ahead hb (f a) hj) (fun j h1 h2 => lnk_behind hb (f a) h1 h2) (ownsK_cells (h.2.1 a ha)) (h.rms a)
  rw [hR] at HS
  have HS := Lib.hid HS
  clear hR h
  generalize decide (0 < f a b) = R at *
  generalize lnkAt b (f a) = i at *
  generalize (lnk n (f a)).length = len at *
  generalize so a = sa at *
  generalize sc a = ca at *
  go_enter Try.func51, Try.ntmps51
  go_wp2_with (go_at_call 71; refine (HS.out).mono ?_; rintro e w1 ⟨rfl, hb1⟩)
  go_ret2
  exact ⟨rfl, hb1⟩

/-- what one room's links have become, and nothing else -/
theorem ChB.put {w w' : World} {Q n : Nat} {f : Nat → Nat → Nat} {K : Nat → Prop} {so : Nat → Option Addr} {sc : Nat → Nat} (h : ChB w Q n f K so sc) {a b : Nat} (ha : a < n) {ao' : Option Addr} {cap' : Nat}
    (hheld : HeldB w' (Q + a) 51 (chaC a ao' (lnk n (up1 (f a) b)).length cap'))
    (hrow : w'.ownsRow (Q + n) 53 2 (.slice ao' (lnk n (up1 (f a) b)).length cap') (lnk n (up1 (f a) b)).length (lnkC Q (lnk n (up1 (f a) b))))
    (hother : ∀ k, k < w.heap.size → k ≠ Q + a → (∀ x, so a = some x → k ≠ x.block) → w'.heap[k]? = w.heap[k]?) (hnew : NewOr w (so a) ao') (hKs : ∀ k, K k → k < w.heap.size) :
    ∃ so' sc', ChB w' Q n (up2 f a b) K so' sc' := by
  refine ⟨fun r => if r = a then ao' else so r, fun r => if r = a then cap' else sc r, fun r hr => ?_, fun r hr => ?_, fun r s hr hs hne => ?_, fun r hr x hx => ?_⟩
  · by_cases he : r = a
    · subst he; simp only [if_true, up2_self]; exact hheld
    · simp only [if_neg he, up2_other f b he]
      have h0 := h.1 r hr
      refine (hother _ h0.lt (by omega) fun x hx e => ?_).trans h0
      have := (owns_lt (h.2.1 a ha) x hx).1; omega
  · by_cases he : r = a
    · subst he; simp only [if_true, up2_self]; exact hrow
    · simp only [if_neg he, up2_other f b he]
      have h0 := h.2.1 r hr
      refine ⟨h0.1, ?_⟩
      rcases h0.2 with h1 | ⟨g, c, cur, hv, hbg, hgg, rest⟩
      · exact .inl h1
      · refine .inr ⟨g, c, cur, hv, hbg, ?_, rest⟩
        have hv' := hv
        simp only [Value.slice.injEq] at hv'
        refine (hother g (Array.getElem?_eq_some_iff.1 hgg).1 (by omega) fun x hx e => ?_).trans hgg
        exact h.2.2.1 r a hr ha he _ x hv'.1 hx e
  · by_cases h1 : r = a <;> by_cases h2 : s = a
    · omega
    · simp only [if_pos h1, if_neg h2]
      exact (h.2.2.1 a s ha hs (by omega)).push hnew (fun x hx => (owns_lt (h.2.1 s hs) x hx).2)
    · simp only [if_neg h1, if_pos h2]
      exact ((h.2.2.1 a r ha hr (by omega)).push hnew (fun x hx => (owns_lt (h.2.1 r hr) x hx).2)).symm
    · simp only [if_neg h1, if_neg h2]
      exact h.2.2.1 r s hr hs hne
  · intro hk
    by_cases he : r = a
    · simp only [if_pos he] at hx
      rcases hnew x hx with h1 | h1
      · exact h.2.2.2 a ha x h1 hk
      · have := hKs _ hk; omega
    · simp only [if_neg he] at hx
      exact h.2.2.2 r hr x hx hk

theorem row_some {w : World} {base : Nat} {e : TypeId} {size : Nat} {ao : Option Addr} {n cap : Nat} {xs : List Value} (h : w.ownsRow base e size (.slice ao n cap) n xs) (hn : 0 < n) : ∃ g, ao = some ⟨g, 0, none⟩ ∧ base ≤ g ∧ g < w.heap.size := by
  rcases h.2 with ⟨_, h0⟩ | ⟨g, c, cur, hv, hb, hg, _⟩
  · omega
  · simp only [Value.slice.injEq] at hv
    exact ⟨g, hv.1, hb, (Array.getElem?_eq_some_iff.1 hg).1⟩

theorem lnk_one (Q : Nat) (x : Nat × Nat) : ∀ v ∈ lnkC1 Q x, v.oneCell' = true := fun v hv => by
  simp only [lnkC1, List.mem_cons, List.not_mem_nil, or_false] at hv
  rcases hv with rfl | rfl <;> rfl

/-- a link put among a room's links, and what comes of it then -/
theorem touch_new (Q n a b : Nat) (f : Nat → Nat → Nat) (K : Nat → Prop) (so : Nat → Option Addr) (sc : Nat → Nat) (w1 : World) (hn : n ≤ 9) (ha : a < n) (hb : b < n) (hQ : Q + n ≤ w1.heap.size) (hf : f a b = 0) (h : ChB w1 Q n f K so sc)
    (hK : ∀ k, K k → k < Q ∨ Q + n ≤ k) (hKs : ∀ k, K k → k < w1.heap.size) :
    Calls Try.prog 83 #[.slice (so a) (lnk n (f a)).length (sc a), .int .i64 (lnkAt b (f a) : Nat), .slice (some ⟨w1.heap.size, 0, none⟩) 1 1] (w1.alloc (.cells #[.pointer (some ⟨Q + b, 0, none⟩), .int .i64 0] 53))
      fun e w3 => ∃ g c, e = .returned (.slice (some ⟨g, 0, none⟩) ((lnk n (f a)).length + 1) c) ∧ w3.cell? ⟨Q + a, 1, none⟩ = some (.slice (so a) (lnk n (f a)).length (sc a)) ∧ w3.frozen? ⟨Q + a, 1, none⟩ = false ∧
        (w3.setCell ⟨Q + a, 1, none⟩ (.slice (some ⟨g, 0, none⟩) ((lnk n (f a)).length + 1) c)).cell? ⟨Q + a, 1, none⟩ = some (.slice (some ⟨g, 0, none⟩) ((lnk n (f a)).length + 1) c) ∧
        (w3.setCell ⟨Q + a, 1, none⟩ (.slice (some ⟨g, 0, none⟩) ((lnk n (f a)).length + 1) c)).cell? ⟨g, lnkAt b (f a) * 2 + 1, none⟩ = some (.int .i64 0) ∧
        (w3.setCell ⟨Q + a, 1, none⟩ (.slice (some ⟨g, 0, none⟩) ((lnk n (f a)).length + 1) c)).frozen? ⟨g, lnkAt b (f a) * 2 + 1, none⟩ = false ∧
        (∃ so' sc', ChB ((w3.setCell ⟨Q + a, 1, none⟩ (.slice (some ⟨g, 0, none⟩) ((lnk n (f a)).length + 1) c)).setCell ⟨g, lnkAt b (f a) * 2 + 1, none⟩ (.int .i64 1)) Q n (up2 f a b) K so' sc') ∧
        KeptK K w1 ((w3.setCell ⟨Q + a, 1, none⟩ (.slice (some ⟨g, 0, none⟩) ((lnk n (f a)).length + 1) c)).setCell ⟨g, lnkAt b (f a) * 2 + 1, none⟩ (.int .i64 1)) := by
  have hle := lnkAt_le hb (f a)
  have hll := lnk_len n (f a)
  have hnew := lnk_new hb (f a) hf
  have hB2 := below_alloc w1 (.cells #[.pointer (some ⟨Q + b, 0, none⟩), .int .i64 0] 53)
  have hbl := HeldB.new w1 53 #[.pointer (some ⟨Q + b, 0, none⟩), .int .i64 0]
  have hrow := ownsRow_below (h.2.1 a ha) hB2
  have hlt := owns_lt (h.2.1 a ha)
  have hins := insert_any (Q + n) (so a) (lnk n (f a)).length (sc a) (lnkAt b (f a)) (lnkC Q (lnk n (f a))) (lnkC1 Q (b, 0)) w1.heap.size 1 _ 53 2 (by omega) hle (by rw [World.size_alloc]; omega) hrow (lnkC_one Q _)
    (fun x hx e => by have := (hlt x hx).2; omega) rfl (lnk_one Q _) (fun j v hv => by rw [Nat.zero_add, hbl.cell j, ← hv]; simp [lnkC1]) (by unfold World.shape?; rw [show (w1.alloc (.cells #[.pointer (some ⟨Q + b, 0, none⟩), .int .i64 0] 53)).heap[w1.heap.size]? = _ from hbl]; rfl) (hbl.frozen 0) (hbl.frozen 2)
  refine hins.mono ?_
  rintro e w3 ⟨ao', c, rfl, how, hgr, hno⟩
  obtain ⟨g, rfl, hg1, hg2⟩ := row_some how (by omega)
  have hHa : HeldB w3 (Q + a) 51 (chaC a (so a) (lnk n (f a)).length (sc a)) := kept_own ((h.1 a ha).below hB2) hgr (fun x hx e => by have := (hlt x hx).1; omega)
  have hys : (lnkC Q (lnk n (f a))).take (lnkAt b (f a) * 2) ++ lnkC1 Q (b, 0) ++ (lnkC Q (lnk n (f a))).drop (lnkAt b (f a) * 2) = lnkC Q ((lnk n (f a)).take (lnkAt b (f a)) ++ [(b, 0)] ++ (lnk n (f a)).drop (lnkAt b (f a))) := by
    rw [lnkC_append, lnkC_append, lnkC_take, lnkC_drop]; simp [lnkC]
  rw [hys] at how
  have hnl : ((lnk n (f a)).take (lnkAt b (f a)) ++ [(b, 0)] ++ (lnk n (f a)).drop (lnkAt b (f a))).length = (lnk n (f a)).length + 1 := by
    rw [List.length_append, List.length_append, List.length_take, List.length_drop]; simp only [List.length_singleton]; omega
  have hat : ((lnk n (f a)).take (lnkAt b (f a)) ++ [(b, 0)] ++ (lnk n (f a)).drop (lnkAt b (f a))).getD (lnkAt b (f a)) (0, 0) = (b, 0) := by
    rw [List.append_assoc, getD_appR _ (by rw [List.length_take]; omega), List.length_take, Nat.min_eq_left hle, Nat.sub_self]; rfl
  obtain ⟨M, hM⟩ : ∃ M, M = (lnk n (f a)).take (lnkAt b (f a)) ++ [(b, 0)] ++ (lnk n (f a)).drop (lnkAt b (f a)) := ⟨_, rfl⟩
  rw [← hM] at how hnl hat hnew
  obtain ⟨S, hS⟩ : ∃ S, S = Value.slice (some ⟨g, 0, none⟩) ((lnk n (f a)).length + 1) c := ⟨_, rfl⟩
  have hga : g ≠ Q + a := by omega
  have how4 : (w3.setCell ⟨Q + a, 1, none⟩ S).ownsRow (Q + n) 53 2 (.slice (some ⟨g, 0, none⟩) ((lnk n (f a)).length + 1) c) ((lnk n (f a)).length + 1) (lnkC Q M) := ownsRow_setCell_below how (by show Q + a < Q + n; omega) _
  have hH4 : HeldB (w3.setCell ⟨Q + a, 1, none⟩ S) (Q + a) 51 ((chaC a (so a) (lnk n (f a)).length (sc a)).setIfInBounds 1 S) := hHa.set 1 S
  have hst := how4.stored (lnkAt b (f a) * 2 + 1) (.int .i64 1)
  have hset := lnkC_set Q M (lnkAt b (f a)) b 0 1 (by omega) hat
  rw [show (.int .i64 1 : Value) = .int .i64 ((1 : Nat) : Int) from rfl, ← hset, ← hnew] at hst
  have hlen : (lnk n (f a)).length + 1 = (lnk n (up1 (f a) b)).length := by rw [hnew, List.length_set, hnl]
  have hH5 := hH4.other (a := ⟨g, lnkAt b (f a) * 2 + 1, none⟩) (by show Q + a ≠ g; omega) (.int .i64 1)
  have hoth : ∀ k, k < w1.heap.size → k ≠ Q + a → (∀ x, so a = some x → k ≠ x.block) → ((w3.setCell ⟨Q + a, 1, none⟩ S).setCell ⟨g, lnkAt b (f a) * 2 + 1, none⟩ (.int .i64 1)).heap[k]? = w1.heap[k]? := fun k hk h1 h2 => by
    have hkg : k ≠ g := fun e => by
      rcases hno _ rfl with h' | h'
      · exact h2 _ h' e
      · rw [World.size_alloc] at h'; have : w1.heap.size + 1 ≤ g := h'; omega
    rw [Below.heap_setCell _ _ _ _ hkg, Below.heap_setCell _ _ _ _ h1]
    refine (hgr.block k (by rw [World.size_alloc]; omega) (fun e => ?_)).trans (hB2.block k hk)
    cases hs : so a with
    | none => rw [hs] at e; simp [Value.ownBlock] at e
    | some x => rw [hs] at e; simp only [Value.ownBlock, Option.some.injEq] at e; exact h2 x hs e
  have hsz : w1.heap.size ≤ w3.heap.size := Nat.le_trans hB2.size hgr.size
  refine ⟨g, c, rfl, hHa.cell 1, hHa.frozen 1, ?_, ?_, by rw [← hS]; exact how4.frozenAt _, ?_, ?_⟩
  · rw [← hS, hH4.cell 1, hS]; rfl
  · rw [← hS, how4.cellAt _ (by omega), lnkC_at Q M _ 1 (by omega) (by omega), hat]; rfl
  · rw [← hS]
    refine h.put (b := b) ha (hH5.eq ?_) (by rw [← hlen]; exact hst.1) hoth (fun x hx => ?_) hKs
    · rw [← hlen, hS]; rfl
    · rcases hno x hx with h' | h'
      · exact .inl h'
      · rw [World.size_alloc] at h'; exact .inr (by omega)
  · rw [← hS]
    refine ⟨?_, ?_, ?_, ?_, fun k hk hkl => hoth k hkl (fun e => ?_) (fun x hx e => ?_)⟩
    · exact hgr.os
    · exact hgr.tape
    · exact hgr.output
    · simpa [World.setCell] using hsz
    · rcases hK k hk with h' | h' <;> omega
    · exact h.2.2.2 a ha x hx (by rw [← e]; exact hk)

theorem build_lnk (Q b : Nat) (w : World) : (Instr.buildSlice 49 1 #[(0, .agg #[.pointer (some ⟨Q + b, 0, none⟩), .int .i64 0])]).run Try.prog w = .ok (.slice (some ⟨w.heap.size, 0, none⟩) 1 1) (w.alloc (.cells #[.pointer (some ⟨Q + b, 0, none⟩), .int .i64 0] 53)) := by
  obtain ⟨iw, hwi, hwz, hw1, hw2⟩ := info_parts Try.infoLnk
  exact run_buildSlice w _ _ 1 _ #[.pointer (some ⟨Q + b, 0, none⟩), .int .i64 0] iw _ Try.underlying49 hwi hwz (by rw [hw1]; decide) (by rw [hw1]; decide) (by rw [hw1]; kernel_rfl)

set_option maxRecDepth 100000 in
set_option maxHeartbeats 4000000 in
theorem touch_any (Q n a b : Nat) (f : Nat → Nat → Nat) (K : Nat → Prop) (so : Nat → Option Addr) (sc : Nat → Nat) (w : World) (hn : n ≤ 9) (ha : a < n) (hb : b < n) (hQ : Q + n ≤ w.heap.size) (hf : f a b ≤ 1000) (h : ChB w Q n f K so sc)
    (hK : ∀ k, K k → k < Q ∨ Q + n ≤ k) (hKs : ∀ k, K k → k < w.heap.size) :
    Calls Try.prog 70 #[.pointer (some ⟨Q + a, 0, none⟩), .pointer (some ⟨Q + b, 0, none⟩)] w
      fun e w' => e = .returned (.tuple #[]) ∧ (∃ so' sc', ChB w' Q n (up2 f a b) K so' sc') ∧ KeptK K w w' := by
  have cb : w.cell? ⟨Q + b, 0, none⟩ = some (.int .i64 (b : Nat)) := (h.1 b hb).cell 0
  have HFI := Lib.hid (find_any Q n a b f K so sc w hn ha hb h)
  have hle := lnkAt_le hb (f a)
  have hll := lnk_len n (f a)
  by_cases hpos : 0 < f a b
  · obtain ⟨h1, h2⟩ := lnk_there hb (f a) hpos
    have hmore := lnk_more hb (f a) hpos
    rw [decide_eq_true hpos] at HFI
    have HP := Lib.hid (fun (w' : World) (hw : Below w.heap.size w w') => h.below hw)
    have hrow0 := h.2.1 a ha
    obtain ⟨g, hso, hg1, hg2⟩ := row_some hrow0 (by omega)
    have HPUT := Lib.hid (fun (w1 : World) (hw : Below w.heap.size w w1) => by
      have hs := lnkC_set Q (lnk n (f a)) (lnkAt b (f a)) b (f a b) (f a b + 1) h1 h2
      have hA := (h.below hw)
      have hr := hA.2.1 a ha
      rw [hso] at hr
      have hst := hr.stored (lnkAt b (f a) * 2 + 1) (.int .i64 (f a b + 1 : Nat))
      rw [← hs, ← hmore] at hst
      have hlen : (lnk n (f a)).length = (lnk n (up1 (f a) b)).length := by rw [hmore, List.length_set]
      have hheld := (hA.1 a ha).other (a := ⟨g, lnkAt b (f a) * 2 + 1, none⟩) (by show Q + a ≠ g; omega) (.int .i64 (f a b + 1 : Nat))
      rw [hlen] at hst hheld
      rw [hso] at hheld
      have hsz := hw.size
      have := hA.put (b := b) ha hheld hst.1 (fun k hk h3 h4 => by
        refine hst.2.block k hk (fun e => ?_)
        simp only [Option.some.injEq] at e
        exact h4 _ hso e) (fun x hx => .inl (by rw [hso]; exact hx)) (fun k hk => by have := hKs k hk; omega)
      have hkept : KeptK K w1 (w1.setCell ⟨g, lnkAt b (f a) * 2 + 1, none⟩ (.int .i64 (f a b + 1 : Nat))) := ⟨hst.2.os, hst.2.tape, hst.2.output, hst.2.size, fun k hk hkl => hst.2.block k hkl (fun e => by
        simp only [Option.some.injEq] at e
        exact h.2.2.2 a ha _ hso (by rw [← e]; exact hk))⟩
      exact And.intro this ((KeptK.of_below hw).trans hkept))
    have HCE := Lib.hid (fun (w1 : World) (hw : Below w.heap.size w w1) => by
      have hA := (h.below hw)
      have hr := hA.2.1 a ha
      rw [hso] at hr
      have e1 : w1.cell? ⟨g, lnkAt b (f a) * 2 + 1, none⟩ = some (.int .i64 (f a b : Nat)) := by
        rw [hr.cellAt _ (by omega), lnkC_at Q _ _ 1 h1 (by omega), h2]; rfl
      have e2 := hr.frozenAt (lnkAt b (f a) * 2 + 1)
      have e3 : w1.cell? ⟨Q + a, 1, none⟩ = some (.slice (some ⟨g, 0, none⟩) (lnk n (f a)).length (sc a)) := by rw [(hA.1 a ha).cell 1, ← hso]; rfl
      exact And.intro e1 (And.intro e2 e3))
    clear h hrow0 HP hmore h2 hso
    generalize up2 f a b = F2 at *
    generalize (lnk n (f a)).length = len at *
    generalize lnkAt b (f a) = i at *
    generalize f a b = m at *
    generalize sc a = ca at *
    have hil : (i : Int) < (len : Int) := by omega
    go_enter Try.func70, Try.ntmps70
    go_wp2_with (go_at_call 51; refine (HFI.out).mono ?_; rintro e w1 ⟨rfl, hb1⟩; obtain ⟨e1, e2, e3⟩ := HCE.out w1 hb1)
    have hfin := HPUT.out w1 hb1
    exact bodyPost_end (v := .tuple #[]) (by simp [results, Try.results70, go_sem]) rfl ⟨rfl, hfin⟩
  · have hz : f a b = 0 := by omega
    rw [decide_eq_false hpos] at HFI
    have HT := Lib.hid (fun (w1 : World) (hw : Below w.heap.size w w1) => touch_new Q n a b f K so sc w1 hn ha hb (by have := hw.size; omega) hz (h.below hw) hK (fun k hk => by have := hKs k hk; have := hw.size; omega))
    have HC1 := Lib.hid (fun (w1 : World) (hw : Below w.heap.size w w1) => show w1.cell? ⟨Q + a, 1, none⟩ = some (.slice (so a) (lnk n (f a)).length (sc a)) from ((h.below hw).1 a ha).cell 1)
    clear h hK hKs hz hpos hf
    generalize up2 f a b = F2 at *
    generalize (lnk n (f a)).length = len at *
    generalize lnkAt b (f a) = i at *
    generalize sc a = ca at *
    generalize so a = sa at *
    have hil : (i : Int) < (len : Int) + 1 := by omega
    have hil2 : i < len + 1 := by omega
    go_enter Try.func70, Try.ntmps70
    go_wp2_with (first
      | (go_at_call 51; refine (HFI.out).mono ?_; rintro e w1 ⟨rfl, hb1⟩; have e1 := HC1.out w1 hb1; have HT1 := Lib.hid (HT.out w1 hb1))
      | (go_at_call 83; refine (HT1.out).mono ?_; rintro e w3 ⟨g, c, rfl, f1, f2, f3, f4, f5, f6, f7⟩; have HF6 := Lib.hid f6; have HF7 := Lib.hid f7; clear f6 f7)
      | (refine wpList_build1 rfl 49 53 _ rfl _ rfl (build_lnk _ _ _) ?_))
    exact bodyPost_end (v := .tuple #[]) (by simp [results, Try.results70, go_sem]) rfl ⟨rfl, HF6.out, (KeptK.of_below hb1).trans HF7.out⟩

end Go.Proofs.Ytkbgkkempooplaa
