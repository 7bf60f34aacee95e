
/-
  Merged texts: Cnt Inner Gather PtsN MeetI.
-/
import Derived.Test.YtfemfmkgdgcemaaPts
import Derived.Test.YtfemfmkgdgcemaaCut
import Derived.Test.YtfemfmkgdgcemaaPoint
import Derived.Test.YtfemfmkgdgcemaaOutl
import Derived.Test.YtfemfmkgdgcemaaTightM
import Derived.Maps.RangeWalk
import Derived.Maps.OwnOps
import Derived.Maps.Views
import Derived.DeepKeys4
import Derived.WideKeyEntry
import Derived.Laws.MakeOwn
import Derived.Deep.MidRow
import Derived.OrdersHeld

/-
  A map that counts points. (No function of the program is named.)
-/
namespace Go.Proofs.Ytfemfmkgdgcemaa
open Go.RowKit
open Go.Maps (Keyed)
open Go.WideElems (Fit rd rg pl)

/-- the key of a point -/
def ptL (x : Nat × Nat) : Lit := .string (keyBytes [.int .i64 (x.1 : Nat), .int .i64 (x.2 : Nat)])
set_option maxRecDepth 100000 in
theorem ptC_inj {x y : Nat × Nat} (h : (Value.agg (ptC x)) = .agg (ptC y)) : x = y := by
  obtain ⟨a, b⟩ := x
  obtain ⟨c, d⟩ := y
  unfold ptC at h
  simp only [Value.agg.injEq, Array.mk.injEq, List.cons.injEq, Value.int.injEq, true_and, and_true] at h
  rw [Prod.mk.injEq]
  omega
/-- what a map says of the points of a list: how often each is in it -/
def Counts (D : DataW Unit) (M : List (Nat × Nat)) : Prop :=
  (∀ x ∈ ptsAll, D.atKey (ptL x) (.lit (.int .i64 0)) = .lit (.int .i64 (M.count x : Nat))) ∧ ∀ kl, Maps.has D kl = true ↔ ∃ x ∈ M, kl = ptL x
theorem counts_nil : Counts (.map []) [] := ⟨fun x _ => by simp [DataW.atKey], fun kl => by simp [Maps.has]⟩
set_option maxRecDepth 100000 in
theorem zero_int (w : World) : (zeroValue 3).run Try.prog w = .ok (.int .i64 0) w := by kernel_rfl

/-- the points that a map's loop has met -/
def doneC (q : Nat × Nat → Bool) (M : List (Nat × Nat)) (left : Lit → Bool) : Nat := ptsAll.countP fun x => (decide (0 < M.count x) && q x) && !left (ptL x)

set_option maxRecDepth 100000 in
theorem doneC_start {q : Nat × Nat → Bool} {D : DataW Unit} {M : List (Nat × Nat)} (h : Counts D M) : doneC q M (Maps.has D) = 0 := by
  unfold doneC
  rw [List.countP_eq_zero]
  intro x _ hc
  simp only [Bool.and_eq_true, decide_eq_true_eq, Bool.not_eq_true'] at hc
  obtain ⟨⟨h0, _⟩, h1⟩ := hc
  have := (h.2 (ptL x)).2 ⟨x, List.count_pos_iff.1 h0, rfl⟩
  rw [h1] at this; cases this
set_option maxRecDepth 100000 in
theorem doneC_end {q : Nat × Nat → Bool} {M : List (Nat × Nat)} {left : Lit → Bool} (h : ∀ kl, left kl = false) : doneC q M left = ptsAll.countP fun x => decide (0 < M.count x) && q x := by
  unfold doneC
  refine List.countP_congr fun x _ => ?_
  rw [h]; simp
theorem countP_one {α : Type} [BEq α] [LawfulBEq α] (f g : α → Bool) (x : α) (hg : g x = true) (hf : f x = false) (ho : ∀ y, y ≠ x → g y = f y) : ∀ l : List α, l.countP g = l.countP f + l.count x
  | [] => rfl
  | y :: l => by
    rw [List.countP_cons, List.countP_cons, List.count_cons, countP_one f g x hg hf ho l]
    by_cases he : y = x
    · subst he; rw [if_pos hg, if_neg (by rw [hf]; decide), if_pos (by simp)]; omega
    · rw [ho y he, if_neg (show ¬ (y == x) = true by simpa using he)]; omega
end Go.Proofs.Ytfemfmkgdgcemaa

/-
  The points that a wall goes through, and those where it ends: the program's answers. (Walks.)
-/
namespace Go.Proofs.Ytfemfmkgdgcemaa
open Go.RowKit

/-- a slice made with no elements -/
theorem wpList_makeK {P : Program} (w : World) {ops : Array Oper} {rest : List Oper} {o : Oper} {a : Act} {Q : Exit → Act → World → Prop} (hgd : o.guard = none) (t : TypeId) (x y : Operand)
    (ho : o.op = .makeSlice t x y) (base : Nat) (e : TypeId) (i : TypeInfo) (z : Value) (size : Nat) (ht : P.underlying t = some (.slice e)) (hi : P.info? e = some i) (hz : i.zero = some z) (hsize : i.size = size)
    (c : Nat) (hx : a.eval x = .int .i64 0) (hy : a.eval y = .int .i64 (c : Int)) (hbytes : i.bytes * c ≤ 281474976710656) (h63 : c ≤ maxLen) (hbase : base ≤ w.heap.size)
    (h : ∀ w', w'.ownsRow base e size (.slice (some ⟨w.heap.size, 0, none⟩) 0 c) 0 [] → w.grownBy w' none → w'.heap.size = w.heap.size + 1 → wpList P ops Q rest (a.put o.dst (.slice (some ⟨w.heap.size, 0, none⟩) 0 c)) w') : wpList P ops Q (o :: rest) a w := by
  refine wpList_plain hgd fun K hK' => ?_
  have h63' : (c : Int) ≤ 9223372036854775807 := by
    have h := h63
    simp [maxLen] at h
    omega
  have hb' : (i.bytes : Int) * (c : Int) ≤ 281474976710656 := by
    have h : ((i.bytes * c : Nat) : Int) ≤ 281474976710656 := by omega
    rwa [Int.natCast_mul] at h
  have hr := run_make (P := P) w t e i z ht hi hz .i64 .i64 0 c (Int.le_refl _) (by omega) hb' h63'
  simp only [Int.toNat_zero, Int.toNat_natCast] at hr
  subst hsize
  unfold Oper.wp
  simp [execOp, ho, hx, hy, hr, Result.andThen]
  exact hK' _ _ (h _ (World.ownsRow_made w _ c hbase h63 (size_madeCells _ _)) (World.grownBy_alloc w _ none) (by simp))

/-- points as cells -/
def ptsC (L : List (Nat × Nat)) : List Value := L.flatMap fun x => (ptC x).toList
theorem ptsC_snoc (L : List (Nat × Nat)) (x : Nat × Nat) : ptsC (L ++ [x]) = ptsC L ++ (ptC x).toList := by unfold ptsC; rw [List.flatMap_append, List.flatMap_singleton]
theorem ptC_ones {x : Nat × Nat} : ∀ v ∈ (ptC x).toList, v.oneCell' = true := by
  intro v hv
  unfold ptC at hv
  simp only [List.mem_cons, List.not_mem_nil, or_false] at hv
  rcases hv with rfl | rfl <;> rfl
theorem ptC_list (x : Nat × Nat) : (ptC x).toList.length = 2 := rfl
/-- the first points that a wall goes through -/
def innT (X : Wl) (t : Nat) : List (Nat × Nat) := (List.range t).map fun s => ptAt X (X.first + 1 + s)
theorem innT_len (X : Wl) (t : Nat) : (innT X t).length = t := by unfold innT; simp
theorem innT_all (X : Wl) : innT X (X.long - 1) = innW X := by
  unfold innT innW innR
  rw [List.map_map]
  rfl
theorem innT_succ (X : Wl) (t : Nat) : innT X (t + 1) = innT X t ++ [ptAt X (X.first + 1 + t)] := by
  unfold innT; rw [List.range_succ, List.map_append]; rfl

theorem yieldsIf_load_cell {P : Program} {ops : Array Oper} {S : World → Prop} {op : Oper} {a : Act} (hw : Region.wanted op (yielded ops a.tmps) = true) (ty : TypeId) (x : Operand) (ho : op.op = .load ty x) (v : Value)
    (hr : ∀ w, S w → (Instr.loadAt ty (a.eval x)).run P w = .ok v w) : YieldsIf P ops S op v a :=
  .inl ⟨hw, fun w hw' => by
    unfold execOp
    simp only [ho, Sem.run_bind, Sem.run_pure, Result.andThen_ok, hr w hw']⟩

end Go.Proofs.Ytfemfmkgdgcemaa

/-
  How many walls have each point: a map is filled. (Walks.)
-/
namespace Go.Proofs.Ytfemfmkgdgcemaa
open Go.RowKit

theorem ptsC_at (L : List (Nat × Nat)) (i j : Nat) (hi : i < L.length) (hj : j < 2) : (ptsC L)[i * 2 + j]? = (ptC (L.getD i (0, 0))).toList[j]? := by
  unfold ptsC
  induction L generalizing i with
  | nil => simp at hi
  | cons x L ih =>
    rw [List.flatMap_cons]
    cases i with
    | zero => rw [Nat.zero_mul, Nat.zero_add, List.getElem?_append_left (by rw [ptC_list]; exact hj)]; rfl
    | succ i =>
      rw [List.getElem?_append_right (by rw [ptC_list]; omega), ptC_list, show (i + 1) * 2 + j - 2 = i * 2 + j from by omega, ih i (by simpa using hi)]
      rfl
theorem pts_range {w : World} {ao : Option Addr} {L : List (Nat × Nat)} (h : CellsAt w ao (ptsC L)) {i : Nat} (hi : i < L.length) : ∃ b off, ao = some ⟨b, off, none⟩ ∧ w.rangeAt b (off + i * 2) (ptC (L.getD i (0, 0))).toList := by
  obtain ⟨b, off, rfl, _⟩ := h (i * 2 + 0) _ ((ptsC_at L i 0 hi (by omega)).trans rfl)
  refine ⟨b, off, rfl, fun j v hv => ?_⟩
  have hj : j < 2 := by
    have := (List.getElem?_eq_some_iff.1 hv).1
    simpa [ptC] using this
  obtain ⟨b', off', he, hc⟩ := h (i * 2 + j) v (by rw [ptsC_at L i j hi hj, ← hv])
  simp only [Option.some.injEq, Addr.mk.injEq, and_true] at he
  obtain ⟨rfl, rfl⟩ := he
  rw [show off + i * 2 + j = off + (i * 2 + j) from by omega]
  exact hc
theorem wpList_load_pt {P : Program} {ops : Array Oper} {rest : List Oper} {op : Oper} {a : Act} {w : World} {Q : Exit → Act → World → Prop} (hgd : op.guard = none) (ty : TypeId) (x : Operand) (ho : op.op = .load ty x)
    (b o : Nat) (hx : a.eval x = .pointer (some ⟨b, o, none⟩)) (X : Nat × Nat) (d : TypeDesc) (hc : w.rangeAt b o (ptC X).toList)
    (hu : P.underlying ty = some d) (hd : d.isRow = true) (hi : (P.info? ty).map (·.size) = some 2)
    (h : wpList P ops Q rest (a.put op.dst (.agg (ptC X))) w) : wpList P ops Q (op :: rest) a w :=
  wpList_load_mid hgd ty x ho b o hx (ptC X).toList d hc hu hd hi (by simpa using h)
theorem zero_pt : (#[.int .i64 0, .int .i64 0] : Array Value) = ptC (0, 0) := rfl

theorem setBlock_twice (w : World) (b : Nat) (o o' : Obj) : ChangeMaps.setBlock (ChangeMaps.setBlock w b o) b o' = ChangeMaps.setBlock w b o' := by
  unfold ChangeMaps.setBlock
  simp [Array.setIfInBounds_setIfInBounds]
theorem int_wf {n : Nat} (h : n < 200000) : (Lit.int .i64 (n : Int)).wf = true := by
  show (decide (IntKind.i64.min ≤ (n : Int)) && decide ((n : Int) ≤ IntKind.i64.max)) = true
  have h1 : IntKind.i64.min = -9223372036854775808 := by decide +kernel
  have h2 : IntKind.i64.max = 9223372036854775807 := by decide +kernel
  rw [h1, h2, decide_eq_true (by omega), decide_eq_true (by omega)]
  rfl

theorem flatG_len {G : Wl → List (Nat × Nat)} : ∀ (L : List Wl) (n : Nat), L.length ≤ n → (∀ X ∈ L, (G X).length ≤ 6) → (L.flatMap G).length ≤ n * 6
  | [], _, _, _ => Nat.zero_le _
  | X :: L, n, h, h6 => by
    rw [List.length_cons] at h
    have := flatG_len L (n - 1) (by omega) (fun Y hY => h6 Y (List.mem_cons_of_mem _ hY))
    have := h6 X (List.mem_cons_self ..)
    rw [List.flatMap_cons, List.length_append]
    omega
theorem inner_six (X : Wl) (_a1 : 1 ≤ X.long) (a2 : X.first + X.long ≤ 6) : (innW X).length ≤ 6 := by unfold innW innR; simp; omega
theorem ends_six (X : Wl) (_a1 : 1 ≤ X.long) (_a2 : X.first + X.long ≤ 6) : (endW X).length ≤ 6 := by unfold endW endR; simp
theorem inner_len (L : List Wl) (n : Nat) (h : L.length ≤ n) (hX : ∀ X ∈ L, 1 ≤ X.long ∧ X.first + X.long ≤ 6 ∧ X.line ≤ 6) : (L.flatMap innW).length ≤ n * 6 := flatG_len L n h (fun X hx => inner_six X (hX X hx).1 (hX X hx).2.1)
theorem ends_len (L : List Wl) (n : Nat) (h : L.length ≤ n) (hX : ∀ X ∈ L, 1 ≤ X.long ∧ X.first + X.long ≤ 6 ∧ X.line ≤ 6) : (L.flatMap endW).length ≤ n * 6 := flatG_len L n h (fun X hx => ends_six X (hX X hx).1 (hX X hx).2.1)
theorem mkP_in {w k i : Nat} (hk : k ≤ 6) (hi : i ≤ 6) : mkP w k i ∈ ptsAll := by
  unfold mkP
  split
  · exact mem_ptsAll.2 ⟨hi, hk⟩
  · exact mem_ptsAll.2 ⟨hk, hi⟩
theorem inner_in (X : Wl) (_a1 : 1 ≤ X.long) (a2 : X.first + X.long ≤ 6) (a3 : X.line ≤ 6) : ∀ x ∈ innW X, x ∈ ptsAll := by
  intro x hx
  unfold innW innR at hx
  rw [List.map_map, List.mem_map] at hx
  obtain ⟨t, ht, rfl⟩ := hx
  rw [List.mem_range] at ht
  have ht2 : t < X.long - 1 := ht
  exact mkP_in a3 (show X.first + 1 + t ≤ 6 by omega)
theorem ends_in (X : Wl) (_a1 : 1 ≤ X.long) (a2 : X.first + X.long ≤ 6) (a3 : X.line ≤ 6) : ∀ x ∈ endW X, x ∈ ptsAll := by
  intro x hx
  unfold endW endR at hx
  simp only [List.map_cons, List.map_nil, List.mem_cons, List.not_mem_nil, or_false] at hx
  rcases hx with rfl | rfl
  · exact mkP_in a3 (by omega)
  · exact mkP_in a3 a2

end Go.Proofs.Ytfemfmkgdgcemaa

/-
  Crosses, tees and ends of a plan: what the program counts is what the model counts. (Mathematics.)
-/
namespace Go.Proofs.Ytfemfmkgdgcemaa
open Go.RowKit

theorem PlanP.rectG {p : List ByteArray} (hp : PlanP p) : RectG p.length (wideB p) (gridG p) := hp.rect.of_same (fun i j i' j' a b c d => by rw [hp.mark i j a b, hp.mark i' j' c d])

theorem newN_meet {p : List ByteArray} (hp : PlanP p) {i k : Nat} (hi1 : 1 ≤ i) (hi : i < p.length) (hk1 : 1 ≤ k) (hk : k < wideB p) : newN (cornL p i k) 4 = meetG (gridG p) i k := by
  have d1 := hp.differ (i := i - 1) (j := k) (i' := i - 1) (j' := k - 1) (by omega) hk (by omega) (by omega)
  have d2 := hp.differ (i := i) (j := k - 1) (i' := i - 1) (j' := k - 1) hi (by omega) (by omega) (by omega)
  have d3 := hp.differ (i := i) (j := k - 1) (i' := i - 1) (j' := k) hi (by omega) (by omega) hk
  have d4 := hp.differ (i := i) (j := k) (i' := i - 1) (j' := k - 1) hi hk (by omega) (by omega)
  have d5 := hp.differ (i := i) (j := k) (i' := i - 1) (j' := k) hi hk (by omega) hk
  have d6 := hp.differ (i := i) (j := k) (i' := i) (j' := k - 1) hi hk hi (by omega)
  unfold meetG
  rw [show newN (cornL p i k) 4 = newN (cornL p i k) (0 + 1 + 1 + 1 + 1) from rfl, newN_succ, newN_succ, newN_succ, newN_succ, newN_zero]
  rw [show newL (cornL p i k) 0 0 = true from rfl]
  rw [show newL (cornL p i k) (0 + 1) (0 + 1) = (true && decide (byteAt p (i - 1) k ≠ byteAt p (i - 1) (k - 1))) from newL_succ ..]
  rw [show newL (cornL p i k) (0 + 1 + 1) (0 + 1 + 1) = ((true && decide (byteAt p i (k - 1) ≠ byteAt p (i - 1) (k - 1))) && decide (byteAt p i (k - 1) ≠ byteAt p (i - 1) k)) by rw [newL_succ, newL_succ]; rfl]
  rw [show newL (cornL p i k) (0 + 1 + 1 + 1) (0 + 1 + 1 + 1) = (((true && decide (byteAt p i k ≠ byteAt p (i - 1) (k - 1))) && decide (byteAt p i k ≠ byteAt p (i - 1) k)) && decide (byteAt p i k ≠ byteAt p i (k - 1))) by rw [newL_succ, newL_succ, newL_succ]; rfl]
  have e1 : decide (byteAt p (i - 1) k ≠ byteAt p (i - 1) (k - 1)) = decide (gridG p (i - 1) k ≠ gridG p (i - 1) (k - 1)) := decide_eq_decide.2 d1
  have e2 : decide (byteAt p i (k - 1) ≠ byteAt p (i - 1) (k - 1)) = decide (gridG p i (k - 1) ≠ gridG p (i - 1) (k - 1)) := decide_eq_decide.2 d2
  have e3 : decide (byteAt p i (k - 1) ≠ byteAt p (i - 1) k) = decide (gridG p i (k - 1) ≠ gridG p (i - 1) k) := decide_eq_decide.2 d3
  have e4 : decide (byteAt p i k ≠ byteAt p (i - 1) (k - 1)) = decide (gridG p i k ≠ gridG p (i - 1) (k - 1)) := decide_eq_decide.2 d4
  have e5 : decide (byteAt p i k ≠ byteAt p (i - 1) k) = decide (gridG p i k ≠ gridG p (i - 1) k) := decide_eq_decide.2 d5
  have e6 : decide (byteAt p i k ≠ byteAt p i (k - 1)) = decide (gridG p i k ≠ gridG p i (k - 1)) := decide_eq_decide.2 d6
  rw [e1, e2, e3, e4, e5, e6]
  unfold b2n
  simp only [Bool.true_and, Bool.and_assoc, if_true, Nat.zero_add]

theorem pts_grid {p : List ByteArray} (hp : PlanP p) (m : Nat) : ptsN p m p.length = ptsG p.length (wideB p) (gridG p) m := by
  unfold ptsN ptsG rowPts
  congr 1
  refine List.map_congr_left fun i hi => ?_
  refine List.countP_congr fun k hk => ?_
  rw [List.mem_range] at hi hk
  unfold metB metG
  by_cases h1 : 1 ≤ i
  · by_cases h2 : 1 ≤ k
    · rw [newN_meet hp h1 hi h2 hk]
    · rw [decide_eq_false h2]; simp
  · rw [decide_eq_false h1]; simp

theorem endOne_wl (m : Nat) (X : Wl) : endOne m (wlL X) = endTwo m X := by
  unfold endOne endTwo wlL
  simp only [List.getD_cons_zero, List.getD_cons_succ]
  congr 1
  · by_cases h : X.first = 0
    · rw [if_pos h, if_pos (by omega)]
    · rw [if_neg h, if_neg (by omega)]
  · by_cases h : X.first + X.long = m
    · rw [if_pos h, if_pos (by omega)]
    · rw [if_neg h, if_neg (by omega)]

/-- what the program counts -/
def innP (p : List ByteArray) : List (Nat × Nat) := (wallsP p).flatMap innW
def endP (p : List ByteArray) : List (Nat × Nat) := (wallsP p).flatMap endW
def crossC (p : List ByteArray) : Nat := ptsAll.countP fun x => decide ((innP p).count x = 2)
def teeC (p : List ByteArray) : Nat := ptsAll.countP fun x => decide (0 < (endP p).count x) && !outB (planH p) (planW p) x
def endC (p : List ByteArray) : Nat := ptsAll.countP fun x => decide (0 < (endP p).count x) && outB (planH p) (planW p) x

theorem crossC_meet (p : List ByteArray) : crossC p = meetN p 4 := by
  unfold crossC innP meetN
  cases hp : planB p
  · rw [wallsP_no hp, if_neg (by decide), List.countP_eq_zero]
    intro x _
    simp
  · have h := planP_of hp
    rw [wallsP_yes hp, if_pos rfl, cross_pts h.rectG h.grid.h6 h.grid.w6, pts_grid h]
theorem teeC_meet (p : List ByteArray) : teeC p = meetN p 3 := by
  unfold teeC endP meetN
  cases hp : planB p
  · rw [wallsP_no hp, if_neg (by decide), List.countP_eq_zero]
    intro x _
    simp
  · have h := planP_of hp
    unfold planH planW
    rw [wallsP_yes hp, if_pos rfl, if_pos hp, if_pos hp, tee_pts h.rectG h.grid.h6 h.grid.w6, pts_grid h]
theorem endC_out (p : List ByteArray) : endC p = outN p := by
  unfold endC endP outN
  cases hp : planB p
  · rw [wallsP_no hp, if_neg (by decide), List.countP_eq_zero]
    intro x _
    simp
  · have h := planP_of hp
    unfold planH planW
    rw [wallsP_yes hp, if_pos rfl, if_pos hp, if_pos hp, out_pts _ _ _ h.grid.h6 h.grid.w6, out_ends, upL_grid hp, upL_trans hp]
    unfold endsL
    rw [List.map_map, List.map_map]
    congr 1
    · congr 1; exact List.map_congr_left fun X _ => (endOne_wl _ X).symm
    · congr 1; exact List.map_congr_left fun X _ => (endOne_wl _ X).symm
theorem crossC_le (p : List ByteArray) : crossC p ≤ 49 := Nat.le_trans List.countP_le_length (by decide +kernel)

end Go.Proofs.Ytfemfmkgdgcemaa

/-
  Crosses, tees and ends: the program's answers. (Walks.)
-/
namespace Go.Proofs.Ytfemfmkgdgcemaa
open Go.RowKit

theorem gb_setCell (w : World) (b k : Nat) (v : Value) : w.grownBy (w.setCell ⟨b, k, none⟩ v) (some b) :=
  ⟨rfl, rfl, rfl, by simp, fun i _ hi => Below.heap_setCell w ⟨b, k, none⟩ v i (fun e => hi (by rw [e]))⟩

/-- the cells of meetings -/
def mtC (a b c : Nat) : Array Value := #[.int .i64 (a : Nat), .int .i64 (b : Nat), .int .i64 (c : Nat)]
theorem mtC_one (a b c : Nat) : (mtC a b c).all (·.oneCell') = true := by
  rw [Array.all_eq_true_iff_forall_mem]
  intro v hv
  unfold mtC at hv
  simp only [List.mem_toArray, List.mem_cons, List.not_mem_nil, or_false] at hv
  rcases hv with rfl | rfl | rfl <;> rfl
theorem zero_mt : (#[.int .i64 0, .int .i64 0, .int .i64 0] : Array Value) = mtC 0 0 0 := rfl

def crossG (h wd : Nat) (g : Nat → Nat → Nat) : Nat := ptsAll.countP fun x => decide (((wallsG h wd g).flatMap innW).count x = 2)
def teeG (h wd : Nat) (g : Nat → Nat → Nat) : Nat := ptsAll.countP fun x => decide (0 < ((wallsG h wd g).flatMap endW).count x) && !outB h wd x
def endG (h wd : Nat) (g : Nat → Nat → Nat) : Nat := ptsAll.countP fun x => decide (0 < ((wallsG h wd g).flatMap endW).count x) && outB h wd x
theorem cross_done (h wd : Nat) (g : Nat → Nat → Nat) : (ptsAll.countP fun x => decide (0 < ((wallsG h wd g).flatMap innW).count x) && decide (((wallsG h wd g).flatMap innW).count x = 2)) = crossG h wd g := by
  unfold crossG
  refine List.countP_congr fun x _ => ?_
  by_cases h2 : ((wallsG h wd g).flatMap innW).count x = 2
  · rw [h2]; simp
  · rw [decide_eq_false h2]; simp
theorem wallsG_fit {h wd : Nat} {g : Nat → Nat → Nat} (hh : h ≤ 6) (hw : wd ≤ 6) : ∀ X ∈ wallsG h wd g, 1 ≤ X.long ∧ X.first + X.long ≤ 6 ∧ X.line ≤ 6 := fun X hX => by
  obtain ⟨_, _, c, d, e, _⟩ := wallsG_mem hX
  unfold acrossN at c
  unfold alongN at e
  refine ⟨d, ?_, ?_⟩
  · split at e <;> omega
  · split at c <;> omega

theorem meet_cross (p : List ByteArray) : crossG (planH p) (planW p) (planG p) = meetN p 4 := crossC_meet p
theorem meet_tee (p : List ByteArray) : teeG (planH p) (planW p) (planG p) = meetN p 3 := teeC_meet p
theorem meet_end (p : List ByteArray) : endG (planH p) (planW p) (planG p) = outN p := endC_out p

end Go.Proofs.Ytfemfmkgdgcemaa
