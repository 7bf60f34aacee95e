
/-
  Merged texts: Cnt Inner Gather PtsN MeetI.
-/
import Derived.Test.YtjdlapcikpmdgaaPts
import Derived.Test.YtjdlapcikpmdgaaCut
import Derived.Test.YtjdlapcikpmdgaaPoint
import Derived.Test.YtjdlapcikpmdgaaOutl
import Derived.Test.YtjdlapcikpmdgaaTightM
import Derived.Maps.RangeWalk
import Derived.Maps.OwnOps
import Derived.Maps.Views
import Derived.DeepKeys4
import Derived.WideKeyEntry
import Derived.Laws.MakeOwn
import Derived.Deep.MidRow
import Derived.OrdersHeld

/-
  A map that counts points. (No function of the program is named.)
-/
namespace Go.Proofs.Ytjdlapcikpmdgaa
open Go.RowKit
open Go.Maps (Keyed)
open Go.WideElems (Fit rd rg pl)

set_option maxRecDepth 100000 in
theorem point_law : WideMaps.KeyLaw Try.prog 141 := deep_law_laid (m := 3) (by kernel_rfl) (by decide) (of_decide_eq_true (by kernel_rfl)) (by kernel_rfl) (by kernel_rfl)
set_option maxRecDepth 100000 in
theorem point_keyed : Keyed Try.prog 141 := Keyed.of_law point_law

/-- the key of a point -/
def ptL (x : Nat × Nat) : Lit := .string (keyBytes [.int .i64 (x.1 : Nat), .int .i64 (x.2 : Nat)])
set_option maxRecDepth 100000 in
theorem keyOf_pt_all : (ptsAll.map fun x => keyOf Try.prog 141 (.agg (ptC x))) = ptsAll.map fun x => some (ptL x) := by kernel_rfl
set_option maxRecDepth 100000 in
theorem keyOf_pt {x : Nat × Nat} (hx : x ∈ ptsAll) : keyOf Try.prog 141 (.agg (ptC x)) = some (ptL x) := List.map_inj_left.1 keyOf_pt_all x hx
set_option maxRecDepth 100000 in
theorem ptC_inj {x y : Nat × Nat} (h : (Value.agg (ptC x)) = .agg (ptC y)) : x = y := by
  obtain ⟨a, b⟩ := x
  obtain ⟨c, d⟩ := y
  unfold ptC at h
  simp only [Value.agg.injEq, Array.mk.injEq, List.cons.injEq, Value.int.injEq, true_and, and_true] at h
  rw [Prod.mk.injEq]
  omega
set_option maxRecDepth 100000 in
theorem ptL_inj {x y : Nat × Nat} (hx : x ∈ ptsAll) (hy : y ∈ ptsAll) (h : ptL x = ptL y) : x = y :=
  ptC_inj (point_keyed.inj (keyOf_pt hx) (h ▸ keyOf_pt hy))
set_option maxRecDepth 100000 in
theorem ptL_key {x : Nat × Nat} (hx : x ∈ ptsAll) : WideAt.IsKeyLit (ptL x) := point_keyed.key (keyOf_pt hx)

/-- what a map says of the points of a list: how often each is in it -/
def Counts (D : DataW Unit) (M : List (Nat × Nat)) : Prop :=
  (∀ x ∈ ptsAll, D.atKey (ptL x) (.lit (.int .i64 0)) = .lit (.int .i64 (M.count x : Nat))) ∧ ∀ kl, Maps.has D kl = true ↔ ∃ x ∈ M, kl = ptL x
def CntMap (w : World) (b : Nat) (M : List (Nat × Nat)) : Prop :=
  (∀ x ∈ M, x ∈ ptsAll) ∧ ∃ D, w.ownsMap (H := Unit) Try.prog 141 (plainElem Try.prog 3) b M.length D ∧ Counts D M

theorem counts_nil : Counts (.map []) [] := ⟨fun x _ => by simp [DataW.atKey], fun kl => by simp [Maps.has]⟩
set_option maxRecDepth 100000 in
theorem CntMap.made (w : World) : CntMap (w.alloc (.map #[] 0)) w.heap.size [] :=
  ⟨fun _ h => (by cases h), _, World.ownsMap_made w _ _ _, counts_nil⟩
set_option maxRecDepth 100000 in
theorem CntMap.kept {w w' : World} {b : Nat} {M : List (Nat × Nat)} {row : Option Nat} (h : CntMap w b M) (hg : w.grownBy w' row) (hne : some b ≠ row) : CntMap w' b M := by
  obtain ⟨h1, D, h2, h3⟩ := h
  exact ⟨h1, D, h2.kept hg hne, h3⟩
set_option maxRecDepth 100000 in
theorem CntMap.below {w w' : World} {b : Nat} {M : List (Nat × Nat)} (h : CntMap w b M) (hb : Below w.heap.size w w') : CntMap w' b M :=
  h.kept (grownBy_of_below hb none) (by simp)
set_option maxRecDepth 100000 in
theorem CntMap.lt {w : World} {b : Nat} {M : List (Nat × Nat)} (h : CntMap w b M) : b < w.heap.size := by
  obtain ⟨_, D, h2, _⟩ := h
  exact h2.lt

set_option maxRecDepth 100000 in
theorem zero_int (w : World) : (zeroValue 3).run Try.prog w = .ok (.int .i64 0) w := by kernel_rfl

set_option maxRecDepth 100000 in
theorem Counts.put {D : DataW Unit} {M : List (Nat × Nat)} (h : Counts D M) (hm : Maps.IsMap D) {x : Nat × Nat} (hx : x ∈ ptsAll) : Counts (D.put (ptL x) (.lit (.int .i64 ((M.count x + 1 : Nat) : Int)))) (M ++ [x]) := by
  refine ⟨fun y hy => ?_, fun kl => ?_⟩
  · by_cases he : y = x
    · subst he
      rw [Maps.atKey_put_same hm (ptL_key hx), List.count_append]
      simp
    · rw [Maps.atKey_put_other (fun e => he (ptL_inj hy hx e)), h.1 y hy, List.count_append]
      have : ¬ x = y := fun e => he e.symm
      simp [this]
  · by_cases he : kl = ptL x
    · subst he
      rw [Maps.has_put_same hm (ptL_key hx)]
      simp only [true_iff]
      exact ⟨x, by simp, rfl⟩
    · rw [Maps.has_put_other he, h.2 kl]
      constructor
      · rintro ⟨y, hy, rfl⟩; exact ⟨y, List.mem_append_left _ hy, rfl⟩
      · rintro ⟨y, hy, rfl⟩
        rw [List.mem_append, List.mem_singleton] at hy
        rcases hy with hy | rfl
        · exact ⟨y, hy, rfl⟩
        · exact absurd rfl he

/-- the points that a map's loop has met -/
def doneC (q : Nat × Nat → Bool) (M : List (Nat × Nat)) (left : Lit → Bool) : Nat := ptsAll.countP fun x => (decide (0 < M.count x) && q x) && !left (ptL x)

set_option maxRecDepth 100000 in
theorem doneC_start {q : Nat × Nat → Bool} {D : DataW Unit} {M : List (Nat × Nat)} (h : Counts D M) : doneC q M (Maps.has D) = 0 := by
  unfold doneC
  rw [List.countP_eq_zero]
  intro x _ hc
  simp only [Bool.and_eq_true, decide_eq_true_eq, Bool.not_eq_true'] at hc
  obtain ⟨⟨h0, _⟩, h1⟩ := hc
  have := (h.2 (ptL x)).2 ⟨x, List.count_pos_iff.1 h0, rfl⟩
  rw [h1] at this; cases this
set_option maxRecDepth 100000 in
theorem doneC_end {q : Nat × Nat → Bool} {M : List (Nat × Nat)} {left : Lit → Bool} (h : ∀ kl, left kl = false) : doneC q M left = ptsAll.countP fun x => decide (0 < M.count x) && q x := by
  unfold doneC
  refine List.countP_congr fun x _ => ?_
  rw [h]; simp
theorem countP_one {α : Type} [BEq α] [LawfulBEq α] (f g : α → Bool) (x : α) (hg : g x = true) (hf : f x = false) (ho : ∀ y, y ≠ x → g y = f y) : ∀ l : List α, l.countP g = l.countP f + l.count x
  | [] => rfl
  | y :: l => by
    rw [List.countP_cons, List.countP_cons, List.count_cons, countP_one f g x hg hf ho l]
    by_cases he : y = x
    · subst he; rw [if_pos hg, if_neg (by rw [hf]; decide), if_pos (by simp)]; omega
    · rw [ho y he, if_neg (show ¬ (y == x) = true by simpa using he)]; omega
set_option maxRecDepth 100000 in
/-- the loop meets one more point -/
theorem doneC_step {q : Nat × Nat → Bool} {M : List (Nat × Nat)} {left : Lit → Bool} {x : Nat × Nat} (hx : x ∈ ptsAll) (hM : 0 < M.count x) (hl : left (ptL x) = true) :
    doneC q M (fun z => left z && !z.sameKey (ptL x)) = doneC q M left + (if q x = true then 1 else 0) := by
  unfold doneC
  have hother : ∀ y, y ∈ ptsAll → y ≠ x → (ptL y).sameKey (ptL x) = false := fun y hy hne => by
    cases hs : (ptL y).sameKey (ptL x)
    · rfl
    · exact absurd (ptL_inj hy hx (WideAt.sameKey_eq hs)) hne
  by_cases hq : q x = true
  · rw [if_pos hq]
    have h1 : ptsAll.count x = 1 := by obtain ⟨i, k⟩ := x; have := mem_ptsAll.1 hx; exact ptsAll_one this.1 this.2
    have e := countP_one (fun y => (decide (0 < M.count y) && q y) && !left (ptL y)) (fun y => if y = x then true else ((decide (0 < M.count y) && q y) && !left (ptL y))) x (by simp) (by rw [hl]; simp) (fun y hy => by simp [hy]) ptsAll
    rw [h1] at e
    rw [← e]
    refine List.countP_congr fun y hy => ?_
    by_cases he : y = x
    · subst he
      rw [if_pos rfl, decide_eq_true hM, hq]; dsimp only; rw [WideAt.sameKey_self (ptL_key hx)]; simp
    · rw [if_neg he]; dsimp only; rw [hother y hy he]; simp
  · rw [if_neg hq, Nat.add_zero]
    refine List.countP_congr fun y hy => ?_
    by_cases he : y = x
    · subst he
      have hq' : q y = false := by simpa using hq
      rw [hq']; simp
    · dsimp only; rw [hother y hy he]; simp

end Go.Proofs.Ytjdlapcikpmdgaa

/-
  The points that a wall goes through, and those where it ends: the program's answers. (Walks.)
-/
namespace Go.Proofs.Ytjdlapcikpmdgaa
open Go.RowKit

/-- a slice made with no elements -/
theorem wpList_makeK {P : Program} (w : World) {ops : Array Oper} {rest : List Oper} {o : Oper} {a : Act} {Q : Exit → Act → World → Prop} (hgd : o.guard = none) (t : TypeId) (x y : Operand)
    (ho : o.op = .makeSlice t x y) (base : Nat) (e : TypeId) (i : TypeInfo) (z : Value) (size : Nat) (ht : P.underlying t = some (.slice e)) (hi : P.info? e = some i) (hz : i.zero = some z) (hsize : i.size = size)
    (c : Nat) (hx : a.eval x = .int .i64 0) (hy : a.eval y = .int .i64 (c : Int)) (hbytes : i.bytes * c ≤ 281474976710656) (h63 : c ≤ maxLen) (hbase : base ≤ w.heap.size)
    (h : ∀ w', w'.ownsRow base e size (.slice (some ⟨w.heap.size, 0, none⟩) 0 c) 0 [] → w.grownBy w' none → w'.heap.size = w.heap.size + 1 → wpList P ops Q rest (a.put o.dst (.slice (some ⟨w.heap.size, 0, none⟩) 0 c)) w') : wpList P ops Q (o :: rest) a w := by
  refine wpList_plain hgd fun K hK' => ?_
  have h63' : (c : Int) ≤ 9223372036854775807 := by
    have h := h63
    simp [maxLen] at h
    omega
  have hb' : (i.bytes : Int) * (c : Int) ≤ 281474976710656 := by
    have h : ((i.bytes * c : Nat) : Int) ≤ 281474976710656 := by omega
    rwa [Int.natCast_mul] at h
  have hr := run_make (P := P) w t e i z ht hi hz .i64 .i64 0 c (Int.le_refl _) (by omega) hb' h63'
  simp only [Int.toNat_zero, Int.toNat_natCast] at hr
  subst hsize
  unfold Oper.wp
  simp [execOp, ho, hx, hy, hr, Result.andThen]
  exact hK' _ _ (h _ (World.ownsRow_made w _ c hbase h63 (size_madeCells _ _)) (World.grownBy_alloc w _ none) (by simp))

theorem Try.infoPt : (Try.prog.info? 141).map (fun i => (i.zero, i.size, i.bytes)) = some (some (.agg (ptC (0, 0))), 2, 16) := by kernel_rfl
/-- points as cells -/
def ptsC (L : List (Nat × Nat)) : List Value := L.flatMap fun x => (ptC x).toList
theorem ptsC_snoc (L : List (Nat × Nat)) (x : Nat × Nat) : ptsC (L ++ [x]) = ptsC L ++ (ptC x).toList := by unfold ptsC; rw [List.flatMap_append, List.flatMap_singleton]
theorem ptC_ones {x : Nat × Nat} : ∀ v ∈ (ptC x).toList, v.oneCell' = true := by
  intro v hv
  unfold ptC at hv
  simp only [List.mem_cons, List.not_mem_nil, or_false] at hv
  rcases hv with rfl | rfl <;> rfl
theorem ptC_list (x : Nat × Nat) : (ptC x).toList.length = 2 := rfl
theorem build_pt (x : Nat × Nat) (w : World) : (Instr.buildSlice 139 1 #[(0, .agg (ptC x))]).run Try.prog w = .ok (.slice (some ⟨w.heap.size, 0, none⟩) 1 1) (w.alloc (.cells (ptC x) 141)) := by kernel_rfl

/-- the first points that a wall goes through -/
def innT (X : Wl) (t : Nat) : List (Nat × Nat) := (List.range t).map fun s => ptAt X (X.first + 1 + s)
theorem innT_len (X : Wl) (t : Nat) : (innT X t).length = t := by unfold innT; simp
theorem innT_all (X : Wl) : innT X (X.long - 1) = innW X := by
  unfold innT innW innR
  rw [List.map_map]
  rfl
theorem innT_succ (X : Wl) (t : Nat) : innT X (t + 1) = innT X t ++ [ptAt X (X.first + 1 + t)] := by
  unfold innT; rw [List.range_succ, List.map_append]; rfl

/-- a slice of two points -/
theorem build_pt2 (x y : Nat × Nat) (w : World) : (Instr.buildSlice 139 2 #[(0, .agg (ptC x)), (1, .agg (ptC y))]).run Try.prog w = .ok (.slice (some ⟨w.heap.size, 0, none⟩) 2 2) (w.alloc (.cells (ptC x ++ ptC y) 141)) := by kernel_rfl
theorem owns_two {w : World} {base : Nat} (x y : Nat × Nat) (hb : base ≤ w.heap.size) : (w.alloc (.cells (ptC x ++ ptC y) 141)).ownsRow base 141 2 (.slice (some ⟨w.heap.size, 0, none⟩) 2 2) 2 (ptsC [x, y]) :=
  ⟨rfl, .inr ⟨w.heap.size, 2, ptC x ++ ptC y, rfl, hb, HeldB.new _ _ _, Nat.le_refl _, by unfold maxLen; omega, rfl, rfl⟩⟩
theorem yieldsIf_load_cell {P : Program} {ops : Array Oper} {S : World → Prop} {op : Oper} {a : Act} (hw : Region.wanted op (yielded ops a.tmps) = true) (ty : TypeId) (x : Operand) (ho : op.op = .load ty x) (v : Value)
    (hr : ∀ w, S w → (Instr.loadAt ty (a.eval x)).run P w = .ok v w) : YieldsIf P ops S op v a :=
  .inl ⟨hw, fun w hw' => by
    unfold execOp
    simp only [ho, Sem.run_bind, Sem.run_pure, Result.andThen_ok, hr w hw']⟩

end Go.Proofs.Ytjdlapcikpmdgaa

/-
  How many walls have each point: a map is filled. (Walks.)
-/
namespace Go.Proofs.Ytjdlapcikpmdgaa
open Go.RowKit

theorem Try.sizePt : (Try.prog.info? 141).map (·.size) = some 2 := by kernel_rfl
theorem ptsC_at (L : List (Nat × Nat)) (i j : Nat) (hi : i < L.length) (hj : j < 2) : (ptsC L)[i * 2 + j]? = (ptC (L.getD i (0, 0))).toList[j]? := by
  unfold ptsC
  induction L generalizing i with
  | nil => simp at hi
  | cons x L ih =>
    rw [List.flatMap_cons]
    cases i with
    | zero => rw [Nat.zero_mul, Nat.zero_add, List.getElem?_append_left (by rw [ptC_list]; exact hj)]; rfl
    | succ i =>
      rw [List.getElem?_append_right (by rw [ptC_list]; omega), ptC_list, show (i + 1) * 2 + j - 2 = i * 2 + j from by omega, ih i (by simpa using hi)]
      rfl
theorem pts_range {w : World} {ao : Option Addr} {L : List (Nat × Nat)} (h : CellsAt w ao (ptsC L)) {i : Nat} (hi : i < L.length) : ∃ b off, ao = some ⟨b, off, none⟩ ∧ w.rangeAt b (off + i * 2) (ptC (L.getD i (0, 0))).toList := by
  obtain ⟨b, off, rfl, _⟩ := h (i * 2 + 0) _ ((ptsC_at L i 0 hi (by omega)).trans rfl)
  refine ⟨b, off, rfl, fun j v hv => ?_⟩
  have hj : j < 2 := by
    have := (List.getElem?_eq_some_iff.1 hv).1
    simpa [ptC] using this
  obtain ⟨b', off', he, hc⟩ := h (i * 2 + j) v (by rw [ptsC_at L i j hi hj, ← hv])
  simp only [Option.some.injEq, Addr.mk.injEq, and_true] at he
  obtain ⟨rfl, rfl⟩ := he
  rw [show off + i * 2 + j = off + (i * 2 + j) from by omega]
  exact hc
theorem wpList_load_pt {P : Program} {ops : Array Oper} {rest : List Oper} {op : Oper} {a : Act} {w : World} {Q : Exit → Act → World → Prop} (hgd : op.guard = none) (ty : TypeId) (x : Operand) (ho : op.op = .load ty x)
    (b o : Nat) (hx : a.eval x = .pointer (some ⟨b, o, none⟩)) (X : Nat × Nat) (d : TypeDesc) (hc : w.rangeAt b o (ptC X).toList)
    (hu : P.underlying ty = some d) (hd : d.isRow = true) (hi : (P.info? ty).map (·.size) = some 2)
    (h : wpList P ops Q rest (a.put op.dst (.agg (ptC X))) w) : wpList P ops Q (op :: rest) a w :=
  wpList_load_mid hgd ty x ho b o hx (ptC X).toList d hc hu hd hi (by simpa using h)
theorem zero_pt : (#[.int .i64 0, .int .i64 0] : Array Value) = ptC (0, 0) := rfl

theorem setBlock_twice (w : World) (b : Nat) (o o' : Obj) : ChangeMaps.setBlock (ChangeMaps.setBlock w b o) b o' = ChangeMaps.setBlock w b o' := by
  unfold ChangeMaps.setBlock
  simp [Array.setIfInBounds_setIfInBounds]
theorem int_wf {n : Nat} (h : n < 200000) : (Lit.int .i64 (n : Int)).wf = true := by
  show (decide (IntKind.i64.min ≤ (n : Int)) && decide ((n : Int) ≤ IntKind.i64.max)) = true
  have h1 : IntKind.i64.min = -9223372036854775808 := by decide +kernel
  have h2 : IntKind.i64.max = 9223372036854775807 := by decide +kernel
  rw [h1, h2, decide_eq_true (by omega), decide_eq_true (by omega)]
  rfl

theorem flatG_len {G : Wl → List (Nat × Nat)} : ∀ (L : List Wl) (n : Nat), L.length ≤ n → (∀ X ∈ L, (G X).length ≤ 6) → (L.flatMap G).length ≤ n * 6
  | [], _, _, _ => Nat.zero_le _
  | X :: L, n, h, h6 => by
    rw [List.length_cons] at h
    have := flatG_len L (n - 1) (by omega) (fun Y hY => h6 Y (List.mem_cons_of_mem _ hY))
    have := h6 X (List.mem_cons_self ..)
    rw [List.flatMap_cons, List.length_append]
    omega
theorem inner_six (X : Wl) (_a1 : 1 ≤ X.long) (a2 : X.first + X.long ≤ 6) : (innW X).length ≤ 6 := by unfold innW innR; simp; omega
theorem ends_six (X : Wl) (_a1 : 1 ≤ X.long) (_a2 : X.first + X.long ≤ 6) : (endW X).length ≤ 6 := by unfold endW endR; simp
theorem inner_len (L : List Wl) (n : Nat) (h : L.length ≤ n) (hX : ∀ X ∈ L, 1 ≤ X.long ∧ X.first + X.long ≤ 6 ∧ X.line ≤ 6) : (L.flatMap innW).length ≤ n * 6 := flatG_len L n h (fun X hx => inner_six X (hX X hx).1 (hX X hx).2.1)
theorem ends_len (L : List Wl) (n : Nat) (h : L.length ≤ n) (hX : ∀ X ∈ L, 1 ≤ X.long ∧ X.first + X.long ≤ 6 ∧ X.line ≤ 6) : (L.flatMap endW).length ≤ n * 6 := flatG_len L n h (fun X hx => ends_six X (hX X hx).1 (hX X hx).2.1)
theorem mkP_in {w k i : Nat} (hk : k ≤ 6) (hi : i ≤ 6) : mkP w k i ∈ ptsAll := by
  unfold mkP
  split
  · exact mem_ptsAll.2 ⟨hi, hk⟩
  · exact mem_ptsAll.2 ⟨hk, hi⟩
theorem inner_in (X : Wl) (_a1 : 1 ≤ X.long) (a2 : X.first + X.long ≤ 6) (a3 : X.line ≤ 6) : ∀ x ∈ innW X, x ∈ ptsAll := by
  intro x hx
  unfold innW innR at hx
  rw [List.map_map, List.mem_map] at hx
  obtain ⟨t, ht, rfl⟩ := hx
  rw [List.mem_range] at ht
  have ht2 : t < X.long - 1 := ht
  exact mkP_in a3 (show X.first + 1 + t ≤ 6 by omega)
theorem ends_in (X : Wl) (_a1 : 1 ≤ X.long) (a2 : X.first + X.long ≤ 6) (a3 : X.line ≤ 6) : ∀ x ∈ endW X, x ∈ ptsAll := by
  intro x hx
  unfold endW endR at hx
  simp only [List.map_cons, List.map_nil, List.mem_cons, List.not_mem_nil, or_false] at hx
  rcases hx with rfl | rfl
  · exact mkP_in a3 (by omega)
  · exact mkP_in a3 a2

end Go.Proofs.Ytjdlapcikpmdgaa

/-
  Crosses, tees and ends of a plan: what the program counts is what the model counts. (Mathematics.)
-/
namespace Go.Proofs.Ytjdlapcikpmdgaa
open Go.RowKit

theorem PlanP.rectG {p : List ByteArray} (hp : PlanP p) : RectG p.length (wideB p) (gridG p) := hp.rect.of_same (fun i j i' j' a b c d => by rw [hp.mark i j a b, hp.mark i' j' c d])

theorem newN_meet {p : List ByteArray} (hp : PlanP p) {i k : Nat} (hi1 : 1 ≤ i) (hi : i < p.length) (hk1 : 1 ≤ k) (hk : k < wideB p) : newN (cornL p i k) 4 = meetG (gridG p) i k := by
  have d1 := hp.differ (i := i - 1) (j := k) (i' := i - 1) (j' := k - 1) (by omega) hk (by omega) (by omega)
  have d2 := hp.differ (i := i) (j := k - 1) (i' := i - 1) (j' := k - 1) hi (by omega) (by omega) (by omega)
  have d3 := hp.differ (i := i) (j := k - 1) (i' := i - 1) (j' := k) hi (by omega) (by omega) hk
  have d4 := hp.differ (i := i) (j := k) (i' := i - 1) (j' := k - 1) hi hk (by omega) (by omega)
  have d5 := hp.differ (i := i) (j := k) (i' := i - 1) (j' := k) hi hk (by omega) hk
  have d6 := hp.differ (i := i) (j := k) (i' := i) (j' := k - 1) hi hk hi (by omega)
  unfold meetG
  rw [show newN (cornL p i k) 4 = newN (cornL p i k) (0 + 1 + 1 + 1 + 1) from rfl, newN_succ, newN_succ, newN_succ, newN_succ, newN_zero]
  rw [show newL (cornL p i k) 0 0 = true from rfl]
  rw [show newL (cornL p i k) (0 + 1) (0 + 1) = (true && decide (byteAt p (i - 1) k ≠ byteAt p (i - 1) (k - 1))) from newL_succ ..]
  rw [show newL (cornL p i k) (0 + 1 + 1) (0 + 1 + 1) = ((true && decide (byteAt p i (k - 1) ≠ byteAt p (i - 1) (k - 1))) && decide (byteAt p i (k - 1) ≠ byteAt p (i - 1) k)) by rw [newL_succ, newL_succ]; rfl]
  rw [show newL (cornL p i k) (0 + 1 + 1 + 1) (0 + 1 + 1 + 1) = (((true && decide (byteAt p i k ≠ byteAt p (i - 1) (k - 1))) && decide (byteAt p i k ≠ byteAt p (i - 1) k)) && decide (byteAt p i k ≠ byteAt p i (k - 1))) by rw [newL_succ, newL_succ, newL_succ]; rfl]
  have e1 : decide (byteAt p (i - 1) k ≠ byteAt p (i - 1) (k - 1)) = decide (gridG p (i - 1) k ≠ gridG p (i - 1) (k - 1)) := decide_eq_decide.2 d1
  have e2 : decide (byteAt p i (k - 1) ≠ byteAt p (i - 1) (k - 1)) = decide (gridG p i (k - 1) ≠ gridG p (i - 1) (k - 1)) := decide_eq_decide.2 d2
  have e3 : decide (byteAt p i (k - 1) ≠ byteAt p (i - 1) k) = decide (gridG p i (k - 1) ≠ gridG p (i - 1) k) := decide_eq_decide.2 d3
  have e4 : decide (byteAt p i k ≠ byteAt p (i - 1) (k - 1)) = decide (gridG p i k ≠ gridG p (i - 1) (k - 1)) := decide_eq_decide.2 d4
  have e5 : decide (byteAt p i k ≠ byteAt p (i - 1) k) = decide (gridG p i k ≠ gridG p (i - 1) k) := decide_eq_decide.2 d5
  have e6 : decide (byteAt p i k ≠ byteAt p i (k - 1)) = decide (gridG p i k ≠ gridG p i (k - 1)) := decide_eq_decide.2 d6
  rw [e1, e2, e3, e4, e5, e6]
  unfold b2n
  simp only [Bool.true_and, Bool.and_assoc, if_true, Nat.zero_add]

theorem pts_grid {p : List ByteArray} (hp : PlanP p) (m : Nat) : ptsN p m p.length = ptsG p.length (wideB p) (gridG p) m := by
  unfold ptsN ptsG rowPts
  congr 1
  refine List.map_congr_left fun i hi => ?_
  refine List.countP_congr fun k hk => ?_
  rw [List.mem_range] at hi hk
  unfold metB metG
  by_cases h1 : 1 ≤ i
  · by_cases h2 : 1 ≤ k
    · rw [newN_meet hp h1 hi h2 hk]
    · rw [decide_eq_false h2]; simp
  · rw [decide_eq_false h1]; simp

theorem endOne_wl (m : Nat) (X : Wl) : endOne m (wlL X) = endTwo m X := by
  unfold endOne endTwo wlL
  simp only [List.getD_cons_zero, List.getD_cons_succ]
  congr 1
  · by_cases h : X.first = 0
    · rw [if_pos h, if_pos (by omega)]
    · rw [if_neg h, if_neg (by omega)]
  · by_cases h : X.first + X.long = m
    · rw [if_pos h, if_pos (by omega)]
    · rw [if_neg h, if_neg (by omega)]

/-- what the program counts -/
def innP (p : List ByteArray) : List (Nat × Nat) := (wallsP p).flatMap innW
def endP (p : List ByteArray) : List (Nat × Nat) := (wallsP p).flatMap endW
def crossC (p : List ByteArray) : Nat := ptsAll.countP fun x => decide ((innP p).count x = 2)
def teeC (p : List ByteArray) : Nat := ptsAll.countP fun x => decide (0 < (endP p).count x) && !outB (planH p) (planW p) x
def endC (p : List ByteArray) : Nat := ptsAll.countP fun x => decide (0 < (endP p).count x) && outB (planH p) (planW p) x

theorem crossC_meet (p : List ByteArray) : crossC p = meetN p 4 := by
  unfold crossC innP meetN
  cases hp : planB p
  · rw [wallsP_no hp, if_neg (by decide), List.countP_eq_zero]
    intro x _
    simp
  · have h := planP_of hp
    rw [wallsP_yes hp, if_pos rfl, cross_pts h.rectG h.grid.h6 h.grid.w6, pts_grid h]
theorem teeC_meet (p : List ByteArray) : teeC p = meetN p 3 := by
  unfold teeC endP meetN
  cases hp : planB p
  · rw [wallsP_no hp, if_neg (by decide), List.countP_eq_zero]
    intro x _
    simp
  · have h := planP_of hp
    unfold planH planW
    rw [wallsP_yes hp, if_pos rfl, if_pos hp, if_pos hp, tee_pts h.rectG h.grid.h6 h.grid.w6, pts_grid h]
theorem endC_out (p : List ByteArray) : endC p = outN p := by
  unfold endC endP outN
  cases hp : planB p
  · rw [wallsP_no hp, if_neg (by decide), List.countP_eq_zero]
    intro x _
    simp
  · have h := planP_of hp
    unfold planH planW
    rw [wallsP_yes hp, if_pos rfl, if_pos hp, if_pos hp, out_pts _ _ _ h.grid.h6 h.grid.w6, out_ends, upL_grid hp, upL_trans hp]
    unfold endsL
    rw [List.map_map, List.map_map]
    congr 1
    · congr 1; exact List.map_congr_left fun X _ => (endOne_wl _ X).symm
    · congr 1; exact List.map_congr_left fun X _ => (endOne_wl _ X).symm
theorem crossC_le (p : List ByteArray) : crossC p ≤ 49 := Nat.le_trans List.countP_le_length (by decide +kernel)

end Go.Proofs.Ytjdlapcikpmdgaa

/-
  Crosses, tees and ends: the program's answers. (Walks.)
-/
namespace Go.Proofs.Ytjdlapcikpmdgaa
open Go.RowKit

theorem gb_setCell (w : World) (b k : Nat) (v : Value) : w.grownBy (w.setCell ⟨b, k, none⟩ v) (some b) :=
  ⟨rfl, rfl, rfl, by simp, fun i _ hi => Below.heap_setCell w ⟨b, k, none⟩ v i (fun e => hi (by rw [e]))⟩

/-- the cells of meetings -/
def mtC (a b c : Nat) : Array Value := #[.int .i64 (a : Nat), .int .i64 (b : Nat), .int .i64 (c : Nat)]
theorem mtC_one (a b c : Nat) : (mtC a b c).all (·.oneCell') = true := by
  rw [Array.all_eq_true_iff_forall_mem]
  intro v hv
  unfold mtC at hv
  simp only [List.mem_toArray, List.mem_cons, List.not_mem_nil, or_false] at hv
  rcases hv with rfl | rfl | rfl <;> rfl
theorem zero_mt : (#[.int .i64 0, .int .i64 0, .int .i64 0] : Array Value) = mtC 0 0 0 := rfl

/-- a loop's step over a map that counts -/
theorem wpList_next_pt (w : World) {ops : Array Oper} {rest : List Oper} {o : Oper} {a : Act} {Q : Exit → Act → World → Prop} (hg : o.guard = none) (it : Operand) (hop : o.op = Op.next it false)
    (b r n : Nat) (D : DataW Unit) (left : Lit → Bool) (cnt : Nat) (M : List (Nat × Nat)) (q : Nat × Nat → Bool) (hin : ∀ x ∈ M, x ∈ ptsAll) (hcnt : Counts D M) (hleft : ∀ kl, left kl = true → Maps.has D kl = true)
    (hit : a.eval it = .pointer (some ⟨r, 0, none⟩)) (h : w.ranges Try.prog 141 (plainElem Try.prog 3) b r n D left cnt)
    (hDone : (∀ kl, left kl = false) → wpList Try.prog ops Q rest (a.put o.dst (.tuple #[.bool false])) w)
    (hYes : ∀ (x : Nat × Nat) (w' : World) (cnt' : Nat), x ∈ M → left (ptL x) = true → q x = true → w'.ranges Try.prog 141 (plainElem Try.prog 3) b r n D (fun z => left z && !z.sameKey (ptL x)) cnt' → cnt' < cnt →
      w.grownBy w' (some r) → (Instr.entry (.pointer (some ⟨r, 0, none⟩))).run Try.prog w' = .ok (.tuple #[.agg (ptC x), .int .i64 (M.count x : Nat)]) w' → wpList Try.prog ops Q rest (a.put o.dst (.tuple #[.bool true, .agg (ptC x), .int .i64 (M.count x : Nat)])) w')
    (hNo : ∀ (x : Nat × Nat) (w' : World) (cnt' : Nat), x ∈ M → left (ptL x) = true → q x = false → w'.ranges Try.prog 141 (plainElem Try.prog 3) b r n D (fun z => left z && !z.sameKey (ptL x)) cnt' → cnt' < cnt →
      w.grownBy w' (some r) → (Instr.entry (.pointer (some ⟨r, 0, none⟩))).run Try.prog w' = .ok (.tuple #[.agg (ptC x), .int .i64 (M.count x : Nat)]) w' → wpList Try.prog ops Q rest (a.put o.dst (.tuple #[.bool true, .agg (ptC x), .int .i64 (M.count x : Nat)])) w') :
    wpList Try.prog ops Q (o :: rest) a w := by
  refine wpList_plain hg fun K' hK' => ?_
  unfold Oper.wp
  rcases h.next point_keyed o.type with ⟨_, hl, hrun⟩ | ⟨key, v, kl, y, w', cnt', hkey, hlk, hv, hat, hrun, hrg, hlt, hgr, _, hen⟩
  · simp [execOp, hop, hit, hrun, Result.andThen]
    exact hK' _ _ (hDone hl)
  · obtain ⟨x, hx, rfl⟩ := (hcnt.2 kl).1 (hleft kl hlk)
    obtain rfl := point_keyed.inj hkey (keyOf_pt (hin x hx))
    obtain ⟨c, rfl, rfl, _⟩ := plainElem_int_inv Try.underlying3 hv
    have hc : c = (M.count x : Nat) := by
      have := hcnt.1 x (hin x hx)
      rw [hat] at this
      simpa using this
    subst hc
    simp [execOp, hop, hit, hrun, Result.andThen]
    cases hq : q x
    · exact hK' _ _ (hNo x w' cnt' hx hlk hq hrg hlt hgr hen)
    · exact hK' _ _ (hYes x w' cnt' hx hlk hq hrg hlt hgr hen)

def crossG (h wd : Nat) (g : Nat → Nat → Nat) : Nat := ptsAll.countP fun x => decide (((wallsG h wd g).flatMap innW).count x = 2)
def teeG (h wd : Nat) (g : Nat → Nat → Nat) : Nat := ptsAll.countP fun x => decide (0 < ((wallsG h wd g).flatMap endW).count x) && !outB h wd x
def endG (h wd : Nat) (g : Nat → Nat → Nat) : Nat := ptsAll.countP fun x => decide (0 < ((wallsG h wd g).flatMap endW).count x) && outB h wd x
theorem cross_done (h wd : Nat) (g : Nat → Nat → Nat) : (ptsAll.countP fun x => decide (0 < ((wallsG h wd g).flatMap innW).count x) && decide (((wallsG h wd g).flatMap innW).count x = 2)) = crossG h wd g := by
  unfold crossG
  refine List.countP_congr fun x _ => ?_
  by_cases h2 : ((wallsG h wd g).flatMap innW).count x = 2
  · rw [h2]; simp
  · rw [decide_eq_false h2]; simp
theorem wallsG_fit {h wd : Nat} {g : Nat → Nat → Nat} (hh : h ≤ 6) (hw : wd ≤ 6) : ∀ X ∈ wallsG h wd g, 1 ≤ X.long ∧ X.first + X.long ≤ 6 ∧ X.line ≤ 6 := fun X hX => by
  obtain ⟨_, _, c, d, e, _⟩ := wallsG_mem hX
  unfold acrossN at c
  unfold alongN at e
  refine ⟨d, ?_, ?_⟩
  · split at e <;> omega
  · split at c <;> omega

theorem meet_cross (p : List ByteArray) : crossG (planH p) (planW p) (planG p) = meetN p 4 := crossC_meet p
theorem meet_tee (p : List ByteArray) : teeG (planH p) (planW p) (planG p) = meetN p 3 := teeC_meet p
theorem meet_end (p : List ByteArray) : endG (planH p) (planW p) (planG p) = outN p := endC_out p

end Go.Proofs.Ytjdlapcikpmdgaa
