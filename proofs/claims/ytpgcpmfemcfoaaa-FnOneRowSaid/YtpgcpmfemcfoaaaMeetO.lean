/-
  Merged texts: Cnt Inner Gather PtsN MeetI.
-/
import Derived.Test.YtpgcpmfemcfoaaaPtsO
import Derived.Test.YtpgcpmfemcfoaaaCutO
import Derived.Test.YtpgcpmfemcfoaaaPointO
import Derived.Test.YtpgcpmfemcfoaaaOutlO
import Derived.Test.YtpgcpmfemcfoaaaTightMO
import Derived.Maps.RangeWalk
import Derived.Maps.OwnOps
import Derived.Maps.Views
import Derived.DeepKeys4
import Derived.WideKeyEntry
import Derived.Laws.MakeOwn
import Derived.Deep.MidRow
import Derived.OrdersHeld

/-
  A map that counts points. (No function of the program is named.)
-/
namespace Go.Proofs.Ytpgcpmfemcfoaaa
open Go.RowKit
open Go.Maps (Keyed)
open Go.WideElems (Fit rd rg pl)

set_option maxRecDepth 100000 in
theorem point_law : WideMaps.KeyLaw Try.prog 147 := deep_law_laid (m := 3) (by kernel_rfl) (by decide) (of_decide_eq_true (by kernel_rfl)) (by kernel_rfl) (by kernel_rfl)
set_option maxRecDepth 100000 in
theorem point_keyed : Keyed Try.prog 147 := Keyed.of_law point_law

/-- the key of a point -/
def ptL (x : Nat × Nat) : Lit := .string (keyBytes [.int .i64 (x.1 : Nat), .int .i64 (x.2 : Nat)])
set_option maxRecDepth 100000 in
theorem keyOf_pt_all : (ptsAll.map fun x => keyOf Try.prog 147 (.agg (ptC x))) = ptsAll.map fun x => some (ptL x) := by kernel_rfl
set_option maxRecDepth 100000 in
theorem keyOf_pt {x : Nat × Nat} (hx : x ∈ ptsAll) : keyOf Try.prog 147 (.agg (ptC x)) = some (ptL x) := List.map_inj_left.1 keyOf_pt_all x hx
set_option maxRecDepth 100000 in
theorem ptC_inj {x y : Nat × Nat} (h : (Value.agg (ptC x)) = .agg (ptC y)) : x = y := by
  obtain ⟨a, b⟩ := x
  obtain ⟨c, d⟩ := y
  unfold ptC at h
  simp only [Value.agg.injEq, Array.mk.injEq, List.cons.injEq, Value.int.injEq, true_and, and_true] at h
  rw [Prod.mk.injEq]
  omega
set_option maxRecDepth 100000 in
theorem ptL_inj {x y : Nat × Nat} (hx : x ∈ ptsAll) (hy : y ∈ ptsAll) (h : ptL x = ptL y) : x = y :=
  ptC_inj (point_keyed.inj (keyOf_pt hx) (h ▸ keyOf_pt hy))
set_option maxRecDepth 100000 in
theorem ptL_key {x : Nat × Nat} (hx : x ∈ ptsAll) : WideAt.IsKeyLit (ptL x) := point_keyed.key (keyOf_pt hx)

/-- what a map says of the points of a list: how often each is in it -/
def Counts (D : DataW Unit) (M : List (Nat × Nat)) : Prop :=
  (∀ x ∈ ptsAll, D.atKey (ptL x) (.lit (.int .i64 0)) = .lit (.int .i64 (M.count x : Nat))) ∧ ∀ kl, Maps.has D kl = true ↔ ∃ x ∈ M, kl = ptL x
def CntMap (w : World) (b : Nat) (M : List (Nat × Nat)) : Prop :=
  (∀ x ∈ M, x ∈ ptsAll) ∧ ∃ D, w.ownsMap (H := Unit) Try.prog 147 (plainElem Try.prog 3) b M.length D ∧ Counts D M

theorem counts_nil : Counts (.map []) [] := ⟨fun x _ => by simp [DataW.atKey], fun kl => by simp [Maps.has]⟩
set_option maxRecDepth 100000 in
theorem CntMap.made (w : World) : CntMap (w.alloc (.map #[] 0)) w.heap.size [] :=
  ⟨fun _ h => (by cases h), _, World.ownsMap_made w _ _ _, counts_nil⟩
set_option maxRecDepth 100000 in
theorem CntMap.kept {w w' : World} {b : Nat} {M : List (Nat × Nat)} {row : Option Nat} (h : CntMap w b M) (hg : w.grownBy w' row) (hne : some b ≠ row) : CntMap w' b M := by
  obtain ⟨h1, D, h2, h3⟩ := h
  exact ⟨h1, D, h2.kept hg hne, h3⟩
set_option maxRecDepth 100000 in
theorem CntMap.below {w w' : World} {b : Nat} {M : List (Nat × Nat)} (h : CntMap w b M) (hb : Below w.heap.size w w') : CntMap w' b M :=
  h.kept (grownBy_of_below hb none) (by simp)
set_option maxRecDepth 100000 in
theorem CntMap.lt {w : World} {b : Nat} {M : List (Nat × Nat)} (h : CntMap w b M) : b < w.heap.size := by
  obtain ⟨_, D, h2, _⟩ := h
  exact h2.lt

set_option maxRecDepth 100000 in
theorem Try.mapPt : Try.prog.underlying 142 = some (.map 147 3) := by kernel_rfl
set_option maxRecDepth 100000 in
theorem zero_int (w : World) : (zeroValue 3).run Try.prog w = .ok (.int .i64 0) w := by kernel_rfl

set_option maxRecDepth 100000 in
theorem Counts.put {D : DataW Unit} {M : List (Nat × Nat)} (h : Counts D M) (hm : Maps.IsMap D) {x : Nat × Nat} (hx : x ∈ ptsAll) : Counts (D.put (ptL x) (.lit (.int .i64 ((M.count x + 1 : Nat) : Int)))) (M ++ [x]) := by
  refine ⟨fun y hy => ?_, fun kl => ?_⟩
  · by_cases he : y = x
    · subst he
      rw [Maps.atKey_put_same hm (ptL_key hx), List.count_append]
      simp
    · rw [Maps.atKey_put_other (fun e => he (ptL_inj hy hx e)), h.1 y hy, List.count_append]
      have : ¬ x = y := fun e => he e.symm
      simp [this]
  · by_cases he : kl = ptL x
    · subst he
      rw [Maps.has_put_same hm (ptL_key hx)]
      simp only [true_iff]
      exact ⟨x, by simp, rfl⟩
    · rw [Maps.has_put_other he, h.2 kl]
      constructor
      · rintro ⟨y, hy, rfl⟩; exact ⟨y, List.mem_append_left _ hy, rfl⟩
      · rintro ⟨y, hy, rfl⟩
        rw [List.mem_append, List.mem_singleton] at hy
        rcases hy with hy | rfl
        · exact ⟨y, hy, rfl⟩
        · exact absurd rfl he

/-- the points that a map's loop has met -/
def doneC (q : Nat × Nat → Bool) (M : List (Nat × Nat)) (left : Lit → Bool) : Nat := ptsAll.countP fun x => (decide (0 < M.count x) && q x) && !left (ptL x)

set_option maxRecDepth 100000 in
theorem doneC_start {q : Nat × Nat → Bool} {D : DataW Unit} {M : List (Nat × Nat)} (h : Counts D M) : doneC q M (Maps.has D) = 0 := by
  unfold doneC
  rw [List.countP_eq_zero]
  intro x _ hc
  simp only [Bool.and_eq_true, decide_eq_true_eq, Bool.not_eq_true'] at hc
  obtain ⟨⟨h0, _⟩, h1⟩ := hc
  have := (h.2 (ptL x)).2 ⟨x, List.count_pos_iff.1 h0, rfl⟩
  rw [h1] at this; cases this
set_option maxRecDepth 100000 in
theorem doneC_end {q : Nat × Nat → Bool} {M : List (Nat × Nat)} {left : Lit → Bool} (h : ∀ kl, left kl = false) : doneC q M left = ptsAll.countP fun x => decide (0 < M.count x) && q x := by
  unfold doneC
  refine List.countP_congr fun x _ => ?_
  rw [h]; simp
theorem countP_one {α : Type} [BEq α] [LawfulBEq α] (f g : α → Bool) (x : α) (hg : g x = true) (hf : f x = false) (ho : ∀ y, y ≠ x → g y = f y) : ∀ l : List α, l.countP g = l.countP f + l.count x
  | [] => rfl
  | y :: l => by
    rw [List.countP_cons, List.countP_cons, List.count_cons, countP_one f g x hg hf ho l]
    by_cases he : y = x
    · subst he; rw [if_pos hg, if_neg (by rw [hf]; decide), if_pos (by simp)]; omega
    · rw [ho y he, if_neg (show ¬ (y == x) = true by simpa using he)]; omega
set_option maxRecDepth 100000 in
/-- the loop meets one more point -/
theorem doneC_step {q : Nat × Nat → Bool} {M : List (Nat × Nat)} {left : Lit → Bool} {x : Nat × Nat} (hx : x ∈ ptsAll) (hM : 0 < M.count x) (hl : left (ptL x) = true) :
    doneC q M (fun z => left z && !z.sameKey (ptL x)) = doneC q M left + (if q x = true then 1 else 0) := by
  unfold doneC
  have hother : ∀ y, y ∈ ptsAll → y ≠ x → (ptL y).sameKey (ptL x) = false := fun y hy hne => by
    cases hs : (ptL y).sameKey (ptL x)
    · rfl
    · exact absurd (ptL_inj hy hx (WideAt.sameKey_eq hs)) hne
  by_cases hq : q x = true
  · rw [if_pos hq]
    have h1 : ptsAll.count x = 1 := by obtain ⟨i, k⟩ := x; have := mem_ptsAll.1 hx; exact ptsAll_one this.1 this.2
    have e := countP_one (fun y => (decide (0 < M.count y) && q y) && !left (ptL y)) (fun y => if y = x then true else ((decide (0 < M.count y) && q y) && !left (ptL y))) x (by simp) (by rw [hl]; simp) (fun y hy => by simp [hy]) ptsAll
    rw [h1] at e
    rw [← e]
    refine List.countP_congr fun y hy => ?_
    by_cases he : y = x
    · subst he
      rw [if_pos rfl, decide_eq_true hM, hq]; dsimp only; rw [WideAt.sameKey_self (ptL_key hx)]; simp
    · rw [if_neg he]; dsimp only; rw [hother y hy he]; simp
  · rw [if_neg hq, Nat.add_zero]
    refine List.countP_congr fun y hy => ?_
    by_cases he : y = x
    · subst he
      have hq' : q y = false := by simpa using hq
      rw [hq']; simp
    · dsimp only; rw [hother y hy he]; simp

end Go.Proofs.Ytpgcpmfemcfoaaa

/-
  The points that a wall goes through, and those where it ends: the program's answers. (Walks.)
-/
namespace Go.Proofs.Ytpgcpmfemcfoaaa
open Go.RowKit

/-- a slice made with no elements -/
theorem wpList_makeK {P : Program} (w : World) {ops : Array Oper} {rest : List Oper} {o : Oper} {a : Act} {Q : Exit → Act → World → Prop} (hgd : o.guard = none) (t : TypeId) (x y : Operand)
    (ho : o.op = .makeSlice t x y) (base : Nat) (e : TypeId) (i : TypeInfo) (z : Value) (size : Nat) (ht : P.underlying t = some (.slice e)) (hi : P.info? e = some i) (hz : i.zero = some z) (hsize : i.size = size)
    (c : Nat) (hx : a.eval x = .int .i64 0) (hy : a.eval y = .int .i64 (c : Int)) (hbytes : i.bytes * c ≤ 281474976710656) (h63 : c ≤ maxLen) (hbase : base ≤ w.heap.size)
    (h : ∀ w', w'.ownsRow base e size (.slice (some ⟨w.heap.size, 0, none⟩) 0 c) 0 [] → w.grownBy w' none → w'.heap.size = w.heap.size + 1 → wpList P ops Q rest (a.put o.dst (.slice (some ⟨w.heap.size, 0, none⟩) 0 c)) w') : wpList P ops Q (o :: rest) a w := by
  refine wpList_plain hgd fun K hK' => ?_
  have h63' : (c : Int) ≤ 9223372036854775807 := by
    have h := h63
    simp [maxLen] at h
    omega
  have hb' : (i.bytes : Int) * (c : Int) ≤ 281474976710656 := by
    have h : ((i.bytes * c : Nat) : Int) ≤ 281474976710656 := by omega
    rwa [Int.natCast_mul] at h
  have hr := run_make (P := P) w t e i z ht hi hz .i64 .i64 0 c (Int.le_refl _) (by omega) hb' h63'
  simp only [Int.toNat_zero, Int.toNat_natCast] at hr
  subst hsize
  unfold Oper.wp
  simp [execOp, ho, hx, hy, hr, Result.andThen]
  exact hK' _ _ (h _ (World.ownsRow_made w _ c hbase h63 (size_madeCells _ _)) (World.grownBy_alloc w _ none) (by simp))

theorem Try.infoPt : (Try.prog.info? 147).map (fun i => (i.zero, i.size, i.bytes)) = some (some (.agg (ptC (0, 0))), 2, 16) := by kernel_rfl
/-- points as cells -/
def ptsC (L : List (Nat × Nat)) : List Value := L.flatMap fun x => (ptC x).toList
theorem ptsC_snoc (L : List (Nat × Nat)) (x : Nat × Nat) : ptsC (L ++ [x]) = ptsC L ++ (ptC x).toList := by unfold ptsC; rw [List.flatMap_append, List.flatMap_singleton]
theorem ptC_ones {x : Nat × Nat} : ∀ v ∈ (ptC x).toList, v.oneCell' = true := by
  intro v hv
  unfold ptC at hv
  simp only [List.mem_cons, List.not_mem_nil, or_false] at hv
  rcases hv with rfl | rfl <;> rfl
theorem ptC_list (x : Nat × Nat) : (ptC x).toList.length = 2 := rfl
theorem build_pt (x : Nat × Nat) (w : World) : (Instr.buildSlice 173 1 #[(0, .agg (ptC x))]).run Try.prog w = .ok (.slice (some ⟨w.heap.size, 0, none⟩) 1 1) (w.alloc (.cells (ptC x) 147)) := by kernel_rfl

/-- the first points that a wall goes through -/
def innT (X : Wl) (t : Nat) : List (Nat × Nat) := (List.range t).map fun s => ptAt X (X.first + 1 + s)
theorem innT_len (X : Wl) (t : Nat) : (innT X t).length = t := by unfold innT; simp
theorem innT_all (X : Wl) : innT X (X.long - 1) = innW X := by
  unfold innT innW innR
  rw [List.map_map]
  rfl
theorem innT_succ (X : Wl) (t : Nat) : innT X (t + 1) = innT X t ++ [ptAt X (X.first + 1 + t)] := by
  unfold innT; rw [List.range_succ, List.map_append]; rfl

set_option maxRecDepth 100000 in
set_option maxHeartbeats 2000000 in
theorem inner_any (X : Wl) (w : World) (h1 : 1 ≤ X.long) (h2 : X.first + X.long ≤ 6) :
    Calls Try.prog 96 #[.agg (wlC X)] w
      fun e w' => ∃ ro rc, e = .returned (.slice ro (innW X).length rc) ∧ w'.ownsRow w.heap.size 147 2 (.slice ro (innW X).length rc) (innW X).length (ptsC (innW X)) ∧ Below w.heap.size w w' := by
  obtain ⟨iw, hwi, hwz, hw1, hw2⟩ := info_parts Try.infoPt
  have HPA := Lib.hid (fun (i : Nat) w => pointAt_any X i w)
  have HIA := Lib.hid (innT_all X)
  have HIS := Lib.hid (fun t => innT_succ X t)
  have HIL := Lib.hid (fun t => innT_len X t)
  have c2 : (wlC X)[2]? = some (.int .i64 (X.first : Nat)) := rfl
  have c3 : (wlC X)[3]? = some (.int .i64 (X.long : Nat)) := rfl
  have bX := HeldB.new w 108 (wlC X)
  have x2 : (w.alloc (.cells (wlC X) 108)).cell? ⟨w.heap.size, 2, none⟩ = some (.int .i64 (X.first : Nat)) := (bX.cell 2).trans c2
  have x3 : (w.alloc (.cells (wlC X) 108)).cell? ⟨w.heap.size, 3, none⟩ = some (.int .i64 (X.long : Nat)) := (bX.cell 3).trans c3
  have hl1 : (X.long : Int) - 1 = ((X.long - 1 : Nat) : Int) := by omega
  go_enter Try.func96, Try.ntmps96
  go_wp2_with (refine wpList_makeK _ rfl 173 _ _ rfl (w.heap.size + 1) 147 iw (.agg (ptC (0, 0))) 2 Try.underlying173 hwi hwz hw1 (X.long - 1) rfl rfl (by rw [hw2]; omega) (by unfold maxLen; omega) (by simp) ?_; intro w1 hown1 hg1 hs1; have bX1 := HeldB.kept bX hg1 (by simp); have y2 : World.cell? w1 _ = some (.int .i64 (X.first : Nat)) := (bX1.cell 2).trans c2)
  have hB1 : Below w.heap.size w w1 := (below_alloc w _).trans (below_of_grownBy hg1 (by simp) (by simp))
  have hs1' : w.heap.size + 2 ≤ w1.heap.size := by rw [hs1]; simp
  clear hs1 hg1 x2 x3 bX y2 hl1
  rw [World.size_alloc] at hown1
  have HO1 := Lib.hid hown1
  clear hown1
  go_loopw [3, 4] (fun vs vi wr => ∃ (n t : Nat) (ro : Option Addr) (rc : Nat), n = X.first + 1 + t ∧ t ≤ X.long - 1 ∧ vi = .int .i64 n ∧ vs = .slice ro t rc ∧
    Hid (wr.ownsRow (w.heap.size + 1) 147 2 (.slice ro t rc) t (ptsC (innT X t))) ∧ HeldB wr w.heap.size 108 (wlC X) ∧ w.heap.size + 2 ≤ wr.heap.size ∧ Below w.heap.size w wr) (fun _ vi _ => X.first + X.long - (intOf vi).toNat)
  case atStart => exact ⟨X.first + 1, 0, _, _, rfl, Nat.zero_le _, by go_num, rfl, Lib.hid (by have := HO1.out; exact this), bX1, hs1', hB1⟩
  case round =>
    clear HO1 bX1 hs1' hB1
    obtain ⟨n, t, ro, rc, hn, ht, rfl, rfl, HO, bX, hsr, hB⟩ := hrel
    have HN := Lib.hid hn
    have hn6 : n ≤ 6 := by omega
    have y2 : wr.cell? _ = some (.int .i64 (X.first : Nat)) := (bX.cell 2).trans c2
    have y3 : wr.cell? _ = some (.int .i64 (X.long : Nat)) := (bX.cell 3).trans c3
    by_cases hlt : n < X.first + X.long
    · have hlt' : decide ((n : Int) < (X.first : Int) + (X.long : Int)) = true := by rw [decide_eq_true_eq]; omega
      have HS := Lib.hid (show innT X (t + 1) = innT X t ++ [ptAt X n] by rw [HIS.out, hn])
      have HL := HIL.out t
      have HP := Lib.hid (HPA.out n)
      have ht6 : t ≤ 6 := by omega
      clear hn HL
      generalize ptAt X n = x at *
      have hlto := owns_lt HO.out
      have h63 : t + 1 ≤ maxLen := by unfold maxLen; omega
      go_wp2_with (first
        | (refine wpList_load_row rfl 108 _ rfl w.heap.size rfl 108 (wlC X) (0, 0) _ bX Try.underlying108 rfl (wl_size _) ?_)
        | (go_at_call 125; refine (HP.out _).mono ?_; rintro e w2 ⟨rfl, hb2⟩; have hbs2 := hb2.size)
        | (refine wpList_build1 rfl _ 147 _ rfl (ptC x) rfl (build_pt x _) ?_)
        | (at_builtin; go_loud (refine wpList_pushK _ rfl _ _ 173 rfl (w.heap.size + 1) 147 iw (.agg (ptC (0, 0))) 2 16 Try.underlying173 hwi hwz hw1 hw2 rfl (by decide) ro t rc _ rfl (ownsRow_below (ownsRow_below HO.out hb2) (below_alloc _ _)) (ptC x).toList 1 _ 0 1 rfl (by decide) rfl (cells_new _ _ _) ptC_ones h63 (by omega) (by simp; omega) ?_); intro ao2 cap2 w3 hown3 hg3 hnew3))
      have bX2 := (bX.below hb2).alloc (.cells (ptC x) 147)
      have hB2 : Below w.heap.size w (w2.alloc (.cells (ptC x) 147)) := (below_step hB hB.size hb2).alloc (by have := hB.size; omega) _
      have bX3 := kept_own bX2 hg3 (fun a ha => by have := (hlto a ha).1; omega)
      have hB3 := below_of_grownBy' hB2 hg3 (fun a ha => by have := (hlto a ha).1; omega)
      have hs3 : w.heap.size + 2 ≤ w3.heap.size := by have := hg3.size; simp at this; omega
      go_roundw
      case rel => exact ⟨n + 1, t + 1, ao2, cap2, by rw [HN.out]; omega, by have := HN.out; omega, by go_num, rfl, Lib.hid (by rw [HS.out, ptsC_snoc]; exact hown3), bX3, hs3, hB3⟩
      case measure => simp [intOf]; omega
    · have hlt' : decide ((n : Int) < (X.first : Int) + (X.long : Int)) = false := by rw [decide_eq_false_iff_not]; omega
      obtain rfl : t = X.long - 1 := by omega
      have HO2 := Lib.hid (ownsRow_base HO.out (base' := w.heap.size) (by omega))
      clear hn HO
      go_wp2
      go_ret
      refine ⟨ro, rc, ?_, ?_, hB⟩
      · rw [← HIA.out, HIL.out]; rfl
      · rw [← HIA.out, HIL.out]; exact HO2.out

/-- a slice of two points -/
theorem build_pt2 (x y : Nat × Nat) (w : World) : (Instr.buildSlice 173 2 #[(0, .agg (ptC x)), (1, .agg (ptC y))]).run Try.prog w = .ok (.slice (some ⟨w.heap.size, 0, none⟩) 2 2) (w.alloc (.cells (ptC x ++ ptC y) 147)) := by kernel_rfl
theorem owns_two {w : World} {base : Nat} (x y : Nat × Nat) (hb : base ≤ w.heap.size) : (w.alloc (.cells (ptC x ++ ptC y) 147)).ownsRow base 147 2 (.slice (some ⟨w.heap.size, 0, none⟩) 2 2) 2 (ptsC [x, y]) :=
  ⟨rfl, .inr ⟨w.heap.size, 2, ptC x ++ ptC y, rfl, hb, HeldB.new _ _ _, Nat.le_refl _, by unfold maxLen; omega, rfl, rfl⟩⟩
theorem yieldsIf_load_cell {P : Program} {ops : Array Oper} {S : World → Prop} {op : Oper} {a : Act} (hw : Region.wanted op (yielded ops a.tmps) = true) (ty : TypeId) (x : Operand) (ho : op.op = .load ty x) (v : Value)
    (hr : ∀ w, S w → (Instr.loadAt ty (a.eval x)).run P w = .ok v w) : YieldsIf P ops S op v a :=
  .inl ⟨hw, fun w hw' => by
    unfold execOp
    simp only [ho, Sem.run_bind, Sem.run_pure, Result.andThen_ok, hr w hw']⟩

set_option maxRecDepth 100000 in
set_option maxHeartbeats 2000000 in
theorem ends_any (X : Wl) (w : World) (h1 : 1 ≤ X.long) (h2 : X.first + X.long ≤ 6) :
    Calls Try.prog 97 #[.agg (wlC X)] w
      fun e w' => ∃ ro rc, e = .returned (.slice ro (endW X).length rc) ∧ w'.ownsRow w.heap.size 147 2 (.slice ro (endW X).length rc) (endW X).length (ptsC (endW X)) ∧ Below w.heap.size w w' := by
  have HPA := Lib.hid (fun (i : Nat) w => pointAt_any X i w)
  have c2 : (wlC X)[2]? = some (.int .i64 (X.first : Nat)) := rfl
  have c3 : (wlC X)[3]? = some (.int .i64 (X.long : Nat)) := rfl
  have bX := HeldB.new w 108 (wlC X)
  go_enter Try.func97, Try.ntmps97
  go_wp2
  have hB0 : Below w.heap.size w (w.alloc (.cells (wlC X) 108)) := below_alloc w _
  generalize w.alloc (.cells (wlC X) 108) = W1 at *
  refine wp_region_held (S := fun w' => HeldB w' w.heap.size 108 (wlC X)) (by kernel_rfl) ?_
  have hBd : Below w.heap.size w ({ W1 with drawn := W1.drawn + 1 } : World) := hB0.trans (below_drewN _ W1 1)
  have bPd : HeldB ({ W1 with drawn := W1.drawn + 1 } : World) w.heap.size 108 (wlC X) := bX
  generalize ({ W1 with drawn := W1.drawn + 1 } : World) = W2 at *
  change Go.wpAnyH Try.prog Region.Mode.any _ _ _ 13 (Array.replicate 13 false) _ _
  refine wpAnyH_take (i := 0) (v := .agg (wlC X)) rfl (by kernel_rfl) (by kernel_rfl) (by kernel_rfl) (fun _ _ _ h => h) (yieldsIf_load_row (by rfl) 108 _ rfl w.heap.size (by rfl) 108 (wlC X) _ (fun _ h => h) Try.underlying108 rfl (wl_size _)) bPd ?_
  refine wpAnyH_take (i := 1) (v := .pointer (some ⟨w.heap.size, 2, none⟩)) rfl (by kernel_rfl) (by kernel_rfl) (by kernel_rfl) (fun _ _ _ h => h) (Yields.yieldsIf (Or.inl ⟨by rfl, fun w => by go_simp⟩)) bPd ?_
  refine wpAnyH_take (i := 2) (v := .int .i64 (X.first : Nat)) rfl (by kernel_rfl) (by kernel_rfl) (by kernel_rfl) (fun _ _ _ h => h) (yieldsIf_load_cell (by rfl) 3 _ rfl _ (fun w' hw => by have hc : w'.cell? ⟨w.heap.size, 2, none⟩ = some (.int .i64 (X.first : Nat)) := (HeldB.cell hw 2).trans c2; go_simp)) bPd ?_
  refine wpAnyH_take (i := 4) (v := .agg (wlC X)) rfl (by kernel_rfl) (by kernel_rfl) (by kernel_rfl) (fun _ _ _ h => h) (yieldsIf_load_row (by rfl) 108 _ rfl w.heap.size (by rfl) 108 (wlC X) _ (fun _ h => h) Try.underlying108 rfl (wl_size _)) bPd ?_
  refine wpAnyH_take (i := 5) (v := .pointer (some ⟨w.heap.size, 2, none⟩)) rfl (by kernel_rfl) (by kernel_rfl) (by kernel_rfl) (fun _ _ _ h => h) (Yields.yieldsIf (Or.inl ⟨by rfl, fun w => by go_simp⟩)) bPd ?_
  refine wpAnyH_take (i := 6) (v := .int .i64 (X.first : Nat)) rfl (by kernel_rfl) (by kernel_rfl) (by kernel_rfl) (fun _ _ _ h => h) (yieldsIf_load_cell (by rfl) 3 _ rfl _ (fun w' hw => by have hc : w'.cell? ⟨w.heap.size, 2, none⟩ = some (.int .i64 (X.first : Nat)) := (HeldB.cell hw 2).trans c2; go_simp)) bPd ?_
  refine wpAnyH_take (i := 7) (v := .pointer (some ⟨w.heap.size, 3, none⟩)) rfl (by kernel_rfl) (by kernel_rfl) (by kernel_rfl) (fun _ _ _ h => h) (Yields.yieldsIf (Or.inl ⟨by rfl, fun w => by go_simp⟩)) bPd ?_
  refine wpAnyH_take (i := 8) (v := .int .i64 (X.long : Nat)) rfl (by kernel_rfl) (by kernel_rfl) (by kernel_rfl) (fun _ _ _ h => h) (yieldsIf_load_cell (by rfl) 3 _ rfl _ (fun w' hw => by have hc : w'.cell? ⟨w.heap.size, 3, none⟩ = some (.int .i64 (X.long : Nat)) := (HeldB.cell hw 3).trans c3; go_simp)) bPd ?_
  obtain ⟨n, hn⟩ : ∃ n, n = X.first + X.long := ⟨_, rfl⟩
  have hsum : IntKind.i64.wrap ((X.first : Int) + (X.long : Int)) = (n : Int) := by rw [IntKind.wrap_i64]; omega
  have HN := Lib.hid hn
  clear hn
  refine wpAnyH_take (i := 9) (v := .int .i64 (n : Int)) rfl (by kernel_rfl) (by kernel_rfl) (by kernel_rfl) (fun _ _ _ h => h) (Yields.yieldsIf (Or.inl ⟨by rfl, fun w => by go_simp⟩)) bPd ?_
  clear hsum c2 c3
  have HE := Lib.hid (show endW X = [ptAt X X.first, ptAt X n] by rw [HN.out]; rfl)
  have HP1 := Lib.hid (HPA.out X.first)
  have HP2 := Lib.hid (HPA.out n)
  clear HPA
  generalize ptAt X X.first = x at *
  generalize ptAt X n = y at *
  refine wpAnyH_all (rs := [3]) (by kernel_rfl) (by decide) ?_
  intro i hi
  simp only [List.mem_cons, List.not_mem_nil, or_false] at hi
  subst hi
  refine wpOp_go rfl (by rfl) ?_
  unfold Oper.wp
  go_simp
  refine (HP1.out _).mono ?_
  rintro e w3 ⟨rfl, hb3⟩
  have bP3 := bPd.below hb3
  refine ⟨bP3, ?_⟩
  have hB3 := below_step hBd hBd.size hb3
  refine wpAnyH_all (rs := [10]) (by kernel_rfl) (by decide) ?_
  intro i hi
  simp only [List.mem_cons, List.not_mem_nil, or_false] at hi
  subst hi
  refine wpOp_go rfl (by rfl) ?_
  unfold Oper.wp
  go_simp
  refine (HP2.out _).mono ?_
  rintro e w4 ⟨rfl, hb4⟩
  have bP4 := bP3.below hb4
  refine ⟨bP4, ?_⟩
  have hB4 := below_step hB3 hB3.size hb4
  refine wpAnyH_all (rs := [11]) (by kernel_rfl) (by decide) ?_
  intro i hi
  simp only [List.mem_cons, List.not_mem_nil, or_false] at hi
  subst hi
  refine wpOp_go rfl (by rfl) ?_
  have hrun := build_pt2 x y w4
  unfold Oper.wp
  go_simp
  refine ⟨bP4.alloc _, ?_⟩
  refine wpAnyH_take (i := 12) (v := .slice (some ⟨w4.heap.size, 0, none⟩) 2 2) rfl (by kernel_rfl) (by kernel_rfl) (by kernel_rfl) (fun _ _ _ h => h) (Yields.yieldsIf (Or.inl ⟨by rfl, fun w => by go_simp⟩)) (bP4.alloc _) ?_
  refine wpAnyH_done (by kernel_rfl) ?_ _
  have ho := owns_two (w := w4) (base := w.heap.size) x y hB4.size
  have hB5 : Below w.heap.size w (w4.alloc (.cells (ptC x ++ ptC y) 147)) := hB4.alloc hB4.size _
  go_wp2
  go_ret
  refine ⟨some ⟨w4.heap.size, 0, none⟩, 2, ?_, ?_, hB5⟩
  · rw [HE.out]; rfl
  · rw [HE.out]; exact ho

end Go.Proofs.Ytpgcpmfemcfoaaa

/-
  How many walls have each point: a map is filled. (Walks.)
-/
namespace Go.Proofs.Ytpgcpmfemcfoaaa
open Go.RowKit

/-- 'clear' of a map that counts -/
theorem wpList_clearMap (w : World) {ops : Array Oper} {rest : List Oper} {o : Oper} {a : Act} {Q : Exit → Act → World → Prop} (hgd : o.guard = none) (m : Operand)
    (ho : o.op = .call { callee := .builtin .clear, args := #[m], argTypes := #[142] }) (b : Nat) (hm : a.eval m = .map (some b)) (M : List (Nat × Nat)) (hown : CntMap w b M)
    (h : ∀ w', CntMap w' b [] → w.grownBy w' (some b) → w'.heap.size = w.heap.size → wpList Try.prog ops Q rest (a.put o.dst (.tuple #[])) w') : wpList Try.prog ops Q (o :: rest) a w := by
  refine wpList_plain hgd fun K hK' => ?_
  obtain ⟨_, D, ⟨es, clock, hb, F, hs, _⟩, _⟩ := hown
  have hr : (Builtin.clear_ #[142] o.type #[.map (some b)]).run Try.prog w = .ok (.tuple #[]) (ChangeMaps.setBlock w b (.map #[] clock)) := by
    simp [Builtin.clear_, run_underlying Try.mapPt, MapKept.run_getObj_map hb, MapKept.run_setObj_map _ hb, Result.andThen, ChangeMaps.setBlock]
  unfold Oper.wp
  simp [execOp, ho, resolve, invoke, builtin, hm, hr, Result.andThen]
  have hset := ChangeMaps.heap_setBlock_same hb (.map #[] clock)
  refine hK' _ _ (h _ ⟨fun _ h => (by cases h), .map [], ⟨#[], clock, hset, ⟨by simp, MapKept.stamped_empty clock, by simp⟩, Nat.le_refl _, rfl⟩, counts_nil⟩ ⟨rfl, rfl, rfl, by simp [ChangeMaps.setBlock], fun i _ hi => ChangeMaps.heap_setBlock_other hb _ (fun e => hi (by rw [e]))⟩ (by simp [ChangeMaps.setBlock]))

theorem Try.sizePt : (Try.prog.info? 147).map (·.size) = some 2 := by kernel_rfl
theorem ptsC_at (L : List (Nat × Nat)) (i j : Nat) (hi : i < L.length) (hj : j < 2) : (ptsC L)[i * 2 + j]? = (ptC (L.getD i (0, 0))).toList[j]? := by
  unfold ptsC
  induction L generalizing i with
  | nil => simp at hi
  | cons x L ih =>
    rw [List.flatMap_cons]
    cases i with
    | zero => rw [Nat.zero_mul, Nat.zero_add, List.getElem?_append_left (by rw [ptC_list]; exact hj)]; rfl
    | succ i =>
      rw [List.getElem?_append_right (by rw [ptC_list]; omega), ptC_list, show (i + 1) * 2 + j - 2 = i * 2 + j from by omega, ih i (by simpa using hi)]
      rfl
theorem pts_range {w : World} {ao : Option Addr} {L : List (Nat × Nat)} (h : CellsAt w ao (ptsC L)) {i : Nat} (hi : i < L.length) : ∃ b off, ao = some ⟨b, off, none⟩ ∧ w.rangeAt b (off + i * 2) (ptC (L.getD i (0, 0))).toList := by
  obtain ⟨b, off, rfl, _⟩ := h (i * 2 + 0) _ ((ptsC_at L i 0 hi (by omega)).trans rfl)
  refine ⟨b, off, rfl, fun j v hv => ?_⟩
  have hj : j < 2 := by
    have := (List.getElem?_eq_some_iff.1 hv).1
    simpa [ptC] using this
  obtain ⟨b', off', he, hc⟩ := h (i * 2 + j) v (by rw [ptsC_at L i j hi hj, ← hv])
  simp only [Option.some.injEq, Addr.mk.injEq, and_true] at he
  obtain ⟨rfl, rfl⟩ := he
  rw [show off + i * 2 + j = off + (i * 2 + j) from by omega]
  exact hc
theorem wpList_load_pt {P : Program} {ops : Array Oper} {rest : List Oper} {op : Oper} {a : Act} {w : World} {Q : Exit → Act → World → Prop} (hgd : op.guard = none) (ty : TypeId) (x : Operand) (ho : op.op = .load ty x)
    (b o : Nat) (hx : a.eval x = .pointer (some ⟨b, o, none⟩)) (X : Nat × Nat) (d : TypeDesc) (hc : w.rangeAt b o (ptC X).toList)
    (hu : P.underlying ty = some d) (hd : d.isRow = true) (hi : (P.info? ty).map (·.size) = some 2)
    (h : wpList P ops Q rest (a.put op.dst (.agg (ptC X))) w) : wpList P ops Q (op :: rest) a w :=
  wpList_load_mid hgd ty x ho b o hx (ptC X).toList d hc hu hd hi (by simpa using h)
theorem setBlock_twice (w : World) (b : Nat) (o o' : Obj) : ChangeMaps.setBlock (ChangeMaps.setBlock w b o) b o' = ChangeMaps.setBlock w b o' := by
  unfold ChangeMaps.setBlock
  simp [Array.setIfInBounds_setIfInBounds]
theorem int_wf {n : Nat} (h : n < 200000) : (Lit.int .i64 (n : Int)).wf = true := by
  show (decide (IntKind.i64.min ≤ (n : Int)) && decide ((n : Int) ≤ IntKind.i64.max)) = true
  have h1 : IntKind.i64.min = -9223372036854775808 := by decide +kernel
  have h2 : IntKind.i64.max = 9223372036854775807 := by decide +kernel
  rw [h1, h2, decide_eq_true (by omega), decide_eq_true (by omega)]
  rfl

/-- one more point counted: what the three operations on the map do, in either order of the first two -/
theorem CntMap.inc {w : World} {b : Nat} {M : List (Nat × Nat)} (h : CntMap w b M) {x : Nat × Nat} (hx : x ∈ ptsAll) (hl : M.length < 100000) :
    (Instr.lookup 142 (.map (some b)) (.agg (ptC x)) false).run Try.prog w = .ok (.int .i64 (M.count x : Nat)) w ∧
    ∃ (v0 : Value) (st : Nat) (w1 : World), (Instr.mapEntry 142 (.map (some b)) (.agg (ptC x))).run Try.prog w = .ok (.tuple #[v0, goInt st]) w1 ∧ w.grownBy w1 (some b) ∧
      (Instr.lookup 142 (.map (some b)) (.agg (ptC x)) false).run Try.prog w1 = .ok (.int .i64 (M.count x : Nat)) w1 ∧
      ∃ w2, (Instr.entryStore 142 (.map (some b)) (goInt st) (.int .i64 ((M.count x + 1 : Nat) : Int))).run Try.prog w1 = .ok () w2 ∧ CntMap w2 b (M ++ [x]) ∧ w1.grownBy w2 (some b) := by
  obtain ⟨hM, D, hown, hcnt⟩ := h
  have hkey := keyOf_pt hx
  have hcl : M.count x < 100000 := Nat.lt_of_le_of_lt List.count_le_length hl
  have hlook : ∀ (W : World) (n : Nat) (D' : DataW Unit), W.ownsMap (H := Unit) Try.prog 147 (plainElem Try.prog 3) b n D' → D'.atKey (ptL x) (.lit (.int .i64 0)) = .lit (.int .i64 (M.count x : Nat)) →
      (Instr.lookup 142 (.map (some b)) (.agg (ptC x)) false).run Try.prog W = .ok (.int .i64 (M.count x : Nat)) W := fun W n D' hO hA => by
    obtain ⟨c, hrun, hat, _⟩ := hO.lookup_int point_keyed Try.mapPt Try.underlying3 (zero_int W) hkey
    rw [hA] at hat
    simp only [DataW.lit.injEq, Lit.int.injEq, true_and] at hat
    rw [hat]; exact hrun
  refine ⟨hlook w _ D hown (hcnt.1 x hx), ?_⟩
  have hown' := hown
  obtain ⟨es, clock, hb, F, hs, hD⟩ := hown'
  obtain ⟨v0, st, es1, clock1, hE, _, hS⟩ := WideElems.entry_then_store point_law Try.mapPt zero_int hb F hkey
  have hset := ChangeMaps.heap_setBlock_same hb (.map es1 clock1)
  obtain ⟨es', clock', hst, hup⟩ := hS (ChangeMaps.setBlock w b (.map es1 clock1)) (.int .i64 ((M.count x + 1 : Nat) : Int)) hset
  have hg : ∀ (o : Obj), w.grownBy (ChangeMaps.setBlock w b o) (some b) := fun o => ⟨rfl, rfl, rfl, by simp [ChangeMaps.setBlock], fun i _ hi => ChangeMaps.heap_setBlock_other hb _ (fun e => hi (by rw [e]))⟩
  refine ⟨v0, st, _, hE, hg _, ?_, _, hst, ?_, ?_⟩
  · rcases point_keyed.find w hkey es.toList F.keys with ⟨h1, h2⟩ | ⟨j, e0, h1, h2, h3⟩
    · have hE2 : (Instr.mapEntry 142 (.map (some b)) (.agg (ptC x))).run Try.prog w = .ok (.tuple #[.int .i64 0, goInt clock]) (ChangeMaps.setBlock w b (.map (es.push ⟨.agg (ptC x), .int .i64 0, clock⟩) (clock + 1))) := by
        simp [Instr.mapEntry, run_underlying Try.mapPt, MapKept.run_getObj_map hb, point_keyed.check w false hkey, h1, MapKept.run_setObj_map _ hb, Result.andThen, ChangeMaps.setBlock]
      obtain ⟨w', hup2, hown2, _⟩ := hown.update point_keyed Try.mapPt (d := .lit (.int .i64 0)) (val := .int .i64 0) (ps := []) (by unfold maxLen; omega) hkey (plainElem_int Try.underlying3 (int_wf (n := 0) (by omega)))
      have hup3 : (Instr.mapUpdate 142 (.map (some b)) (.agg (ptC x)) (.int .i64 0)).run Try.prog w = .ok () (ChangeMaps.setBlock w b (.map (es.push ⟨.agg (ptC x), .int .i64 0, clock⟩) (clock + 1))) := by
        simp [Instr.mapUpdate, run_underlying Try.mapPt, MapKept.run_getObj_map hb, point_keyed.check w false hkey, h1, MapKept.run_setObj_map _ hb, Result.andThen, ChangeMaps.setBlock]
      rw [hE] at hE2
      rw [hup3] at hup2
      simp only [Result.ok.injEq, true_and] at hE2 hup2
      rw [hE2.2]
      subst hup2
      refine hlook _ _ _ hown2 ?_
      have hm : Maps.IsMap D := ⟨_, hD⟩
      rw [Maps.atKey_put_same hm (ptL_key hx)]
      have h0 : Maps.has D (ptL x) = false := by
        cases hh : Maps.has D (ptL x)
        · rfl
        · exfalso
          rw [hD] at hh
          obtain ⟨p, hp, hpk⟩ := List.any_eq_true.1 hh
          obtain ⟨y, hy, rfl⟩ := List.mem_map.1 (mem_sorted.1 hp)
          obtain ⟨z, hz⟩ := F.reads y hy
          rw [WideElems.rg_of hz] at hpk
          have hk2 := WideElems.rd_key hz
          rw [WideAt.sameKey_eq hpk] at hk2
          exact h2 y hy (point_keyed.inj hk2 hkey)
      have := hcnt.1 x hx
      rw [Maps.atKey_of_not_has h0] at this
      exact this
    · have hE2 : (Instr.mapEntry 142 (.map (some b)) (.agg (ptC x))).run Try.prog w = .ok (.tuple #[v0, goInt st]) (ChangeMaps.setBlock w b (.map es1 clock1)) := hE
      have hj : es[j]? = some e0 := by simpa using h2
      have hsame : es.modify j (fun e => { e with key := .agg (ptC x) }) = es := by
        apply Array.ext'
        rw [Array.toList_modify, ChangeMaps.modify_eq_set _ _ _ _ h2]
        have : ({ e0 with key := .agg (ptC x) } : MapEntry) = e0 := by rw [← h3]
        rw [this]
        exact WideElems.set_self _ _ _ h2
      simp [Instr.mapEntry, run_underlying Try.mapPt, MapKept.run_getObj_map hb, point_keyed.check w false hkey, h1, hj, h3, point_keyed.stays w hkey, hsame, MapKept.run_setObj_map _ hb, Result.andThen] at hE2
      refine hlook _ M.length D ?_ (hcnt.1 x hx)
      rw [← hE2.2]
      exact ⟨es, clock, (MapKept.heap_set hb).1, F, hs, hD⟩
  · obtain ⟨w', hup2, hown2, _⟩ := hown.update point_keyed Try.mapPt (d := .lit (.int .i64 ((M.count x + 1 : Nat) : Int))) (val := .int .i64 ((M.count x + 1 : Nat) : Int)) (ps := []) (by unfold maxLen; omega) hkey (plainElem_int Try.underlying3 (int_wf (by omega)))
    rw [hup] at hup2
    simp only [Result.ok.injEq, true_and] at hup2
    rw [setBlock_twice, hup2]
    refine ⟨fun y hy => ?_, _, by rw [List.length_append]; exact hown2, hcnt.put ⟨_, hD⟩ hx⟩
    rw [List.mem_append, List.mem_singleton] at hy
    rcases hy with hy | rfl
    · exact hM y hy
    · exact hx
  · rw [setBlock_twice]
    exact ⟨rfl, rfl, rfl, by simp [ChangeMaps.setBlock], fun i _ hi => by rw [ChangeMaps.heap_setBlock_other hb _ (fun e => hi (by rw [e])), ChangeMaps.heap_setBlock_other hb _ (fun e => hi (by rw [e]))]⟩

theorem flatG_len {G : Wl → List (Nat × Nat)} : ∀ (L : List Wl) (n : Nat), L.length ≤ n → (∀ X ∈ L, (G X).length ≤ 6) → (L.flatMap G).length ≤ n * 6
  | [], _, _, _ => Nat.zero_le _
  | X :: L, n, h, h6 => by
    rw [List.length_cons] at h
    have := flatG_len L (n - 1) (by omega) (fun Y hY => h6 Y (List.mem_cons_of_mem _ hY))
    have := h6 X (List.mem_cons_self ..)
    rw [List.flatMap_cons, List.length_append]
    omega
theorem inner_six (X : Wl) (_a1 : 1 ≤ X.long) (a2 : X.first + X.long ≤ 6) : (innW X).length ≤ 6 := by unfold innW innR; simp; omega
theorem ends_six (X : Wl) (_a1 : 1 ≤ X.long) (_a2 : X.first + X.long ≤ 6) : (endW X).length ≤ 6 := by unfold endW endR; simp
theorem inner_len (L : List Wl) (n : Nat) (h : L.length ≤ n) (hX : ∀ X ∈ L, 1 ≤ X.long ∧ X.first + X.long ≤ 6 ∧ X.line ≤ 6) : (L.flatMap innW).length ≤ n * 6 := flatG_len L n h (fun X hx => inner_six X (hX X hx).1 (hX X hx).2.1)
theorem ends_len (L : List Wl) (n : Nat) (h : L.length ≤ n) (hX : ∀ X ∈ L, 1 ≤ X.long ∧ X.first + X.long ≤ 6 ∧ X.line ≤ 6) : (L.flatMap endW).length ≤ n * 6 := flatG_len L n h (fun X hx => ends_six X (hX X hx).1 (hX X hx).2.1)
theorem mkP_in {w k i : Nat} (hk : k ≤ 6) (hi : i ≤ 6) : mkP w k i ∈ ptsAll := by
  unfold mkP
  split
  · exact mem_ptsAll.2 ⟨hi, hk⟩
  · exact mem_ptsAll.2 ⟨hk, hi⟩
theorem inner_in (X : Wl) (_a1 : 1 ≤ X.long) (a2 : X.first + X.long ≤ 6) (a3 : X.line ≤ 6) : ∀ x ∈ innW X, x ∈ ptsAll := by
  intro x hx
  unfold innW innR at hx
  rw [List.map_map, List.mem_map] at hx
  obtain ⟨t, ht, rfl⟩ := hx
  rw [List.mem_range] at ht
  have ht2 : t < X.long - 1 := ht
  exact mkP_in a3 (show X.first + 1 + t ≤ 6 by omega)
theorem ends_in (X : Wl) (_a1 : 1 ≤ X.long) (a2 : X.first + X.long ≤ 6) (a3 : X.line ≤ 6) : ∀ x ∈ endW X, x ∈ ptsAll := by
  intro x hx
  unfold endW endR at hx
  simp only [List.map_cons, List.map_nil, List.mem_cons, List.not_mem_nil, or_false] at hx
  rcases hx with rfl | rfl
  · exact mkP_in a3 (by omega)
  · exact mkP_in a3 a2

set_option maxRecDepth 100000 in
set_option maxHeartbeats 2000000 in
theorem gather_inner_any (b : Nat) (M0 : List (Nat × Nat)) (ro : Option Addr) (rc : Nat) (L : List Wl) (w : World) (hmap : CntMap w b M0) (hc : CellsAt w ro (wlsC L)) (hnb : ∀ a, ro = some a → a.block ≠ b)
    (hle : L.length ≤ 72) (hX : ∀ X ∈ L, 1 ≤ X.long ∧ X.first + X.long ≤ 6 ∧ X.line ≤ 6) :
    Calls Try.prog 95 #[.map (some b), .slice ro L.length rc, .func (.func 96) #[] #[]] w
      fun e w' => e = .returned (.tuple #[]) ∧ CntMap w' b (L.flatMap innW) ∧ w.grownBy w' (some b) := by
  have HQ := Lib.hid (fun (X : Wl) (w : World) (a1 : 1 ≤ X.long) (a2 : X.first + X.long ≤ 6) => inner_any X w a1 a2)
  have eg := enters_of Try.func96 (by kernel_rfl) rfl
  have HC := Lib.hid hc
  have HX := Lib.hid hX
  clear hc hX
  go_enter Try.func95, Try.ntmps95
  go_wp2_with (refine wpList_clearMap _ rfl _ rfl b rfl M0 hmap ?_; intro w1 hm1 hg1 hs1)
  clear hmap
  have hbw : b < w.heap.size := by have := hm1.lt; omega
  have HM1 := Lib.hid hm1
  clear hm1
  go_loopw [13] (fun vi wr => ∃ i : Nat, i ≤ L.length ∧ vi = .int .i64 i ∧ Hid (CntMap wr b ((L.take i).flatMap innW)) ∧ w.grownBy wr (some b)) (fun vi _ => L.length - (intOf vi).toNat)
  case atStart => exact ⟨0, Nat.zero_le _, rfl, HM1, hg1⟩
  case round =>
    clear HM1 hg1 hs1
    obtain ⟨i, hi, rfl, HM, hg⟩ := hrel
    by_cases hlt : i < L.length
    · have hlt' : decide ((i : Int) < (L.length : Int)) = true := by rw [decide_eq_true_eq]; omega
      have hce := HC.out.grown hg (fun a ha => by have := hnb a ha; simpa using this)
      obtain ⟨bb, off, rfl, hrg⟩ := wls_range hce hlt
      obtain ⟨a1, a2, a3⟩ := HX.out _ (getD_mem zeroWl hlt)
      have HT := Lib.hid (show (L.take (i + 1)).flatMap innW = (L.take i).flatMap innW ++ innW (L.getD i zeroWl) by rw [take_snoc L i zeroWl hlt, List.flatMap_append, List.flatMap_singleton])
      have hlen : ((L.take i).flatMap innW).length ≤ 72 * 6 := inner_len (L.take i) 72 (by rw [List.length_take]; omega) (fun X hX => HX.out X (List.mem_of_mem_take hX))
      generalize L.getD i zeroWl = X at *
      generalize (L.take i).flatMap innW = A at *
      have hin := inner_in X a1 a2 a3
      have HIN := Lib.hid hin
      have hle6 : (innW X).length ≤ 6 := inner_six X a1 a2
      clear hce hin
      go_wp2_with (first
        | (refine wpList_load_wl rfl 108 _ rfl bb (off + i * 4) rfl X _ hrg Try.underlying108 rfl Try.sizeWl ?_)
        | (refine wpList_store_new rfl 108 _ _ rfl _ (wlC zeroWl) (wlC X) rfl rfl rfl (wl_size _) rfl (wlC_one _) ?_)
        | (refine wpList_load_row rfl 108 _ rfl wr.heap.size rfl 108 (wlC X) (0, 0) _ (HeldB.new wr _ _) Try.underlying108 rfl (wl_size _) ?_)
        | (go_at_call 96; refine (HQ.out X _ a1 a2).mono ?_; rintro e w3 ⟨qo, qc, rfl, hown3, hb3⟩))
      have hqo := owns_lt hown3
      have HQC := Lib.hid (ownsK_cells hown3)
      have hwr : w.heap.size ≤ wr.heap.size := hg.size
      have HM3 := Lib.hid ((HM.out.below (below_alloc wr (.cells (wlC X) 108))).below hb3)
      have hg3 : w.grownBy w3 (some b) := grownBy_trans hg (grownBy_trans (World.grownBy_alloc wr _ _) (grownBy_of_below hb3 _))
      have hqb : ∀ a, qo = some a → a.block ≠ b := fun a ha => by have := (hqo a ha).1; simp at this; omega
      have hw3 : b < w3.heap.size := by have := hg3.size; omega
      clear hown3 hb3 HM hg hrg
      generalize hPX : innW X = PX at *
      have HPX := Lib.hid hPX
      clear hPX
      obtain ⟨W3, hW3⟩ : ∃ W3, W3 = w3 := ⟨_, rfl⟩
      go_loopw [21] (fun vj wm => ∃ j : Nat, j ≤ PX.length ∧ vj = .int .i64 j ∧ Hid (CntMap wm b (A ++ PX.take j)) ∧ w3.grownBy wm (some b)) (fun vj _ => PX.length - (intOf vj).toNat)
      case atStart => exact ⟨0, Nat.zero_le _, rfl, Lib.hid (by rw [List.take_zero, List.append_nil]; exact HM3.out), ⟨rfl, rfl, rfl, Nat.le_refl _, fun _ _ _ => rfl⟩⟩
      case round =>
        clear HM3
        obtain ⟨j, hj, rfl, HM4, hg4⟩ := hrel
        by_cases hjl : j < PX.length
        · have hjl' : decide ((j : Int) < (PX.length : Int)) = true := by rw [decide_eq_true_eq]; omega
          have hce := HQC.out.grown hg4 (fun a ha => by have := hqb a ha; simpa using this)
          obtain ⟨b2, off2, rfl, hrg⟩ := pts_range hce hjl
          have hxin := HIN.out _ (getD_mem (0, 0) hjl)
          have HT2 := Lib.hid (show A ++ PX.take (j + 1) = (A ++ PX.take j) ++ [PX.getD j (0, 0)] by rw [take_snoc PX j (0, 0) hjl, List.append_assoc])
          have hAl : (A ++ PX.take j).length < 100000 := by rw [List.length_append, List.length_take]; omega
          generalize PX.getD j (0, 0) = x at *
          generalize A ++ PX.take j = M at *
          clear hce
          go_wp2_with (first
            | (refine wpList_load_pt rfl 147 _ rfl b2 (off2 + j * 2) rfl x _ hrg Try.underlying147 rfl Try.sizePt ?_)
            | (refine wpList_store_new rfl 147 _ _ rfl _ (ptC (0, 0)) (ptC x) rfl rfl rfl (pt_size _) rfl (ptC_one _) ?_))
          have hg5 : w3.grownBy (wr.alloc (.cells (ptC x) 147)) (some b) := grownBy_trans hg4 (World.grownBy_alloc wr _ _)
          have hm5 : CntMap (wr.alloc (.cells (ptC x) 147)) b M := HM4.out.below (below_alloc wr _)
          have b5 := HeldB.new wr 147 (ptC x)
          have hne5 : b ≠ wr.heap.size := by have := hg4.size; omega
          clear HM4 hrg
          generalize wr.alloc (.cells (ptC x) 147) = W5 at *
          generalize wr.heap.size = B5 at *
          refine wp_region_held (S := fun w' => HeldB w' B5 147 (ptC x)) (by kernel_rfl) ?_
          have hg6 : w3.grownBy ({ W5 with drawn := W5.drawn + 1 } : World) (some b) := grownBy_trans hg5 ⟨rfl, rfl, rfl, Nat.le_refl _, fun _ _ _ => rfl⟩
          have b6 : HeldB ({ W5 with drawn := W5.drawn + 1 } : World) B5 147 (ptC x) := b5
          have hm6 : CntMap ({ W5 with drawn := W5.drawn + 1 } : World) b M := hm5
          generalize ({ W5 with drawn := W5.drawn + 1 } : World) = W6 at *
          clear hg5 b5 hm5
          obtain ⟨hlk, v0, st, W7, hen, hg7, hlk7, W8, hst, hm8, hg8⟩ := hm6.inc hxin hAl
          have hcl : M.count x < 100000 := Nat.lt_of_le_of_lt List.count_le_length hAl
          generalize M.count x = c at *
          have hsum : IntKind.i64.wrap ((c : Int) + 1) = ((c + 1 : Nat) : Int) := by rw [IntKind.wrap_i64]; omega
          have b7 := b6.kept hg7 (by simpa using Ne.symm hne5)
          have b8 := b7.kept hg8 (by simpa using Ne.symm hne5)
          have hg9 : w3.grownBy W8 (some b) := grownBy_trans hg6 (grownBy_trans hg7 hg8)
          have hst' : (Instr.entryStore 142 (.map (some b)) (.int .i64 (st : Int)) (.int .i64 ((c : Int) + 1))).run Try.prog W7 = .ok () W8 := hst
          clear hg6 hg7 hg8 hm6 hst
          change Go.wpAnyH Try.prog Region.Mode.any _ _ _ 7 (Array.replicate 7 false) _ _
          refine wpAnyH_take (i := 0) (v := .map (some b)) rfl (by kernel_rfl) (by kernel_rfl) (by kernel_rfl) (fun _ _ _ h => h) (Yields.yieldsIf (Or.inl ⟨by rfl, fun w => by go_simp⟩)) b6 ?_
          refine wpAnyH_take (i := 1) (v := .agg (ptC x)) rfl (by kernel_rfl) (by kernel_rfl) (by kernel_rfl) (fun _ _ _ h => h) (yieldsIf_load_row (by rfl) 147 _ rfl B5 (by rfl) 147 (ptC x) _ (fun _ h => h) Try.underlying147 rfl (pt_size _)) b6 ?_
          refine wpAnyH_all (rs := [2, 4]) (by kernel_rfl) (by decide) ?_
          intro i0 hi0
          simp only [List.mem_cons, List.not_mem_nil, or_false] at hi0
          rcases hi0 with rfl | rfl
          · refine wpOp_go rfl (by rfl) ?_
            unfold Oper.wp
            simp only [execOp]
            go_simp
            refine wpAnyH_take (i := 3) (v := .int .i64 ((c + 1 : Nat) : Int)) rfl (by kernel_rfl) (by kernel_rfl) (by kernel_rfl) (fun _ _ _ h => h) (Yields.yieldsIf (Or.inl ⟨by rfl, fun w => by go_simp⟩)) b6 ?_
            refine wpAnyH_all (rs := [4]) (by kernel_rfl) (by decide) ?_
            intro i1 hi1
            simp only [List.mem_cons, List.not_mem_nil, or_false] at hi1
            subst hi1
            refine wpOp_go rfl (by rfl) ?_
            unfold Oper.wp
            simp only [execOp]
            go_simp
            refine wpAnyH_take (i := 5) (v := .int .i64 (st : Int)) rfl (by kernel_rfl) (by kernel_rfl) (by kernel_rfl) (fun _ _ _ h => h) (Yields.yieldsIf (Or.inl ⟨by rfl, fun w => by go_simp⟩)) b7 ?_
            refine wpAnyH_all (rs := [6]) (by kernel_rfl) (by decide) ?_
            intro i1 hi1
            simp only [List.mem_cons, List.not_mem_nil, or_false] at hi1
            subst hi1
            refine wpOp_go rfl (by rfl) ?_
            unfold Oper.wp
            simp only [execOp]
            go_simp
            refine wpAnyH_done (by kernel_rfl) ?_ _
            go_wp2
            go_roundw
            case rel => exact ⟨j + 1, by omega, by go_num, by rw [HT2.out]; exact Lib.hid hm8, hg9⟩
            case measure => simp [intOf]; omega
          · refine wpOp_go rfl (by rfl) ?_
            unfold Oper.wp
            simp only [execOp]
            go_simp
            refine wpAnyH_take (i := 5) (v := .int .i64 (st : Int)) rfl (by kernel_rfl) (by kernel_rfl) (by kernel_rfl) (fun _ _ _ h => h) (Yields.yieldsIf (Or.inl ⟨by rfl, fun w => by go_simp⟩)) b7 ?_
            refine wpAnyH_all (rs := [2]) (by kernel_rfl) (by decide) ?_
            intro i1 hi1
            simp only [List.mem_cons, List.not_mem_nil, or_false] at hi1
            subst hi1
            refine wpOp_go rfl (by rfl) ?_
            unfold Oper.wp
            simp only [execOp]
            go_simp
            refine wpAnyH_take (i := 3) (v := .int .i64 ((c + 1 : Nat) : Int)) rfl (by kernel_rfl) (by kernel_rfl) (by kernel_rfl) (fun _ _ _ h => h) (Yields.yieldsIf (Or.inl ⟨by rfl, fun w => by go_simp⟩)) b7 ?_
            refine wpAnyH_all (rs := [6]) (by kernel_rfl) (by decide) ?_
            intro i1 hi1
            simp only [List.mem_cons, List.not_mem_nil, or_false] at hi1
            subst hi1
            refine wpOp_go rfl (by rfl) ?_
            unfold Oper.wp
            simp only [execOp]
            go_simp
            refine wpAnyH_done (by kernel_rfl) ?_ _
            go_wp2
            go_roundw
            case rel => exact ⟨j + 1, by omega, by go_num, by rw [HT2.out]; exact Lib.hid hm8, hg9⟩
            case measure => simp [intOf]; omega
        · obtain rfl : j = PX.length := by omega
          have hjl' : decide ((PX.length : Int) < (PX.length : Int)) = false := by rw [decide_eq_false_iff_not]; omega
          rw [List.take_length] at HM4
          go_wp2
          go_roundw
          case rel => exact ⟨i + 1, by omega, by go_num, by rw [HT.out]; exact HM4, grownBy_trans hg3 hg4⟩
          case measure => simp [intOf]; omega
    · obtain rfl : i = L.length := by omega
      have hlt' : decide ((L.length : Int) < (L.length : Int)) = false := by rw [decide_eq_false_iff_not]; omega
      rw [List.take_length] at HM
      go_wp2
      exact bodyPost_end (v := .tuple #[]) (by simp [results, Try.results95, go_sem]) rfl ⟨rfl, HM.out, hg⟩

set_option maxRecDepth 100000 in
set_option maxHeartbeats 2000000 in
theorem gather_ends_any (b : Nat) (M0 : List (Nat × Nat)) (ro : Option Addr) (rc : Nat) (L : List Wl) (w : World) (hmap : CntMap w b M0) (hc : CellsAt w ro (wlsC L)) (hnb : ∀ a, ro = some a → a.block ≠ b)
    (hle : L.length ≤ 72) (hX : ∀ X ∈ L, 1 ≤ X.long ∧ X.first + X.long ≤ 6 ∧ X.line ≤ 6) :
    Calls Try.prog 95 #[.map (some b), .slice ro L.length rc, .func (.func 97) #[] #[]] w
      fun e w' => e = .returned (.tuple #[]) ∧ CntMap w' b (L.flatMap endW) ∧ w.grownBy w' (some b) := by
  have HQ := Lib.hid (fun (X : Wl) (w : World) (a1 : 1 ≤ X.long) (a2 : X.first + X.long ≤ 6) => ends_any X w a1 a2)
  have eg := enters_of Try.func97 (by kernel_rfl) rfl
  have HC := Lib.hid hc
  have HX := Lib.hid hX
  clear hc hX
  go_enter Try.func95, Try.ntmps95
  go_wp2_with (refine wpList_clearMap _ rfl _ rfl b rfl M0 hmap ?_; intro w1 hm1 hg1 hs1)
  clear hmap
  have hbw : b < w.heap.size := by have := hm1.lt; omega
  have HM1 := Lib.hid hm1
  clear hm1
  go_loopw [13] (fun vi wr => ∃ i : Nat, i ≤ L.length ∧ vi = .int .i64 i ∧ Hid (CntMap wr b ((L.take i).flatMap endW)) ∧ w.grownBy wr (some b)) (fun vi _ => L.length - (intOf vi).toNat)
  case atStart => exact ⟨0, Nat.zero_le _, rfl, HM1, hg1⟩
  case round =>
    clear HM1 hg1 hs1
    obtain ⟨i, hi, rfl, HM, hg⟩ := hrel
    by_cases hlt : i < L.length
    · have hlt' : decide ((i : Int) < (L.length : Int)) = true := by rw [decide_eq_true_eq]; omega
      have hce := HC.out.grown hg (fun a ha => by have := hnb a ha; simpa using this)
      obtain ⟨bb, off, rfl, hrg⟩ := wls_range hce hlt
      obtain ⟨a1, a2, a3⟩ := HX.out _ (getD_mem zeroWl hlt)
      have HT := Lib.hid (show (L.take (i + 1)).flatMap endW = (L.take i).flatMap endW ++ endW (L.getD i zeroWl) by rw [take_snoc L i zeroWl hlt, List.flatMap_append, List.flatMap_singleton])
      have hlen : ((L.take i).flatMap endW).length ≤ 72 * 6 := ends_len (L.take i) 72 (by rw [List.length_take]; omega) (fun X hX => HX.out X (List.mem_of_mem_take hX))
      generalize L.getD i zeroWl = X at *
      generalize (L.take i).flatMap endW = A at *
      have hin := ends_in X a1 a2 a3
      have HIN := Lib.hid hin
      have hle6 : (endW X).length ≤ 6 := ends_six X a1 a2
      clear hce hin
      go_wp2_with (first
        | (refine wpList_load_wl rfl 108 _ rfl bb (off + i * 4) rfl X _ hrg Try.underlying108 rfl Try.sizeWl ?_)
        | (refine wpList_store_new rfl 108 _ _ rfl _ (wlC zeroWl) (wlC X) rfl rfl rfl (wl_size _) rfl (wlC_one _) ?_)
        | (refine wpList_load_row rfl 108 _ rfl wr.heap.size rfl 108 (wlC X) (0, 0) _ (HeldB.new wr _ _) Try.underlying108 rfl (wl_size _) ?_)
        | (go_at_call 97; refine (HQ.out X _ a1 a2).mono ?_; rintro e w3 ⟨qo, qc, rfl, hown3, hb3⟩))
      have hqo := owns_lt hown3
      have HQC := Lib.hid (ownsK_cells hown3)
      have hwr : w.heap.size ≤ wr.heap.size := hg.size
      have HM3 := Lib.hid ((HM.out.below (below_alloc wr (.cells (wlC X) 108))).below hb3)
      have hg3 : w.grownBy w3 (some b) := grownBy_trans hg (grownBy_trans (World.grownBy_alloc wr _ _) (grownBy_of_below hb3 _))
      have hqb : ∀ a, qo = some a → a.block ≠ b := fun a ha => by have := (hqo a ha).1; simp at this; omega
      have hw3 : b < w3.heap.size := by have := hg3.size; omega
      clear hown3 hb3 HM hg hrg
      generalize hPX : endW X = PX at *
      have HPX := Lib.hid hPX
      clear hPX
      obtain ⟨W3, hW3⟩ : ∃ W3, W3 = w3 := ⟨_, rfl⟩
      go_loopw [21] (fun vj wm => ∃ j : Nat, j ≤ PX.length ∧ vj = .int .i64 j ∧ Hid (CntMap wm b (A ++ PX.take j)) ∧ w3.grownBy wm (some b)) (fun vj _ => PX.length - (intOf vj).toNat)
      case atStart => exact ⟨0, Nat.zero_le _, rfl, Lib.hid (by rw [List.take_zero, List.append_nil]; exact HM3.out), ⟨rfl, rfl, rfl, Nat.le_refl _, fun _ _ _ => rfl⟩⟩
      case round =>
        clear HM3
        obtain ⟨j, hj, rfl, HM4, hg4⟩ := hrel
        by_cases hjl : j < PX.length
        · have hjl' : decide ((j : Int) < (PX.length : Int)) = true := by rw [decide_eq_true_eq]; omega
          have hce := HQC.out.grown hg4 (fun a ha => by have := hqb a ha; simpa using this)
          obtain ⟨b2, off2, rfl, hrg⟩ := pts_range hce hjl
          have hxin := HIN.out _ (getD_mem (0, 0) hjl)
          have HT2 := Lib.hid (show A ++ PX.take (j + 1) = (A ++ PX.take j) ++ [PX.getD j (0, 0)] by rw [take_snoc PX j (0, 0) hjl, List.append_assoc])
          have hAl : (A ++ PX.take j).length < 100000 := by rw [List.length_append, List.length_take]; omega
          generalize PX.getD j (0, 0) = x at *
          generalize A ++ PX.take j = M at *
          clear hce
          go_wp2_with (first
            | (refine wpList_load_pt rfl 147 _ rfl b2 (off2 + j * 2) rfl x _ hrg Try.underlying147 rfl Try.sizePt ?_)
            | (refine wpList_store_new rfl 147 _ _ rfl _ (ptC (0, 0)) (ptC x) rfl rfl rfl (pt_size _) rfl (ptC_one _) ?_))
          have hg5 : w3.grownBy (wr.alloc (.cells (ptC x) 147)) (some b) := grownBy_trans hg4 (World.grownBy_alloc wr _ _)
          have hm5 : CntMap (wr.alloc (.cells (ptC x) 147)) b M := HM4.out.below (below_alloc wr _)
          have b5 := HeldB.new wr 147 (ptC x)
          have hne5 : b ≠ wr.heap.size := by have := hg4.size; omega
          clear HM4 hrg
          generalize wr.alloc (.cells (ptC x) 147) = W5 at *
          generalize wr.heap.size = B5 at *
          refine wp_region_held (S := fun w' => HeldB w' B5 147 (ptC x)) (by kernel_rfl) ?_
          have hg6 : w3.grownBy ({ W5 with drawn := W5.drawn + 1 } : World) (some b) := grownBy_trans hg5 ⟨rfl, rfl, rfl, Nat.le_refl _, fun _ _ _ => rfl⟩
          have b6 : HeldB ({ W5 with drawn := W5.drawn + 1 } : World) B5 147 (ptC x) := b5
          have hm6 : CntMap ({ W5 with drawn := W5.drawn + 1 } : World) b M := hm5
          generalize ({ W5 with drawn := W5.drawn + 1 } : World) = W6 at *
          clear hg5 b5 hm5
          obtain ⟨hlk, v0, st, W7, hen, hg7, hlk7, W8, hst, hm8, hg8⟩ := hm6.inc hxin hAl
          have hcl : M.count x < 100000 := Nat.lt_of_le_of_lt List.count_le_length hAl
          generalize M.count x = c at *
          have hsum : IntKind.i64.wrap ((c : Int) + 1) = ((c + 1 : Nat) : Int) := by rw [IntKind.wrap_i64]; omega
          have b7 := b6.kept hg7 (by simpa using Ne.symm hne5)
          have b8 := b7.kept hg8 (by simpa using Ne.symm hne5)
          have hg9 : w3.grownBy W8 (some b) := grownBy_trans hg6 (grownBy_trans hg7 hg8)
          have hst' : (Instr.entryStore 142 (.map (some b)) (.int .i64 (st : Int)) (.int .i64 ((c : Int) + 1))).run Try.prog W7 = .ok () W8 := hst
          clear hg6 hg7 hg8 hm6 hst
          change Go.wpAnyH Try.prog Region.Mode.any _ _ _ 7 (Array.replicate 7 false) _ _
          refine wpAnyH_take (i := 0) (v := .map (some b)) rfl (by kernel_rfl) (by kernel_rfl) (by kernel_rfl) (fun _ _ _ h => h) (Yields.yieldsIf (Or.inl ⟨by rfl, fun w => by go_simp⟩)) b6 ?_
          refine wpAnyH_take (i := 1) (v := .agg (ptC x)) rfl (by kernel_rfl) (by kernel_rfl) (by kernel_rfl) (fun _ _ _ h => h) (yieldsIf_load_row (by rfl) 147 _ rfl B5 (by rfl) 147 (ptC x) _ (fun _ h => h) Try.underlying147 rfl (pt_size _)) b6 ?_
          refine wpAnyH_all (rs := [2, 4]) (by kernel_rfl) (by decide) ?_
          intro i0 hi0
          simp only [List.mem_cons, List.not_mem_nil, or_false] at hi0
          rcases hi0 with rfl | rfl
          · refine wpOp_go rfl (by rfl) ?_
            unfold Oper.wp
            simp only [execOp]
            go_simp
            refine wpAnyH_take (i := 3) (v := .int .i64 ((c + 1 : Nat) : Int)) rfl (by kernel_rfl) (by kernel_rfl) (by kernel_rfl) (fun _ _ _ h => h) (Yields.yieldsIf (Or.inl ⟨by rfl, fun w => by go_simp⟩)) b6 ?_
            refine wpAnyH_all (rs := [4]) (by kernel_rfl) (by decide) ?_
            intro i1 hi1
            simp only [List.mem_cons, List.not_mem_nil, or_false] at hi1
            subst hi1
            refine wpOp_go rfl (by rfl) ?_
            unfold Oper.wp
            simp only [execOp]
            go_simp
            refine wpAnyH_take (i := 5) (v := .int .i64 (st : Int)) rfl (by kernel_rfl) (by kernel_rfl) (by kernel_rfl) (fun _ _ _ h => h) (Yields.yieldsIf (Or.inl ⟨by rfl, fun w => by go_simp⟩)) b7 ?_
            refine wpAnyH_all (rs := [6]) (by kernel_rfl) (by decide) ?_
            intro i1 hi1
            simp only [List.mem_cons, List.not_mem_nil, or_false] at hi1
            subst hi1
            refine wpOp_go rfl (by rfl) ?_
            unfold Oper.wp
            simp only [execOp]
            go_simp
            refine wpAnyH_done (by kernel_rfl) ?_ _
            go_wp2
            go_roundw
            case rel => exact ⟨j + 1, by omega, by go_num, by rw [HT2.out]; exact Lib.hid hm8, hg9⟩
            case measure => simp [intOf]; omega
          · refine wpOp_go rfl (by rfl) ?_
            unfold Oper.wp
            simp only [execOp]
            go_simp
            refine wpAnyH_take (i := 5) (v := .int .i64 (st : Int)) rfl (by kernel_rfl) (by kernel_rfl) (by kernel_rfl) (fun _ _ _ h => h) (Yields.yieldsIf (Or.inl ⟨by rfl, fun w => by go_simp⟩)) b7 ?_
            refine wpAnyH_all (rs := [2]) (by kernel_rfl) (by decide) ?_
            intro i1 hi1
            simp only [List.mem_cons, List.not_mem_nil, or_false] at hi1
            subst hi1
            refine wpOp_go rfl (by rfl) ?_
            unfold Oper.wp
            simp only [execOp]
            go_simp
            refine wpAnyH_take (i := 3) (v := .int .i64 ((c + 1 : Nat) : Int)) rfl (by kernel_rfl) (by kernel_rfl) (by kernel_rfl) (fun _ _ _ h => h) (Yields.yieldsIf (Or.inl ⟨by rfl, fun w => by go_simp⟩)) b7 ?_
            refine wpAnyH_all (rs := [6]) (by kernel_rfl) (by decide) ?_
            intro i1 hi1
            simp only [List.mem_cons, List.not_mem_nil, or_false] at hi1
            subst hi1
            refine wpOp_go rfl (by rfl) ?_
            unfold Oper.wp
            simp only [execOp]
            go_simp
            refine wpAnyH_done (by kernel_rfl) ?_ _
            go_wp2
            go_roundw
            case rel => exact ⟨j + 1, by omega, by go_num, by rw [HT2.out]; exact Lib.hid hm8, hg9⟩
            case measure => simp [intOf]; omega
        · obtain rfl : j = PX.length := by omega
          have hjl' : decide ((PX.length : Int) < (PX.length : Int)) = false := by rw [decide_eq_false_iff_not]; omega
          rw [List.take_length] at HM4
          go_wp2
          go_roundw
          case rel => exact ⟨i + 1, by omega, by go_num, by rw [HT.out]; exact HM4, grownBy_trans hg3 hg4⟩
          case measure => simp [intOf]; omega
    · obtain rfl : i = L.length := by omega
      have hlt' : decide ((L.length : Int) < (L.length : Int)) = false := by rw [decide_eq_false_iff_not]; omega
      rw [List.take_length] at HM
      go_wp2
      exact bodyPost_end (v := .tuple #[]) (by simp [results, Try.results95, go_sem]) rfl ⟨rfl, HM.out, hg⟩

end Go.Proofs.Ytpgcpmfemcfoaaa

/-
  Crosses, tees and ends of a plan: what the program counts is what the model counts. (Mathematics.)
-/
namespace Go.Proofs.Ytpgcpmfemcfoaaa
open Go.RowKit

theorem PlanP.rectG {p : List ByteArray} (hp : PlanP p) : RectG p.length (wideB p) (gridG p) := hp.rect.of_same (fun i j i' j' a b c d => by rw [hp.mark i j a b, hp.mark i' j' c d])

theorem newN_meet {p : List ByteArray} (hp : PlanP p) {i k : Nat} (hi1 : 1 ≤ i) (hi : i < p.length) (hk1 : 1 ≤ k) (hk : k < wideB p) : newN (cornL p i k) 4 = meetG (gridG p) i k := by
  have d1 := hp.differ (i := i - 1) (j := k) (i' := i - 1) (j' := k - 1) (by omega) hk (by omega) (by omega)
  have d2 := hp.differ (i := i) (j := k - 1) (i' := i - 1) (j' := k - 1) hi (by omega) (by omega) (by omega)
  have d3 := hp.differ (i := i) (j := k - 1) (i' := i - 1) (j' := k) hi (by omega) (by omega) hk
  have d4 := hp.differ (i := i) (j := k) (i' := i - 1) (j' := k - 1) hi hk (by omega) (by omega)
  have d5 := hp.differ (i := i) (j := k) (i' := i - 1) (j' := k) hi hk (by omega) hk
  have d6 := hp.differ (i := i) (j := k) (i' := i) (j' := k - 1) hi hk hi (by omega)
  unfold meetG
  rw [show newN (cornL p i k) 4 = newN (cornL p i k) (0 + 1 + 1 + 1 + 1) from rfl, newN_succ, newN_succ, newN_succ, newN_succ, newN_zero]
  rw [show newL (cornL p i k) 0 0 = true from rfl]
  rw [show newL (cornL p i k) (0 + 1) (0 + 1) = (true && decide (byteAt p (i - 1) k ≠ byteAt p (i - 1) (k - 1))) from newL_succ ..]
  rw [show newL (cornL p i k) (0 + 1 + 1) (0 + 1 + 1) = ((true && decide (byteAt p i (k - 1) ≠ byteAt p (i - 1) (k - 1))) && decide (byteAt p i (k - 1) ≠ byteAt p (i - 1) k)) by rw [newL_succ, newL_succ]; rfl]
  rw [show newL (cornL p i k) (0 + 1 + 1 + 1) (0 + 1 + 1 + 1) = (((true && decide (byteAt p i k ≠ byteAt p (i - 1) (k - 1))) && decide (byteAt p i k ≠ byteAt p (i - 1) k)) && decide (byteAt p i k ≠ byteAt p i (k - 1))) by rw [newL_succ, newL_succ, newL_succ]; rfl]
  have e1 : decide (byteAt p (i - 1) k ≠ byteAt p (i - 1) (k - 1)) = decide (gridG p (i - 1) k ≠ gridG p (i - 1) (k - 1)) := decide_eq_decide.2 d1
  have e2 : decide (byteAt p i (k - 1) ≠ byteAt p (i - 1) (k - 1)) = decide (gridG p i (k - 1) ≠ gridG p (i - 1) (k - 1)) := decide_eq_decide.2 d2
  have e3 : decide (byteAt p i (k - 1) ≠ byteAt p (i - 1) k) = decide (gridG p i (k - 1) ≠ gridG p (i - 1) k) := decide_eq_decide.2 d3
  have e4 : decide (byteAt p i k ≠ byteAt p (i - 1) (k - 1)) = decide (gridG p i k ≠ gridG p (i - 1) (k - 1)) := decide_eq_decide.2 d4
  have e5 : decide (byteAt p i k ≠ byteAt p (i - 1) k) = decide (gridG p i k ≠ gridG p (i - 1) k) := decide_eq_decide.2 d5
  have e6 : decide (byteAt p i k ≠ byteAt p i (k - 1)) = decide (gridG p i k ≠ gridG p i (k - 1)) := decide_eq_decide.2 d6
  rw [e1, e2, e3, e4, e5, e6]
  unfold b2n
  simp only [Bool.true_and, Bool.and_assoc, if_true, Nat.zero_add]

theorem pts_grid {p : List ByteArray} (hp : PlanP p) (m : Nat) : ptsN p m p.length = ptsG p.length (wideB p) (gridG p) m := by
  unfold ptsN ptsG rowPts
  congr 1
  refine List.map_congr_left fun i hi => ?_
  refine List.countP_congr fun k hk => ?_
  rw [List.mem_range] at hi hk
  unfold metB metG
  by_cases h1 : 1 ≤ i
  · by_cases h2 : 1 ≤ k
    · rw [newN_meet hp h1 hi h2 hk]
    · rw [decide_eq_false h2]; simp
  · rw [decide_eq_false h1]; simp

/-- what the program counts -/
def innP (p : List ByteArray) : List (Nat × Nat) := (wallsP p).flatMap innW
def crossC (p : List ByteArray) : Nat := ptsAll.countP fun x => decide ((innP p).count x = 2)
theorem crossC_meet (p : List ByteArray) : crossC p = meetN p 4 := by
  unfold crossC innP meetN
  cases hp : planB p
  · rw [wallsP_no hp, if_neg (by decide), List.countP_eq_zero]
    intro x _
    simp
  · have h := planP_of hp
    rw [wallsP_yes hp, if_pos rfl, cross_pts h.rectG h.grid.h6 h.grid.w6, pts_grid h]
end Go.Proofs.Ytpgcpmfemcfoaaa

/-
  Crosses, tees and ends: the program's answers. (Walks.)
-/
namespace Go.Proofs.Ytpgcpmfemcfoaaa
open Go.RowKit

theorem gb_setCell (w : World) (b k : Nat) (v : Value) : w.grownBy (w.setCell ⟨b, k, none⟩ v) (some b) :=
  ⟨rfl, rfl, rfl, by simp, fun i _ hi => Below.heap_setCell w ⟨b, k, none⟩ v i (fun e => hi (by rw [e]))⟩

/-- the cells of meetings -/
def mtC (a b c : Nat) : Array Value := #[.int .i64 (a : Nat), .int .i64 (b : Nat), .int .i64 (c : Nat)]
theorem mtC_one (a b c : Nat) : (mtC a b c).all (·.oneCell') = true := by
  rw [Array.all_eq_true_iff_forall_mem]
  intro v hv
  unfold mtC at hv
  simp only [List.mem_toArray, List.mem_cons, List.not_mem_nil, or_false] at hv
  rcases hv with rfl | rfl | rfl <;> rfl
theorem mt_size (a b c : Nat) : (Try.prog.info? 103).map (·.size) = some (mtC a b c).size := by rw [show (mtC a b c).size = 3 from rfl]; kernel_rfl
theorem zero_mt : (#[.int .i64 0, .int .i64 0, .int .i64 0] : Array Value) = mtC 0 0 0 := rfl

/-- a loop's step over a map that counts -/
theorem wpList_next_pt (w : World) {ops : Array Oper} {rest : List Oper} {o : Oper} {a : Act} {Q : Exit → Act → World → Prop} (hg : o.guard = none) (it : Operand) (hop : o.op = Op.next it false)
    (b r n : Nat) (D : DataW Unit) (left : Lit → Bool) (cnt : Nat) (M : List (Nat × Nat)) (q : Nat × Nat → Bool) (hin : ∀ x ∈ M, x ∈ ptsAll) (hcnt : Counts D M) (hleft : ∀ kl, left kl = true → Maps.has D kl = true)
    (hit : a.eval it = .pointer (some ⟨r, 0, none⟩)) (h : w.ranges Try.prog 147 (plainElem Try.prog 3) b r n D left cnt)
    (hDone : (∀ kl, left kl = false) → wpList Try.prog ops Q rest (a.put o.dst (.tuple #[.bool false])) w)
    (hYes : ∀ (x : Nat × Nat) (w' : World) (cnt' : Nat), x ∈ M → left (ptL x) = true → q x = true → w'.ranges Try.prog 147 (plainElem Try.prog 3) b r n D (fun z => left z && !z.sameKey (ptL x)) cnt' → cnt' < cnt →
      w.grownBy w' (some r) → (Instr.entry (.pointer (some ⟨r, 0, none⟩))).run Try.prog w' = .ok (.tuple #[.agg (ptC x), .int .i64 (M.count x : Nat)]) w' → wpList Try.prog ops Q rest (a.put o.dst (.tuple #[.bool true, .agg (ptC x), .int .i64 (M.count x : Nat)])) w')
    (hNo : ∀ (x : Nat × Nat) (w' : World) (cnt' : Nat), x ∈ M → left (ptL x) = true → q x = false → w'.ranges Try.prog 147 (plainElem Try.prog 3) b r n D (fun z => left z && !z.sameKey (ptL x)) cnt' → cnt' < cnt →
      w.grownBy w' (some r) → (Instr.entry (.pointer (some ⟨r, 0, none⟩))).run Try.prog w' = .ok (.tuple #[.agg (ptC x), .int .i64 (M.count x : Nat)]) w' → wpList Try.prog ops Q rest (a.put o.dst (.tuple #[.bool true, .agg (ptC x), .int .i64 (M.count x : Nat)])) w') :
    wpList Try.prog ops Q (o :: rest) a w := by
  refine wpList_plain hg fun K' hK' => ?_
  unfold Oper.wp
  rcases h.next point_keyed o.type with ⟨_, hl, hrun⟩ | ⟨key, v, kl, y, w', cnt', hkey, hlk, hv, hat, hrun, hrg, hlt, hgr, _, hen⟩
  · simp [execOp, hop, hit, hrun, Result.andThen]
    exact hK' _ _ (hDone hl)
  · obtain ⟨x, hx, rfl⟩ := (hcnt.2 kl).1 (hleft kl hlk)
    obtain rfl := point_keyed.inj hkey (keyOf_pt (hin x hx))
    obtain ⟨c, rfl, rfl, _⟩ := plainElem_int_inv Try.underlying3 hv
    have hc : c = (M.count x : Nat) := by
      have := hcnt.1 x (hin x hx)
      rw [hat] at this
      simpa using this
    subst hc
    simp [execOp, hop, hit, hrun, Result.andThen]
    cases hq : q x
    · exact hK' _ _ (hNo x w' cnt' hx hlk hq hrg hlt hgr hen)
    · exact hK' _ _ (hYes x w' cnt' hx hlk hq hrg hlt hgr hen)

/-- where meetings stand while they are counted -/
def MtSt (w : World) (C : Array Value) (ro : Option Addr) (L : List Wl) (a b c : Nat) (wr : World) : Prop :=
  HeldB wr w.heap.size 47 C ∧ HeldB wr (w.heap.size + 1) 103 (mtC 0 0 0) ∧ HeldB wr (w.heap.size + 2) 103 (mtC a b c) ∧ CellsAt wr ro (wlsC L) ∧ Below w.heap.size w wr ∧ w.heap.size + 3 ≤ wr.heap.size
theorem MtSt.below {w : World} {C : Array Value} {ro : Option Addr} {L : List Wl} {a b c : Nat} {wr w' : World} (h : MtSt w C ro L a b c wr) (hb : Below wr.heap.size wr w') : MtSt w C ro L a b c w' :=
  ⟨h.1.below hb, h.2.1.below hb, h.2.2.1.below hb, h.2.2.2.1.below hb, below_step h.2.2.2.2.1 h.2.2.2.2.1.size hb, Nat.le_trans h.2.2.2.2.2 hb.size⟩
theorem MtSt.grown {w : World} {C : Array Value} {ro : Option Addr} {L : List Wl} {a b c : Nat} {wr w' : World} (h : MtSt w C ro L a b c wr) {k : Nat} (hg : wr.grownBy w' (some k)) (hk : w.heap.size + 3 ≤ k) (hro : ∀ x, ro = some x → x.block ≠ k) : MtSt w C ro L a b c w' :=
  ⟨h.1.kept hg (by simp; omega), h.2.1.kept hg (by simp; omega), h.2.2.1.kept hg (by simp; omega), h.2.2.2.1.grown hg (fun x hx => by have := hro x hx; simpa using this), h.2.2.2.2.1.trans (below_of_grownBy hg h.2.2.2.2.1.size (fun j hj => by simp at hj; omega)), Nat.le_trans h.2.2.2.2.2 hg.size⟩
theorem MtSt.set {w : World} {C : Array Value} {ro : Option Addr} {L : List Wl} {a b c a' b' c' : Nat} {wr : World} (h : MtSt w C ro L a b c wr) (k : Nat) (v : Value) (hro : ∀ x, ro = some x → w.heap.size + 3 ≤ x.block) (he : (mtC a b c).setIfInBounds k v = mtC a' b' c') :
    MtSt w C ro L a' b' c' (wr.setCell ⟨w.heap.size + 2, k, none⟩ v) :=
  ⟨h.1.other (by simp) _, h.2.1.other (by simp) _, (h.2.2.1.set k v).eq he, h.2.2.2.1.setOther (fun x hx => by have := hro x hx; simp; omega) _, h.2.2.2.2.1.setCell (by simp) _, by simp; exact h.2.2.2.2.2⟩

/-- meetings, handed back -/
theorem results_mt {fn : Func} {p : Tmp} (h : fn.results = #[.cell p 103]) {tmps : Array Value} {w : World} {B : Nat} {a b c : Nat}
    (hp : tmps.getD p undef = .pointer (some ⟨B, 0, none⟩)) (hB : HeldB w B 103 (mtC a b c)) :
    (results fn tmps).run Try.prog w = .ok (.agg (mtC a b c)) w :=
  results_cell_row h tmps w B 103 (mtC a b c) (0, 0) _ (by rw [hp]) hB Try.underlying103 rfl (mt_size a b c)

def crossG (h wd : Nat) (g : Nat → Nat → Nat) : Nat := ptsAll.countP fun x => decide (((wallsG h wd g).flatMap innW).count x = 2)
def teeG (h wd : Nat) (g : Nat → Nat → Nat) : Nat := ptsAll.countP fun x => decide (0 < ((wallsG h wd g).flatMap endW).count x) && !outB h wd x
def endG (h wd : Nat) (g : Nat → Nat → Nat) : Nat := ptsAll.countP fun x => decide (0 < ((wallsG h wd g).flatMap endW).count x) && outB h wd x
theorem cross_done (h wd : Nat) (g : Nat → Nat → Nat) : (ptsAll.countP fun x => decide (0 < ((wallsG h wd g).flatMap innW).count x) && decide (((wallsG h wd g).flatMap innW).count x = 2)) = crossG h wd g := by
  unfold crossG
  refine List.countP_congr fun x _ => ?_
  by_cases h2 : ((wallsG h wd g).flatMap innW).count x = 2
  · rw [h2]; simp
  · rw [decide_eq_false h2]; simp
theorem wallsG_fit {h wd : Nat} {g : Nat → Nat → Nat} (hh : h ≤ 6) (hw : wd ≤ 6) : ∀ X ∈ wallsG h wd g, 1 ≤ X.long ∧ X.first + X.long ≤ 6 ∧ X.line ≤ 6 := fun X hX => by
  obtain ⟨_, _, c, d, e, _⟩ := wallsG_mem hX
  unfold acrossN at c
  unfold alongN at e
  refine ⟨d, ?_, ?_⟩
  · split at e <;> omega
  · split at c <;> omega

set_option maxRecDepth 100000 in
set_option maxHeartbeats 4000000 in
theorem meetings_any (h wd r : Nat) (g : Nat → Nat → Nat) (w : World) (hh : h ≤ 6) (hw : wd ≤ 6) :
    Calls Try.prog 68 #[.agg (planC h wd r g)] w
      fun e w' => e = .returned (.agg (mtC (crossG h wd g) (teeG h wd g) (endG h wd g))) ∧ Below w.heap.size w w' := by
  have HWA := Lib.hid (fun w => walls_any h wd r g w hh hw)
  have HOU := Lib.hid (fun x w => isOutline_any h wd r g x w)
  have HPS := Lib.hid (plan_size h wd r g)
  have HLE := Lib.hid (wallsG_len (g := g) hh hw)
  have HFIT := Lib.hid (wallsG_fit (g := g) hh hw)
  have HGI := Lib.hid (fun b M0 ro rc w a c d => gather_inner_any b M0 ro rc (wallsG h wd g) w a c d (wallsG_len hh hw) (wallsG_fit hh hw))
  have HGE := Lib.hid (fun b M0 ro rc w a c d => gather_ends_any b M0 ro rc (wallsG h wd g) w a c d (wallsG_len hh hw) (wallsG_fit hh hw))
  have HC1 := Lib.hid (cross_done h wd g)
  have hmm := @run_makeMap Try.prog
  unfold teeG endG
  generalize crossG h wd g = cr at *
  generalize (wallsG h wd g).flatMap innW = MI at *
  generalize (wallsG h wd g).flatMap endW = ME at *
  generalize wallsG h wd g = L at *
  generalize outB h wd = q at *
  generalize planC h wd r g = C at *
  go_enter Try.func68, Try.ntmps68
  have b0 : HeldB (((w.alloc (.cells C 47)).alloc (.cells #[.int .i64 0, .int .i64 0, .int .i64 0] 103)).alloc (.cells #[.int .i64 0, .int .i64 0, .int .i64 0] 103)) w.heap.size 47 C := ((HeldB.new w _ _).alloc _).alloc _
  go_wp2_with (first
    | (refine wpList_alloc_zero rfl 103 rfl (mtC 0 0 0) zero_mt ?_)
    | (refine wpList_load_row rfl 47 _ rfl w.heap.size rfl 47 C (0, 0) _ b0 Try.underlying47 rfl HPS.out ?_)
    | (go_at_call 69; refine (HWA.out _).mono ?_; rintro e w2 ⟨ro, rc, rfl, hown2, hb2⟩))
  have hW0 : Below w.heap.size w (((w.alloc (.cells C 47)).alloc (.cells #[.int .i64 0, .int .i64 0, .int .i64 0] 103)).alloc (.cells #[.int .i64 0, .int .i64 0, .int .i64 0] 103)) := (((Below.refl _ w).alloc (Nat.le_refl _) _).alloc (by simp) _).alloc (by simp; omega) _
  have b1 : HeldB (((w.alloc (.cells C 47)).alloc (.cells #[.int .i64 0, .int .i64 0, .int .i64 0] 103)).alloc (.cells #[.int .i64 0, .int .i64 0, .int .i64 0] 103)) (w.heap.size + 1) 103 (mtC 0 0 0) := by
    have := (HeldB.new (w.alloc (.cells C 47)) 103 (mtC 0 0 0)).alloc (.cells #[.int .i64 0, .int .i64 0, .int .i64 0] 103)
    rwa [World.size_alloc] at this
  have b2 : HeldB (((w.alloc (.cells C 47)).alloc (.cells #[.int .i64 0, .int .i64 0, .int .i64 0] 103)).alloc (.cells #[.int .i64 0, .int .i64 0, .int .i64 0] 103)) (w.heap.size + 2) 103 (mtC 0 0 0) := by
    have := HeldB.new ((w.alloc (.cells C 47)).alloc (.cells #[.int .i64 0, .int .i64 0, .int .i64 0] 103)) 103 (mtC 0 0 0)
    rwa [World.size_alloc, World.size_alloc] at this
  have hsz : (((w.alloc (.cells C 47)).alloc (.cells #[.int .i64 0, .int .i64 0, .int .i64 0] 103)).alloc (.cells #[.int .i64 0, .int .i64 0, .int .i64 0] 103)).heap.size = w.heap.size + 3 := by simp
  generalize (((w.alloc (.cells C 47)).alloc (.cells #[.int .i64 0, .int .i64 0, .int .i64 0] 103)).alloc (.cells #[.int .i64 0, .int .i64 0, .int .i64 0] 103)) = W0 at *
  have hro : ∀ x, ro = some x → w.heap.size + 3 ≤ x.block ∧ x.block < w2.heap.size := fun x hx => by have := owns_lt hown2 x hx; omega
  have hs2 : w.heap.size + 3 ≤ w2.heap.size := by have := hb2.size; omega
  have st2 : MtSt w C ro L 0 0 0 w2 := ⟨b0.below hb2, b1.below hb2, b2.below hb2, ownsK_cells hown2, below_step hW0 hW0.size hb2, hs2⟩
  have st3 := st2.below (below_alloc w2 (.map #[] 0))
  have hm3 := CntMap.made w2
  clear hsz
  clear hW0 b0 b1 b2 hown2 hb2 st2
  have HW2 := Lib.hid (show (w2.alloc (.map #[] 0)).heap.size = w2.heap.size + 1 by simp)
  generalize w2.alloc (.map #[] 0) = W3 at *
  obtain ⟨b, hb⟩ : ∃ b, b = w2.heap.size := ⟨_, rfl⟩
  rw [← hb] at hro hs2 hm3 HW2 ⊢
  clear hb
  have hc3 := st3.2.2.2.1
  have hrb : ∀ x, ro = some x → x.block ≠ b := fun x hx => by have := hro x hx; omega
  have ST3 := Lib.hid st3
  clear st3
  go_wp2_with (first
    | (go_at_call 95; refine (HGI.out b [] ro rc _ hm3 hc3 hrb).mono ?_; rintro e w4 ⟨rfl, hm4, hg4⟩; obtain ⟨hin4, D, hown4, hcnt4⟩ := hm4)
    | (at_range; refine wpList_range_own _ rfl _ 142 rfl 147 3 point_keyed Try.mapPt _ b MI.length D rfl hown4 ?_; intro w5 hrg5 hg5 hs5))
  go_frame
  have st5 := ((ST3.out.grown hg4 (by omega) hrb).below (below_of_grownBy hg5 (Nat.le_refl _) (by simp)))
  have hs4 : b + 1 ≤ w4.heap.size := by have := hg4.size; have := HW2.out; omega
  have hd0 := doneC_start (q := fun x => decide (MI.count x = 2)) hcnt4
  have HRG5 := Lib.hid hrg5
  have HCN := Lib.hid hcnt4
  have HIN := Lib.hid hin4
  have HRB := Lib.hid hrb
  have HRO := Lib.hid hro
  have HHL := Lib.hid (show ∀ kl, Maps.has D kl = true → Maps.has D kl = true from fun _ h => h)
  have HD0 := Lib.hid hd0
  clear hrg5 hcnt4 hin4 hg5 hs5 hg4 hown4 hm3 hc3 hrb ST3 hro hd0
  obtain ⟨r, hr⟩ : ∃ r, r = w4.heap.size := ⟨_, rfl⟩
  rw [← hr] at HRG5 hs4 ⊢
  clear hr
  go_loopw [7] (fun _ wr => ∃ left cnt, Hid (wr.ranges Try.prog 147 (plainElem Try.prog 3) b r MI.length D left cnt) ∧ Hid (∀ kl, left kl = true → Maps.has D kl = true) ∧ MtSt w C ro L (doneC (fun x => decide (MI.count x = 2)) MI left) 0 0 wr) (fun _ wr => wr.rangeLeft b r)
  case atStart => exact ⟨_, _, HRG5, HHL, by rw [HD0.out]; exact st5⟩
  case round =>
    clear HRG5 HHL HD0 st5
    obtain ⟨left, cnt, HRG, HHL, st⟩ := hrel
    have hrr : r < wr.heap.size := HRG.out.lt
    have hdl : doneC (fun x => decide (MI.count x = 2)) MI left ≤ 49 := Nat.le_trans List.countP_le_length (by decide +kernel)
    have HDE := Lib.hid (fun h => doneC_end (q := fun x => decide (MI.count x = 2)) (M := MI) (left := left) h)
    have HDS := Lib.hid (fun x (hx : x ∈ MI) hl => doneC_step (q := fun x => decide (MI.count x = 2)) (M := MI) (left := left) (x := x) (HIN.out x hx) (List.count_pos_iff.2 hx) hl)
    have k0 : wr.cell? ⟨w.heap.size + 2, 0, none⟩ = some (.int .i64 (doneC (fun x => decide (MI.count x = 2)) MI left : Nat)) := st.2.2.1.cell 0
    have hro3 : ∀ x, ro = some x → w.heap.size + 3 ≤ x.block := fun x hx => (HRO.out x hx).1
    have hror : ∀ x, ro = some x → x.block ≠ r := fun x hx => by have := (HRO.out x hx).2; omega
    have HH3 := Lib.hid hro3
    have HHR := Lib.hid hror
    clear hro3 hror
    generalize hn : doneC (fun x => decide (MI.count x = 2)) MI left = n at *
    have HN := Lib.hid hn
    clear hn
    go_wp2_with (at_next; refine wpList_next_pt _ rfl _ rfl b r MI.length D left cnt MI (fun x => decide (MI.count x = 2)) HIN.out HCN.out HHL.out rfl HRG.out (fun hdone => ?_) (fun x w6 cnt6 hx hl hq hrg6 hlt6 hg6 hen => have st6 := st.grown hg6 (by omega) HHR.out; have k6 : w6.cell? ⟨w.heap.size + 1 + 1, 0, none⟩ = some (.int .i64 (n : Nat)) := st6.2.2.1.cell 0; have f6 : w6.frozen? ⟨w.heap.size + 1 + 1, 0, none⟩ = false := st6.2.2.1.frozen 0; have hd : (((MI.count x : Nat) : Int) == 2) = true := (by have := of_decide_eq_true hq; rw [beq_iff_eq]; omega); ?_) (fun x w6 cnt6 hx hl hq hrg6 hlt6 hg6 hen => have st6 := st.grown hg6 (by omega) HHR.out; have k6 : w6.cell? ⟨w.heap.size + 1 + 1, 0, none⟩ = some (.int .i64 (n : Nat)) := st6.2.2.1.cell 0; have f6 : w6.frozen? ⟨w.heap.size + 1 + 1, 0, none⟩ = false := st6.2.2.1.frozen 0; have hd : (((MI.count x : Nat) : Int) == 2) = false := (by have := of_decide_eq_false hq; rw [beq_eq_false_iff_ne]; omega); ?_))
    rotate_left 1
    · -- counted
      have HS := Lib.hid (show doneC (fun x => decide (MI.count x = 2)) MI (fun z => left z && !z.sameKey (ptL x)) = n + 1 by rw [HDS.out x hx hl, if_pos hq])
      have HH6 := Lib.hid (fun kl (h : (left kl && !kl.sameKey (ptL x)) = true) => HHL.out kl (by rw [Bool.and_eq_true] at h; exact h.1))
      have hrg7 := hrg6.kept (gb_setCell w6 (w.heap.size + 1 + 1) 0 (.int .i64 ((n : Int) + 1))) (by simp; omega) (by simp; omega)
      go_roundw
      case rel => exact ⟨_, cnt6, Lib.hid hrg7, HH6, by rw [HS.out]; exact st6.set 0 _ HH3.out rfl⟩
      case measure => rw [hrg7.left_eq, HRG.out.left_eq]; omega
    · have HS := Lib.hid (show doneC (fun x => decide (MI.count x = 2)) MI (fun z => left z && !z.sameKey (ptL x)) = n by rw [HDS.out x hx hl, if_neg (by rw [hq]; decide)]; rfl)
      have HH6 := Lib.hid (fun kl (h : (left kl && !kl.sameKey (ptL x)) = true) => HHL.out kl (by rw [Bool.and_eq_true] at h; exact h.1))
      go_roundw
      case rel => exact ⟨_, cnt6, Lib.hid hrg6, HH6, by rw [HS.out]; exact st6⟩
      case measure => rw [hrg6.left_eq, HRG.out.left_eq]; omega
    have hdn := HDE.out hdone
    rw [HC1.out] at hdn
    subst hdn
    have hin5 : CntMap wr b MI := ⟨HIN.out, D, HRG.out.owns, HCN.out⟩
    have hc5 := st.2.2.2.1
    have hrb5 := HRB.out
    have ST5 := Lib.hid st
    clear HRG HHL HDE HDS k0 HN HHR HCN HIN hdl hrr st hs4
    clear hdone
    go_wp2_with (first
      | (go_at_call 95; refine (HGE.out b MI ro rc _ hin5 hc5 hrb5).mono ?_; rintro e w7 ⟨rfl, hm7, hg7⟩; obtain ⟨hin7, D2, hown7, hcnt7⟩ := hm7)
      | (at_range; refine wpList_range_own _ rfl _ 142 rfl 147 3 point_keyed Try.mapPt _ b ME.length D2 rfl hown7 ?_; intro w8 hrg8 hg8 hs8))
    go_frame
    have st8 := ((ST5.out.grown hg7 (by omega) hrb5).below (below_of_grownBy hg8 (Nat.le_refl _) (by simp)))
    have hs7 : b + 1 ≤ w7.heap.size := by have := hin5.lt; have := hg7.size; omega
    have HD1 := Lib.hid (doneC_start (q := fun x => !q x) hcnt7)
    have HD2 := Lib.hid (doneC_start (q := q) hcnt7)
    have HRG8 := Lib.hid hrg8
    have HCN := Lib.hid hcnt7
    have HIN := Lib.hid hin7
    have HHL := Lib.hid (show ∀ kl, Maps.has D2 kl = true → Maps.has D2 kl = true from fun _ h => h)
    clear hrg8 hcnt7 hin7 hg8 hs8 hg7 hown7 hc5 hrb5 ST5 hin5
    obtain ⟨r, hr⟩ : ∃ r, r = w7.heap.size := ⟨_, rfl⟩
    rw [← hr] at HRG8 hs7 ⊢
    clear hr
    go_loopw [8] (fun _ wr => ∃ left cnt, Hid (wr.ranges Try.prog 147 (plainElem Try.prog 3) b r ME.length D2 left cnt) ∧ Hid (∀ kl, left kl = true → Maps.has D2 kl = true) ∧ MtSt w C ro L n (doneC (fun x => !q x) ME left) (doneC q ME left) wr) (fun _ wr => wr.rangeLeft b r)
    case atStart => exact ⟨_, _, HRG8, HHL, by rw [HD1.out, HD2.out]; exact st8⟩
    case round =>
      clear HRG8 HHL HD1 HD2 st8
      obtain ⟨left, cnt, HRG, HHL, st⟩ := hrel
      have hdl1 : doneC (fun x => !q x) ME left ≤ 49 := Nat.le_trans List.countP_le_length (by decide +kernel)
      have hdl2 : doneC q ME left ≤ 49 := Nat.le_trans List.countP_le_length (by decide +kernel)
      have HDE1 := Lib.hid (fun h => doneC_end (q := fun x => !q x) (M := ME) (left := left) h)
      have HDE2 := Lib.hid (fun h => doneC_end (q := q) (M := ME) (left := left) h)
      have HDS1 := Lib.hid (fun x (hx : x ∈ ME) hl => doneC_step (q := fun x => !q x) (M := ME) (left := left) (x := x) (HIN.out x hx) (List.count_pos_iff.2 hx) hl)
      have HDS2 := Lib.hid (fun x (hx : x ∈ ME) hl => doneC_step (q := q) (M := ME) (left := left) (x := x) (HIN.out x hx) (List.count_pos_iff.2 hx) hl)
      have HH3 := Lib.hid (show ∀ x, ro = some x → w.heap.size + 3 ≤ x.block from fun x hx => (HRO.out x hx).1)
      have HHR := Lib.hid (show ∀ x, ro = some x → x.block ≠ r from fun x hx => by have := (HRO.out x hx).2; omega)
      generalize doneC (fun x => !q x) ME left = n1 at *
      generalize doneC q ME left = n2 at *
      have bR := st.2.2.1
      have bS := st.2.1
      go_wp2_with (first
        | (at_next; refine wpList_next_pt _ rfl _ rfl b r ME.length D2 left cnt ME q HIN.out HCN.out HHL.out rfl HRG.out (fun hdone => ?_) (fun x w6 cnt6 hx hl hq hrg6 hlt6 hg6 hen => have st6 := st.grown hg6 (by omega) HHR.out; have b6 := st6.1.alloc (.cells (ptC x) 147); ?_) (fun x w6 cnt6 hx hl hq hrg6 hlt6 hg6 hen => have st6 := st.grown hg6 (by omega) HHR.out; have b6 := st6.1.alloc (.cells (ptC x) 147); ?_))
        | (refine wpList_store_new rfl 147 _ _ rfl _ (ptC (0, 0)) (ptC x) rfl rfl rfl (pt_size _) rfl (ptC_one _) ?_)
        | (refine wpList_load_row rfl 47 _ rfl w.heap.size rfl 47 C (0, 0) _ b6 Try.underlying47 rfl HPS.out ?_)
        | (refine wpList_load_row rfl 147 _ rfl w6.heap.size rfl 147 (ptC x) (0, 0) _ (HeldB.new w6 _ _) Try.underlying147 rfl (pt_size _) ?_)
        | (refine wpList_load_row rfl 103 _ rfl (w.heap.size + 1 + 1) rfl 103 (mtC n n1 n2) (0, 0) _ bR Try.underlying103 rfl (mt_size _ _ _) ?_)
        | (refine wpList_store_row rfl 103 _ _ rfl (w.heap.size + 1) (mtC n n1 n2) rfl rfl 103 (mtC 0 0 0) bS (mt_size _ _ _) rfl (mtC_one _ _ _) ?_)
        | (go_at_call 98; refine (HOU.out x _).mono ?_; rw [hq]; rintro e w9 ⟨rfl, hb9⟩; have st9 := (st6.below (below_alloc w6 (.cells (ptC x) 147))).below hb9; have k9 : w9.cell? ⟨w.heap.size + 1 + 1, 2, none⟩ = some (.int .i64 (n2 : Nat)) := st9.2.2.1.cell 2; have j9 : w9.cell? ⟨w.heap.size + 1 + 1, 1, none⟩ = some (.int .i64 (n1 : Nat)) := st9.2.2.1.cell 1; have f9 : w9.frozen? ⟨w.heap.size + 1 + 1, 2, none⟩ = false := st9.2.2.1.frozen 2; have g9 : w9.frozen? ⟨w.heap.size + 1 + 1, 1, none⟩ = false := st9.2.2.1.frozen 1))
      rotate_left 1
      · -- an end at the outline
        have HS1 := Lib.hid (show doneC (fun x => !q x) ME (fun z => left z && !z.sameKey (ptL x)) = n1 by rw [HDS1.out x hx hl, if_neg (by rw [hq]; decide)]; rfl)
        have HS2 := Lib.hid (show doneC q ME (fun z => left z && !z.sameKey (ptL x)) = n2 + 1 by rw [HDS2.out x hx hl, if_pos hq])
        have HH6 := Lib.hid (fun kl (h : (left kl && !kl.sameKey (ptL x)) = true) => HHL.out kl (by rw [Bool.and_eq_true] at h; exact h.1))
        have hrg7 := ((hrg6.alloc (.cells (ptC x) 147)).kept (grownBy_of_below hb9 none) (by simp) (by simp)).kept (gb_setCell w9 (w.heap.size + 1 + 1) 2 (.int .i64 ((n2 : Int) + 1))) (by simp; omega) (by simp; omega)
        go_roundw
        case rel => exact ⟨_, cnt6, Lib.hid hrg7, HH6, by rw [HS1.out, HS2.out]; exact st9.set 2 _ HH3.out rfl⟩
        case measure => rw [hrg7.left_eq, HRG.out.left_eq]; omega
      · have HS1 := Lib.hid (show doneC (fun x => !q x) ME (fun z => left z && !z.sameKey (ptL x)) = n1 + 1 by rw [HDS1.out x hx hl, if_pos (by rw [hq]; rfl)])
        have HS2 := Lib.hid (show doneC q ME (fun z => left z && !z.sameKey (ptL x)) = n2 by rw [HDS2.out x hx hl, if_neg (by rw [hq]; decide)]; rfl)
        have HH6 := Lib.hid (fun kl (h : (left kl && !kl.sameKey (ptL x)) = true) => HHL.out kl (by rw [Bool.and_eq_true] at h; exact h.1))
        have hrg7 := ((hrg6.alloc (.cells (ptC x) 147)).kept (grownBy_of_below hb9 none) (by simp) (by simp)).kept (gb_setCell w9 (w.heap.size + 1 + 1) 1 (.int .i64 ((n1 : Int) + 1))) (by simp; omega) (by simp; omega)
        go_roundw
        case rel => exact ⟨_, cnt6, Lib.hid hrg7, HH6, by rw [HS1.out, HS2.out]; exact st9.set 1 _ HH3.out rfl⟩
        case measure => rw [hrg7.left_eq, HRG.out.left_eq]; omega
      have e1 := HDE1.out hdone
      have e2 := HDE2.out hdone
      refine bodyPost_ret (v := .agg (mtC n n1 n2)) (results_mt Try.results68 rfl (bS.setRow _)) rfl ⟨by rw [← e1, ← e2], ?_⟩
      exact below_setRowB st.2.2.2.2.1 (by omega) _

theorem meet_cross (p : List ByteArray) : crossG (planH p) (planW p) (planG p) = meetN p 4 := crossC_meet p
end Go.Proofs.Ytpgcpmfemcfoaaa
