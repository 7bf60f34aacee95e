
/-
  Merged texts: Fence Areas.
-/
import Derived.Test.YtpgcpmfemcfoaaaImplDE
import Derived.Test.YtpgcpmfemcfoaaaRow
import Derived.Test.YtpgcpmfemcfoaaaNums
import Derived.Test.YtpgcpmfemcfoaaaRoomA
import Derived.Test.YtpgcpmfemcfoaaaTightS
import Derived.Test.YtpgcpmfemcfoaaaImplK
import Derived.Test.YtpgcpmfemcfoaaaWideA
import Derived.Test.YtpgcpmfemcfoaaaRoomsA
import Derived.RangeFuncBox
import Derived.BigQuiet

/-
  Single operations inside a fence, and inside a fence's region that draws its order.
-/
namespace Go.Proofs.Ytpgcpmfemcfoaaa
open Go.RowKit Go.Shelf

variable {F : Fence} {n : Nat} {P : Program} {ops : Array Oper} {rest : List Oper} {o : Oper} {a : Act} {w w' : World} {Q : Exit → Act → World → Prop}

theorem wpListIn_alloc_zero (hgd : o.guard = none) (t : TypeId) (ho : o.op = .alloc t) (Z : Array Value) (hz : ∀ w, (zeroValue t).run P w = .ok (.agg Z) w)
    (h : wpListIn F n P ops Q rest (a.put o.dst (.pointer (some ⟨w.heap.size, 0, none⟩))) (w.alloc (.cells Z t))) : wpListIn F n P ops Q (o :: rest) a w := by
  refine wpListIn_plain hgd fun K hK' => ?_
  unfold Oper.wpIn
  refine ⟨?_, ?_⟩
  · simp [Oper.about, ho]
  · rw [Oper.semAt_plain F _ _ (by rw [ho]; intro c hc'; cases hc')]
    simp [execOp, ho, Instr.alloc, hz, newVar, newRow, Result.andThen, Value.cells]
    exact hK' _ _ h

theorem wpListIn_store_row (hgd : o.guard = none) (ty : TypeId) (x y : Operand) (ho : o.op = .store ty x y)
    (g : Nat) (cells : Array Value) (hx : a.eval x = .pointer (some ⟨g, 0, none⟩)) (hy : a.eval y = .agg cells)
    (t : TypeId) (old : Array Value) (hg : w.heap[g]? = some (.cells old t (0, 0))) (hi : (P.info? ty).map (·.size) = some cells.size)
    (hold : old.size = cells.size) (h1 : cells.all (·.oneCell') = true)
    (h : wpListIn F n P ops Q rest (a.put o.dst undef) (w.setRow g cells)) : wpListIn F n P ops Q (o :: rest) a w := by
  refine wpListIn_plain hgd fun K hK' => ?_
  unfold Oper.wpIn
  refine ⟨?_, ?_⟩
  · simp [Oper.about, ho]
  · rw [Oper.semAt_plain F _ _ (by rw [ho]; intro c hc'; cases hc')]
    have hr := run_storeVar_row (P := P) w g t ty old cells hg hi hold h1
    unfold execOp
    simp only [ho, hx, hy, Instr.storeAt, Instr.sureAddr, Sem.run_bind, Sem.run_pure, Result.andThen_ok, hr]
    exact hK' _ _ h

theorem wpListIn_store_new (hgd : o.guard = none) (ty : TypeId) (x y : Operand) (ho : o.op = .store ty x y) (W : World) (Z C : Array Value) (hw : w = W.alloc (.cells Z ty))
    (hx : a.eval x = .pointer (some ⟨W.heap.size, 0, none⟩)) (hy : a.eval y = .agg C) (hi : (P.info? ty).map (·.size) = some C.size) (hold : Z.size = C.size) (h1 : C.all (·.oneCell') = true)
    (h : wpListIn F n P ops Q rest (a.put o.dst undef) (W.alloc (.cells C ty))) : wpListIn F n P ops Q (o :: rest) a w := by
  subst hw
  refine wpListIn_store_row hgd ty x y ho W.heap.size C hx hy ty Z (HeldB.new W ty Z) hi hold h1 ?_
  rw [setRow_alloc]
  exact h

/-- append of one element, in whatever world, as one operation -/
theorem wpIn_push {K : Act → World → Prop} (s x : Operand) (t : TypeId) (ho : o.op = .call { callee := .builtin .append, args := #[s, x], argTypes := #[t, t] })
    (base : Nat) (e : TypeId) (i : TypeInfo) (z : Value) (bytes : Nat) (ht : P.underlying t = some (.slice e)) (hi : P.info? e = some i) (hz : i.zero = some z)
    (hsize : i.size = 1) (hby : i.bytes = bytes) (hzs : z.cells.size = 1) (ao : Option Addr) (m cap : Nat) (xs : List Value) (hs : a.eval s = .slice ao m cap) (hown : w.ownsRow base e 1 (.slice ao m cap) m xs)
    (u : Value) (g c : Nat) (hx : a.eval x = .slice (some ⟨g, 0, none⟩) 1 c) (hu : w.cell? ⟨g, 0, none⟩ = some u) (h1 : u.oneCell' = true) (h63 : m + 1 ≤ maxLen) (hbytes : (m + 1) * bytes ≤ 140737488355328) (hbase : base ≤ w.heap.size)
    (h : ∀ ao' cap' w', w'.ownsRow base e 1 (.slice ao' (m + 1) cap') (m + 1) (xs ++ [u]) → w.grownBy w' (Value.ownBlock (.slice ao m cap)) → NewOr w ao ao' → K (a.put o.dst (.slice ao' (m + 1) cap')) w') : o.wpIn F n P a w K Q := by
  obtain ⟨ao', cap', w', hrun, r1, r2, r3⟩ := run_push (P := P) w base t o.type e i z bytes ht hi hz hsize hby hzs ao m cap xs hown u g c hu h1 h63 hbytes hbase
  unfold Oper.wpIn
  refine ⟨?_, ?_⟩
  · simp [Oper.about, ho, resolve, Target.leads, Sem.run_pure]
  · rw [Oper.semAt_plain F _ _ (by rw [ho]; intro c hc'; cases hc')]
    simp [execOp, ho, resolve, invoke, builtin, hs, hx, hrun, Result.andThen]
    exact h ao' cap' w' r1 r2 r3

end Go.Proofs.Ytpgcpmfemcfoaaa

/-
  Merged texts: AreasS AreasI AreasA SumM.
-/
/-
  The numbers of cells of rooms: the model's answer. (Walk.)
-/
namespace Go.Proofs.Ytpgcpmfemcfoaaa
open Go.RowKit

/-- the numbers of cells of so many rooms -/
def areasL (p : List ByteArray) (n : Nat) : List Int := (List.range n).map fun r : Nat => cellsB p (r : Int)
def areasOr (p : List ByteArray) : List Int := if planB p then areasL p (roomsB p).toNat else []
theorem areasOr_yes {p : List ByteArray} (h : planB p = true) : areasOr p = areasL p (roomsB p).toNat := by unfold areasOr; rw [h]; rfl
theorem areasOr_no {p : List ByteArray} (h : planB p = false) : areasOr p = [] := by unfold areasOr; rw [h]; rfl
theorem areasL_len (p : List ByteArray) (n : Nat) : (areasL p n).length = n := by simp [areasL]
theorem areasL_succ (p : List ByteArray) (n : Nat) : (areasL p (n + 1)).map (Value.int .i64) = (areasL p n).map (Value.int .i64) ++ [.int .i64 (cellsB p (n : Int))] := by simp [areasL, List.range_succ]

end Go.Proofs.Ytpgcpmfemcfoaaa

/-
  The numbers of cells of rooms: the program's answer. (Walk inside a fence.)
-/
namespace Go.Proofs.Ytpgcpmfemcfoaaa
open Go.RowKit Go.Shelf

attribute [local go_sem] Oper.semAt_some

/-- the areas of boxes -/
def areaL (L : List Bx) : List Int := L.map fun x => ((x.high * x.wide : Nat) : Int)
def areaV (L : List Bx) : List Value := (areaL L).map (Value.int .i64)
theorem areaV_snoc (L : List Bx) (x : Bx) : areaV (L ++ [x]) = areaV L ++ [.int .i64 ((x.high * x.wide : Nat) : Int)] := by simp [areaV, areaL]
theorem areaL_len (L : List Bx) : (areaL L).length = L.length := by simp [areaL]

theorem heldB_not_row {W : World} {B : Nat} {t e : TypeId} {cs : Array Value} (h : HeldB W B t cs) (hte : t ≠ e) {base size k : Nat} {v : Value} {xs : List Value} (hr : W.ownsRow base e size v k xs) : some B ≠ v.ownBlock := by
  rcases hr.2 with ⟨rfl, _⟩ | ⟨g, cap, cur, rfl, _, hgb, _⟩
  · simp [Value.ownBlock]
  · intro e'
    obtain rfl : B = g := by simpa [Value.ownBlock] using e'
    have := (show W.heap[B]? = _ from h).symm.trans hgb
    simp at this
    exact hte this.2

end Go.Proofs.Ytpgcpmfemcfoaaa

/-
  The numbers of cells of rooms: the program's answer is the model's. (Walk inside a fence.)
-/
namespace Go.Proofs.Ytpgcpmfemcfoaaa
open Go.RowKit Go.Shelf

attribute [local go_sem] Oper.semAt_some

theorem areas_math {p : List ByteArray} (h : planB p = true) : areasOr p = areaL (scanB p.length (wideB p) (gridG p) (p.length * wideB p)) := by
  have hp := planP_of h
  obtain ⟨hlen, hbox⟩ := hp.boxes
  rw [areasOr_yes h, hp.rooms, Int.toNat_natCast]
  generalize scanB p.length (wideB p) (gridG p) (p.length * wideB p) = L at *
  apply List.ext_getElem
  · rw [areasL_len, areaL_len, hlen]
  · intro r h1 h2
    rw [areasL_len] at h1
    rw [areaL_len] at h2
    obtain ⟨x, hL, hx⟩ := hbox r h1
    have he : L[r] = x := by rw [List.getElem?_eq_getElem h2] at hL; exact Option.some.inj hL
    have e1 : (areasL p (gridR p))[r]'(by rw [areasL_len]; exact h1) = cellsB p (r : Int) := by simp [areasL]
    have e2 : (areaL L)[r]'(by rw [areaL_len]; exact h2) = ((L[r].high * L[r].wide : Nat) : Int) := by simp [areaL]
    rw [e1, e2, he]
    exact cellsB_box hp hx

theorem areas_few (p : List ByteArray) : (areasOr p).length ≤ 1048576 := by
  cases hp : planB p
  · rw [areasOr_no hp]; exact Nat.zero_le _
  · rw [areas_math hp, areaL_len]
    have := scanB_len p.length (wideB p) (gridG p) (p.length * wideB p)
    have hg := (planP_of hp).grid
    have := Nat.mul_le_mul hg.h6 hg.w6
    omega

end Go.Proofs.Ytpgcpmfemcfoaaa

/-
  Areas fill the plan; a list of numbers is added up. (Mathematics and a walk.)
-/
namespace Go.Proofs.Ytpgcpmfemcfoaaa
open Go.RowKit

theorem sum_range (f : Nat → Nat) : ∀ n, ((List.range n).map fun r => ((f r : Nat) : Int)).sum = ((sumN n f : Nat) : Int)
  | 0 => rfl
  | n + 1 => by rw [List.range_succ, List.map_append, List.sum_append, sum_range f n]; simp [sumN]
theorem cnt_total {h wd R : Nat} {m : Nat → Nat → Nat} (hm : ∀ i j, i < h → j < wd → m i j < R) : sumN R (fun r => cntG h wd (fun i j => m i j == r)) = h * wd := by
  unfold cntG
  rw [sumN_comm]
  rw [sumN_congr (g := fun _ => wd) fun i hi => ?_, sumN_const]
  rw [sumN_comm]
  rw [sumN_congr (g := fun _ => 1) fun j hj => ?_, sumN_const, Nat.mul_one]
  refine (sumN_congr fun r _ => ?_).trans (sumN_pick R (m i j) (hm i j hi hj))
  by_cases he : m i j = r
  · rw [if_pos he, if_pos (by simp [he])]
  · rw [if_neg he, if_neg (by simp [he])]
theorem areas_cnt {p : List ByteArray} (h : planB p = true) : areasOr p = (List.range (gridR p)).map fun r => ((cntG p.length (wideB p) (fun i j => markN p i j == r) : Nat) : Int) := by
  have hP := planP_of h
  rw [areasOr_yes h, hP.rooms, Int.toNat_natCast]
  unfold areasL
  exact List.map_congr_left fun r _ => cellsB_eq hP.grid r
theorem areas_sum {p : List ByteArray} (h : planB p = true) : (areasOr p).sum = ((p.length * wideB p : Nat) : Int) := by
  rw [areas_cnt h, sum_range, cnt_total fun i j hi hj => (planP_of h).lt hi hj]
theorem areas_len {p : List ByteArray} (h : planB p = true) : ((areasOr p).length : Int) = roomsOr p ∧ 1 ≤ roomsOr p ∧ (areasOr p).length ≤ 9 := by
  have hP := planP_of h
  have h1 := hP.grid.h1; have w1 := hP.grid.w1
  have := gridG_lt (p := p) (i := 0) (j := 0) (by omega) (by omega)
  have := hP.few
  rw [roomsOr_yes h, areasOr_yes h, areasL_len, hP.rooms, Int.toNat_natCast]
  omega
theorem areas_bound {p : List ByteArray} (h : planB p = true) : ∀ x ∈ areasOr p, 1 ≤ x ∧ x ≤ 36 := fun x hx => by
  have hP := planP_of h
  have := hP.grid.h6; have := hP.grid.w6
  rw [areas_math h] at hx
  obtain ⟨hlen, hbox⟩ := hP.boxes
  unfold areaL at hx
  rw [List.mem_map] at hx
  obtain ⟨b, hb, rfl⟩ := hx
  obtain ⟨k, hk, rfl⟩ := List.mem_iff_getElem.1 hb
  obtain ⟨y, hy, hbx⟩ := hbox k (by omega)
  rw [List.getElem?_eq_getElem hk] at hy
  obtain rfl := Option.some.inj hy
  obtain ⟨_, a1, a2, a3, a4, _⟩ := hbx
  have e1 : 1 * 1 ≤ _ * _ := Nat.mul_le_mul a1 a2
  have e2 : _ * _ ≤ 6 * 6 := Nat.mul_le_mul (show ((scanB p.length (wideB p) (gridG p) (p.length * wideB p))[k]).high ≤ 6 by omega) (show ((scanB p.length (wideB p) (gridG p) (p.length * wideB p))[k]).wide ≤ 6 by omega)
  omega

theorem sum_take {l : List Int} {i : Nat} (hi : i < l.length) : (l.take (i + 1)).sum = (l.take i).sum + l.getD i 0 := by
  rw [take_succ_getD l i 0 hi, List.sum_append]; simp
theorem sum_bound {l : List Int} (hl : ∀ x ∈ l, 0 ≤ x ∧ x ≤ 100) : ∀ i, 0 ≤ (l.take i).sum ∧ (l.take i).sum ≤ 100 * (i : Int)
  | 0 => by simp
  | i + 1 => by
    have ih := sum_bound hl i
    by_cases hi : i < l.length
    · have := hl _ (getD_mem 0 hi)
      rw [sum_take hi]; omega
    · rw [List.take_of_length_le (show l.length ≤ i + 1 by omega)]
      rw [List.take_of_length_le (show l.length ≤ i by omega)] at ih
      omega

end Go.Proofs.Ytpgcpmfemcfoaaa
