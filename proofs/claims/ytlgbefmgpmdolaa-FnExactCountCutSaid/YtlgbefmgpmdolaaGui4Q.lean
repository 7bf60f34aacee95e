/-
  Merged texts: Gui2 GuiK GuiO.
-/
import Derived.Test.YtlgbefmgpmdolaaGui3Q
import Derived.Test.YtlgbefmgpmdolaaSpecWXQ
import Derived.Test.YtlgbefmgpmdolaaListQ
import Derived.Test.YtlgbefmgpmdolaaSideSQ
import Derived.Test.YtlgbefmgpmdolaaRowQ
import Derived.Test.YtlgbefmgpmdolaaLongQ
import Derived.Test.YtlgbefmgpmdolaaAreasQ
import Derived.Deep.MidRow
import Derived.OrdersHeld
import Derived.BigQuiet

/-
  Merged texts: GuiL GuiA GuiB GuiC GuiD.
-/
/-
  Plans that are cut: what the model looks at is a rectangle of the plan. Plain mathematics; no function of the program is named.
-/
namespace Go.Proofs.Ytlgbefmgpmdolaa
open Go.RowKit

/-! # walls from end to end -/
def allB (f : Nat → Bool) (n : Nat) : Bool := (List.range n).all f
theorem allB_iff {f : Nat → Bool} {n : Nat} : allB f n = true ↔ ∀ i, i < n → f i = true := by
  unfold allB; rw [List.all_eq_true]; exact ⟨fun h i hi => h i (List.mem_range.2 hi), fun h i hi => h i (List.mem_range.1 hi)⟩
theorem lineW_all {f : Nat → Bool} {n : Nat} (h : ∀ i, i < n → f i = true) : ∀ t, t ≤ n → 1 ≤ t → lineW f n t = [(0, n)]
  | 0, _, h1 => by omega
  | t + 1, ht, _ => by
    by_cases h0 : t = 0
    · subst h0
      rw [lineW_new (h 0 (by omega)) rfl]
      have := runFrom_eq (f := f) (n := n) (s := 0) (e := n) (by omega) (Nat.le_refl _) (fun i _ hi => h i hi) (fun hx => by omega)
      rw [this]; rfl
    · have hd : downTo f t = 0 := downTo_eq (Nat.zero_le _) (fun i _ hi => h i (by omega)) (fun hx => by omega)
      rw [lineW_on (by omega)]
      exact lineW_all h t (by omega) (by omega)
theorem lineW_whole {f : Nat → Bool} {n : Nat} (hn : 1 ≤ n) : (lineW f n n).filter (fun x => decide (x.2 = n)) = if allB f n = true then [(0, n)] else [] := by
  cases ha : allB f n
  · rw [if_neg (by decide), List.filter_eq_nil_iff]
    intro x hx hh
    rw [decide_eq_true_eq] at hh
    obtain ⟨h1, h2, h3, h4⟩ := lineW_mem hx
    have hle := runFrom_le f n x.1
    have h0 : x.1 = 0 := by omega
    rw [h0] at h4
    have : allB f n = true := allB_iff.2 fun i hi => runFrom_all (n := n) (s := 0) (Nat.zero_le _) (by omega)
    rw [this] at ha; cases ha
  · rw [if_pos rfl, lineW_all (allB_iff.1 ha) n (Nat.le_refl _) hn]
    simp
theorem linesW_full {way : Nat} {F : Nat → Nat → Bool} {n : Nat} (hn : 1 ≤ n) : ∀ k, (linesW way F n k).filter (fun x => decide (x.long = n)) = ((List.range k).filter fun l => decide (1 ≤ l) && allB (F l) n).map fun l => (⟨way, l, 0, n⟩ : Wl)
  | 0 => rfl
  | k + 1 => by
    have ih := linesW_full (way := way) (F := F) hn k
    rw [List.range_succ, List.filter_append, List.map_append, ← ih]
    by_cases h0 : k = 0
    · subst h0; rfl
    · rw [linesW_succ (by omega), List.filter_append]
      congr 1
      rw [List.filter_map]
      have hf := lineW_whole (f := F k) hn
      have he : (fun x : Wl => decide (x.long = n)) ∘ (fun x : Nat × Nat => (⟨way, k, x.1, x.2⟩ : Wl)) = fun x => decide (x.2 = n) := rfl
      rw [he, hf]
      cases ha : allB (F k) n
      · simp [ha]
      · simp [ha, show 1 ≤ k by omega]

/-! # the first of a list -/
theorem head_yes {α : Type} {f : α → Bool} {L : List α} {z : α} {i : Nat} (hi : i < L.length) (h : f (L.getD i z) = true) (hno : ∀ j, j < i → f (L.getD j z) = false) : (L.filter f).head? = some (L.getD i z) := by
  have e : L = L.take i ++ L.getD i z :: L.drop (i + 1) := by
    conv => lhs; rw [← List.take_append_drop i L]
    rw [List.drop_eq_getElem_cons hi]; simp [hi]
  have hn : (L.take i).filter f = [] := by
    rw [List.filter_eq_nil_iff]
    intro x hx hfx
    obtain ⟨j, hj, rfl⟩ := List.mem_iff_getElem.1 hx
    rw [List.length_take] at hj
    have := hno j (by omega)
    rw [List.getElem_take] at hfx
    rw [show L.getD j z = L[j]'(by omega) by simp [show j < L.length by omega], hfx] at this
    cases this
  have hc : L.filter f = L.getD i z :: (L.drop (i + 1)).filter f := by
    conv => lhs; rw [e]
    rw [List.filter_append, hn, List.nil_append, List.filter_cons, if_pos h]
  rw [hc]; rfl
theorem head_no {α : Type} {f : α → Bool} {L : List α} {z : α} (hno : ∀ j, j < L.length → f (L.getD j z) = false) : L.filter f = [] := by
  rw [List.filter_eq_nil_iff]
  intro x hx hfx
  obtain ⟨j, hj, rfl⟩ := List.mem_iff_getElem.1 hx
  have := hno j hj
  rw [show L.getD j z = L[j] by simp [hj], hfx] at this
  cases this

/-! # texts and their cuts -/
def oneQ (q : List ByteArray) : Bool := (List.range q.length).all fun i => (List.range (wideB q)).all fun j => decide (byteAt q i j = byteAt q 0 0)
/-- the columns to the right of upright cuts -/
def linesU (q : List ByteArray) : List Nat := (List.range (wideB q)).filter fun k => decide (1 ≤ k) && allB (upB q k) q.length
def cutsQ (q : List ByteArray) : List (Nat × Nat) := (linesU q).map (fun k => (0, k)) ++ (linesU (transB q)).map (fun k => (1, k))
theorem upL_full {q : List ByteArray} (hq : 1 ≤ q.length) : (linesW 0 (upB q) q.length (wideB q)).filter (fun x => decide (x.long = q.length)) = (linesU q).map fun l => (⟨0, l, 0, q.length⟩ : Wl) := linesW_full hq _
def partA (q : List ByteArray) (c : Nat × Nat) : List ByteArray := if c.1 = 0 then q.map fun s => s.extract 0 c.2 else q.take c.2
def partBq (q : List ByteArray) (c : Nat × Nat) : List ByteArray := if c.1 = 0 then q.map fun s => s.extract c.2 s.size else q.drop c.2

/-! # rectangles of texts -/
def subP (p : List ByteArray) (R : Rc) : List ByteArray := ((p.drop R.r0).take R.h).map fun s => s.extract R.c0 (R.c0 + R.w)
theorem extract_list (s : ByteArray) (a b : Nat) : (s.extract a b).data.toList = (s.data.toList.drop a).take (b - a) := by
  rw [ByteArray.data_extract, Array.toList_extract, List.extract_eq_take_drop]
theorem subP_len {p : List ByteArray} {R : Rc} {w : Nat} (F : R.Fit p.length w) : (subP p R).length = R.h := by
  have := F.hh
  unfold subP; rw [List.length_map, List.length_take, List.length_drop]; omega
theorem subP_row {p : List ByteArray} {R : Rc} {w : Nat} (F : R.Fit p.length w) {i : Nat} (hi : i < R.h) : (subP p R).getD i ByteArray.empty = (p.getD (R.r0 + i) ByteArray.empty).extract R.c0 (R.c0 + R.w) := by
  have h1 := F.hh
  have h2 := subP_len F
  rw [List.getD_eq_getElem?_getD, List.getElem?_eq_getElem (by omega), List.getD_eq_getElem?_getD, List.getElem?_eq_getElem (by omega)]
  unfold subP
  simp
theorem subP_size {p : List ByteArray} (he : Even p) {R : Rc} (F : R.Fit p.length (wideB p)) {i : Nat} (hi : i < R.h) : ((subP p R).getD i ByteArray.empty).size = R.w := by
  have h1 := F.hh; have h2 := F.hw
  rw [subP_row F hi, ByteArray.size_extract, he _ (by omega)]; omega
theorem subP_wide {p : List ByteArray} (he : Even p) {R : Rc} (F : R.Fit p.length (wideB p)) : wideB (subP p R) = R.w := subP_size he F F.h1
theorem subP_even {p : List ByteArray} (he : Even p) {R : Rc} (F : R.Fit p.length (wideB p)) : Even (subP p R) := fun i hi => by
  rw [subP_len F] at hi; rw [subP_size he F hi, subP_wide he F]
theorem subP_byte {p : List ByteArray} {R : Rc} {w : Nat} (F : R.Fit p.length w) {i j : Nat} (hi : i < R.h) (hj : j < R.w) : byteAt (subP p R) i j = byteAt p (R.r0 + i) (R.c0 + j) := by
  unfold byteAt
  rw [subP_row F hi, extract_list]
  simp only [List.getD_eq_getElem?_getD]
  rw [List.getElem?_take, if_pos (by omega), List.getElem?_drop]
def absC (R : Rc) (c : Nat × Nat) : Nat × Nat := (c.1, (if c.1 = 0 then R.c0 else R.r0) + c.2)
theorem range_shift {a w n : Nat} (h : a + w ≤ n) (P : Nat → Bool) (h1 : ∀ l, l < a → P l = false) (h2 : ∀ l, a + w ≤ l → P l = false) : ((List.range w).filter fun k => P (a + k)).map (a + ·) = (List.range n).filter P := by
  obtain ⟨m, rfl⟩ : ∃ m, n = a + (w + m) := ⟨n - a - w, by omega⟩
  rw [List.range_add, List.filter_append, List.range_add, List.map_append, List.filter_append]
  rw [show (List.range a).filter P = [] by rw [List.filter_eq_nil_iff]; intro x hx; rw [h1 x (List.mem_range.1 hx)]; decide]
  rw [show (((List.range m).map (w + ·)).map (a + ·)).filter P = [] by
    rw [List.filter_eq_nil_iff]; intro x hx
    simp only [List.map_map, List.mem_map, Function.comp] at hx
    obtain ⟨y, _, rfl⟩ := hx
    rw [h2 _ (by omega)]; decide]
  rw [List.nil_append, List.append_nil, List.filter_map]
  rfl
theorem linesC_two : linesC = ((List.range 6).filter fun l => decide (1 ≤ l)).map (fun l => (0, l)) ++ ((List.range 6).filter fun l => decide (1 ≤ l)).map (fun l => (1, l)) := by decide
theorem Rc.cuts_two (g : Nat → Nat → Nat) (R : Rc) : R.cuts g = ((List.range 6).filter fun l => decide (1 ≤ l) && R.isCut g (0, l)).map (fun l => (0, l)) ++ ((List.range 6).filter fun l => decide (1 ≤ l) && R.isCut g (1, l)).map (fun l => (1, l)) := by
  unfold Rc.cuts
  rw [linesC_two, List.filter_append, List.filter_map, List.filter_map, List.filter_filter, List.filter_filter]
  congr 2 <;> (refine List.filter_congr fun x _ => ?_; simp only [Function.comp, Bool.and_comm])
theorem subP_cuts {p : List ByteArray} (hp : PlanP p) {R : Rc} (F : R.Fit p.length (wideB p)) : R.cuts (gridG p) = (cutsQ (subP p R)).map (absC R) := by
  have he := hp.grid.even
  have hh := hp.grid.h6; have hw := hp.grid.w6
  have f1 := F.h1; have f2 := F.w1; have f3 := F.hh; have f4 := F.hw
  have L := subP_len F; have W := subP_wide he F
  have e1 : ((List.range 6).filter fun l => decide (1 ≤ l) && R.isCut (gridG p) (0, l)) = (linesU (subP p R)).map (R.c0 + ·) := by
    unfold linesU
    rw [W, L]
    rw [← range_shift (a := R.c0) (w := R.w) (n := 6) (by omega) (fun l => decide (1 ≤ l) && R.isCut (gridG p) (0, l)) (fun l hl => by
      have : R.ins (0, l) = false := by rw [Bool.eq_false_iff]; intro h; rw [Rc.ins_up rfl] at h; simp only at h; omega
      unfold Rc.isCut; rw [this]; simp) (fun l hl => by
      have : R.ins (0, l) = false := by rw [Bool.eq_false_iff]; intro h; rw [Rc.ins_up rfl] at h; simp only at h; omega
      unfold Rc.isCut; rw [this]; simp)]
    congr 1
    refine List.filter_congr fun k hk => ?_
    rw [List.mem_range] at hk
    rw [Bool.eq_iff_iff, Bool.and_eq_true, Bool.and_eq_true, decide_eq_true_eq, decide_eq_true_eq]
    unfold Rc.isCut
    rw [Bool.and_eq_true, Rc.ins_up rfl, Rc.free_up rfl, allB_iff]
    simp only
    constructor
    · rintro ⟨a, ⟨b, c⟩, d⟩
      refine ⟨by omega, fun i hi => ?_⟩
      unfold upB
      rw [L, decide_eq_true hi, Bool.true_and, decide_eq_true_eq, subP_byte F hi (by omega), subP_byte F hi hk]
      rw [hp.differ (by omega) (by omega) (by omega) (by omega)]
      have := d (R.r0 + i) (by omega) (by omega)
      rwa [show R.c0 + k - 1 = R.c0 + (k - 1) by omega] at this
    · rintro ⟨a, b⟩
      refine ⟨by omega, ⟨by omega, by omega⟩, fun i hi hi2 => ?_⟩
      have := b (i - R.r0) (by omega)
      unfold upB at this
      rw [L, Bool.and_eq_true, decide_eq_true_eq, decide_eq_true_eq, subP_byte F (by omega) (by omega), subP_byte F (by omega) hk, hp.differ (by omega) (by omega) (by omega) (by omega)] at this
      rw [show R.c0 + k - 1 = R.c0 + (k - 1) by omega, show i = R.r0 + (i - R.r0) by omega]
      exact this.2
  have e2 : ((List.range 6).filter fun l => decide (1 ≤ l) && R.isCut (gridG p) (1, l)) = (linesU (transB (subP p R))).map (R.r0 + ·) := by
    unfold linesU
    rw [trans_wide (by omega), trans_len, W, L]
    rw [← range_shift (a := R.r0) (w := R.h) (n := 6) (by omega) (fun l => decide (1 ≤ l) && R.isCut (gridG p) (1, l)) (fun l hl => by
      have : R.ins (1, l) = false := by rw [Bool.eq_false_iff]; intro h; rw [Rc.ins_lv (by simp)] at h; simp only at h; omega
      unfold Rc.isCut; rw [this]; simp) (fun l hl => by
      have : R.ins (1, l) = false := by rw [Bool.eq_false_iff]; intro h; rw [Rc.ins_lv (by simp)] at h; simp only at h; omega
      unfold Rc.isCut; rw [this]; simp)]
    congr 1
    refine List.filter_congr fun k hk => ?_
    rw [List.mem_range] at hk
    rw [Bool.eq_iff_iff, Bool.and_eq_true, Bool.and_eq_true, decide_eq_true_eq, decide_eq_true_eq]
    unfold Rc.isCut
    rw [Bool.and_eq_true, Rc.ins_lv (by simp), Rc.free_lv (by simp), allB_iff]
    simp only
    constructor
    · rintro ⟨a, ⟨b, c⟩, d⟩
      refine ⟨by omega, fun i hi => ?_⟩
      unfold upB
      rw [trans_len, W, decide_eq_true hi, Bool.true_and, decide_eq_true_eq, trans_byte (by omega) (by omega), trans_byte (by omega) (by omega), subP_byte F (by omega) hi, subP_byte F hk hi]
      rw [hp.differ (by omega) (by omega) (by omega) (by omega)]
      have := d (R.c0 + i) (by omega) (by omega)
      rwa [show R.r0 + k - 1 = R.r0 + (k - 1) by omega] at this
    · rintro ⟨a, b⟩
      refine ⟨by omega, ⟨by omega, by omega⟩, fun i hi hi2 => ?_⟩
      have := b (i - R.c0) (by omega)
      unfold upB at this
      rw [trans_len, W, Bool.and_eq_true, decide_eq_true_eq, decide_eq_true_eq, trans_byte (by omega) (by omega), trans_byte (by omega) (by omega), subP_byte F (by omega) (by omega), subP_byte F hk (by omega), hp.differ (by omega) (by omega) (by omega) (by omega)] at this
      rw [show R.r0 + k - 1 = R.r0 + (k - 1) by omega, show i = R.c0 + (i - R.c0) by omega]
      exact this.2
  rw [Rc.cuts_two, e1, e2]
  unfold cutsQ
  rw [List.map_append, List.map_map, List.map_map, List.map_map, List.map_map]
  rfl
theorem subP_left {p : List ByteArray} {R : Rc} (F : R.Fit p.length (wideB p)) {c : Nat × Nat} (hi : R.ins (absC R c) = true) : partA (subP p R) c = subP p (R.left (absC R c)) := by
  have f3 := F.hh; have f4 := F.hw
  unfold partA
  by_cases h0 : c.1 = 0
  · rw [Rc.ins_up (c := absC R c) h0] at hi
    rw [if_pos h0, Rc.left_up (c := absC R c) h0]
    unfold absC at hi ⊢
    simp only [if_pos h0] at hi ⊢
    unfold subP
    rw [List.map_map]
    refine List.map_congr_left fun s _ => ?_
    simp only [Function.comp]
    rw [ByteArray.extract_extract]
    congr 1 <;> omega
  · rw [Rc.ins_lv (c := absC R c) h0] at hi
    rw [if_neg h0, Rc.left_lv (c := absC R c) h0]
    unfold absC at hi ⊢
    simp only [if_neg h0] at hi ⊢
    unfold subP
    rw [← List.map_take, List.take_take]
    simp only
    rw [show min c.2 R.h = R.r0 + c.2 - R.r0 by omega]
theorem even_size {p : List ByteArray} (he : Even p) {s : ByteArray} (hs : s ∈ p) : s.size = wideB p := by
  obtain ⟨i, hi, rfl⟩ := List.mem_iff_getElem.1 hs
  have := he i hi
  rwa [show p.getD i ByteArray.empty = p[i] by simp [hi]] at this
theorem subP_right {p : List ByteArray} (he : Even p) {R : Rc} (F : R.Fit p.length (wideB p)) {c : Nat × Nat} (hi : R.ins (absC R c) = true) : partBq (subP p R) c = subP p (R.right (absC R c)) := by
  have f3 := F.hh; have f4 := F.hw
  unfold partBq
  by_cases h0 : c.1 = 0
  · rw [Rc.ins_up (c := absC R c) h0] at hi
    rw [if_pos h0, Rc.right_up (c := absC R c) h0]
    unfold absC at hi ⊢
    simp only [if_pos h0] at hi ⊢
    unfold subP
    rw [List.map_map]
    refine List.map_congr_left fun s hs => ?_
    have hz := even_size he (List.mem_of_mem_drop (List.mem_of_mem_take hs))
    simp only [Function.comp]
    rw [ByteArray.extract_extract, ByteArray.size_extract, hz]
    congr 1; omega
  · rw [Rc.ins_lv (c := absC R c) h0] at hi
    rw [if_neg h0, Rc.right_lv (c := absC R c) h0]
    unfold absC at hi ⊢
    simp only [if_neg h0] at hi ⊢
    unfold subP
    rw [← List.map_drop, List.drop_take, List.drop_drop]
    simp only
    rw [show R.h - c.2 = R.r0 + R.h - (R.r0 + c.2) by omega]
theorem subP_one {p : List ByteArray} (hp : PlanP p) {R : Rc} (F : R.Fit p.length (wideB p)) : oneQ (subP p R) = R.one (gridG p) := by
  have he := hp.grid.even
  have f1 := F.h1; have f2 := F.w1; have f3 := F.hh; have f4 := F.hw
  unfold oneQ Rc.one
  rw [subP_len F, subP_wide he F]
  have h : ∀ i, i < R.h → ∀ j, j < R.w → decide (byteAt (subP p R) i j = byteAt (subP p R) 0 0) = decide (gridG p (R.r0 + i) (R.c0 + j) = gridG p R.r0 R.c0) := fun i hi j hj => by
    rw [subP_byte F hi hj, subP_byte F f1 f2]
    have := hp.differ (i := R.r0 + i) (j := R.c0 + j) (i' := R.r0 + 0) (j' := R.c0 + 0) (by omega) (by omega) (by omega) (by omega)
    by_cases e : gridG p (R.r0 + i) (R.c0 + j) = gridG p R.r0 R.c0
    · rw [decide_eq_true e, decide_eq_true_eq]
      exact Classical.byContradiction fun hne => this.1 hne e
    · rw [decide_eq_false e, decide_eq_false_iff_not]
      exact this.2 e
  rw [Bool.eq_iff_iff, List.all_eq_true, List.all_eq_true]
  constructor
  · intro a i hi
    have := a i hi
    rw [List.all_eq_true] at this ⊢
    intro j hj
    rw [← h i (List.mem_range.1 hi) j (List.mem_range.1 hj)]; exact this j hj
  · intro a i hi
    have := a i hi
    rw [List.all_eq_true] at this ⊢
    intro j hj
    rw [h i (List.mem_range.1 hi) j (List.mem_range.1 hj)]; exact this j hj
theorem subP_all {p : List ByteArray} (he : Even p) : subP p ⟨0, p.length, 0, wideB p⟩ = p := by
  unfold subP
  simp only [List.drop_zero, List.take_length, Nat.zero_add]
  conv => rhs; rw [← List.map_id p]
  refine List.map_congr_left fun s hs => ?_
  rw [← even_size he hs]
  exact ByteArray.extract_zero_size
theorem subP_room {p : List ByteArray} (hp : PlanP p) {R : Rc} (F : R.Fit p.length (wideB p)) : (byteAt (subP p R) 0 0).toNat = 97 + gridG p R.r0 R.c0 := by
  have f1 := F.h1; have f2 := F.w1; have f3 := F.hh; have f4 := F.hw
  rw [subP_byte F f1 f2]
  have := hp.room (i := R.r0 + 0) (j := R.c0 + 0) (by omega) (by omega)
  simp only [Nat.add_zero] at this ⊢
  omega

end Go.Proofs.Ytlgbefmgpmdolaa

/-
  Plans that are cut: the model asks whether cells are of one room, for the first cut, and for both parts. (Walks.)
-/
namespace Go.Proofs.Ytlgbefmgpmdolaa
open Go.RowKit

theorem oneQ_iff {q : List ByteArray} : oneQ q = true ↔ ∀ i, i < q.length → ∀ j, j < wideB q → byteAt q i j = byteAt q 0 0 := by
  unfold oneQ
  rw [List.all_eq_true]
  constructor
  · intro h i hi j hj
    have := h i (List.mem_range.2 hi)
    rw [List.all_eq_true] at this
    simpa using this j (List.mem_range.2 hj)
  · intro h i hi
    rw [List.all_eq_true]
    intro j hj
    simpa using h i (List.mem_range.1 hi) j (List.mem_range.1 hj)

set_option maxRecDepth 100000 in
set_option maxHeartbeats 2000000 in
theorem l3One_any (ao : Option Addr) (cap n : Nat) (q : List ByteArray) (w : World) (hn : q.length = n) (h1 : 1 ≤ q.length) (h6 : q.length ≤ 6) (w1 : 1 ≤ wideB q) (w6 : wideB q ≤ 6) (he : Even q)
    (hc : CellsAt w ao (q.map Value.string)) :
    Calls Try.prog 114 #[.slice ao n cap] w fun e w' => e = .returned (.bool (oneQ q)) ∧ Below w.heap.size w w' := by
  subst hn
  have HY := Lib.hid (show (∀ i, i < q.length → ∀ j, j < wideB q → byteAt q i j = byteAt q 0 0) → oneQ q = true from oneQ_iff.2)
  have HNO := Lib.hid (show ∀ i, i < q.length → ∀ j, j < wideB q → byteAt q i j ≠ byteAt q 0 0 → oneQ q = false from fun i hi j hj hne => by
    rw [Bool.eq_false_iff]; intro h; exact hne (oneQ_iff.1 h i hi j hj))
  generalize oneQ q = R at *
  have HSZ := Lib.hid (show ∀ i, i < q.length → (q.getD i ByteArray.empty).size = wideB q from he)
  have HC := Lib.hid hc
  obtain ⟨b0, off0, ha0, hc0⟩ := hc.str 0 (by omega)
  subst ha0
  rw [Nat.add_zero] at hc0
  have hs0 : (q.getD 0 ByteArray.empty).size = wideB q := rfl
  have hs0k : 0 < (q.getD 0 ByteArray.empty).size := by omega
  have hidx0 := at_list (q.getD 0 ByteArray.empty) 0 hs0k
  obtain ⟨d, hd⟩ : ∃ d, byteAt q 0 0 = d := ⟨_, rfl⟩
  rw [hd] at HY HNO
  have hd2 : (q.getD 0 ByteArray.empty).data.toList.getD 0 0 = d := hd
  rw [hd2] at hidx0
  clear hd hd2
  generalize q.getD 0 ByteArray.empty = s0 at *
  have hp0 : 0 < q.length := h1
  clear hc he
  go_enter Try.func114, Try.ntmps114
  go_wp2
  go_loopw [3, 4] (fun vi _ wr => ∃ (i : Nat), i ≤ q.length ∧ vi = .int .i64 i ∧ Hid (∀ a, a < i → ∀ j, j < wideB q → byteAt q a j = d) ∧ Below w.heap.size w wr) (fun vi _ _ => q.length - (intOf vi).toNat)
  case atStart => exact ⟨0, Nat.zero_le _, rfl, Lib.hid (fun a ha => absurd ha (Nat.not_lt_zero _)), Below.refl _ _⟩
  case round =>
    obtain ⟨i, hi, rfl, HA, hb⟩ := hrel
    by_cases hlt : i < q.length
    · have hltI : (i : Int) < (q.length : Int) := by omega
      go_wp2
      go_loopw [4] (fun vk wm => ∃ (k : Nat), k ≤ wideB q ∧ vk = .int .i64 k ∧ Hid (∀ j, j < k → byteAt q i j = d) ∧ Below w.heap.size w wm) (fun vk _ => wideB q - (intOf vk).toNat)
      case atStart => exact ⟨0, Nat.zero_le _, rfl, Lib.hid (fun a ha => absurd ha (Nat.not_lt_zero _)), hb⟩
      case round =>
        clear hb
        obtain ⟨k, hk, rfl, HK, hb⟩ := hrel
        obtain ⟨b2, off2, ha2, hc2⟩ := (HC.out.below hb).str i hlt
        simp only [Option.some.injEq, Addr.mk.injEq, and_true] at ha2
        obtain ⟨rfl, rfl⟩ := ha2
        have hc0r := cell_below hc0 hb
        have hsi := HSZ.out i hlt
        have HS := Lib.hid hsi
        by_cases hkw : k < wideB q
        · have hcs : k < (q.getD i ByteArray.empty).size := by omega
          have hidx := at_list (q.getD i ByteArray.empty) k hcs
          obtain ⟨c, hcc⟩ : ∃ c, byteAt q i k = c := ⟨_, rfl⟩
          have hc3 : (q.getD i ByteArray.empty).data.toList.getD k 0 = c := hcc
          rw [hc3] at hidx
          have HCC := Lib.hid hcc
          clear hcc hc3 hsi
          generalize q.getD i ByteArray.empty = s1 at *
          by_cases hcd : c = d
          · have hne : ((c.toNat : Int) != (d.toNat : Int)) = false := by rw [hcd]; simp
            have HCD := Lib.hid hcd; clear hcd
            go_wp2
            go_quiet (fail)
            go_wp2
            go_roundw
            case rel => exact ⟨k + 1, by omega, by go_num, Lib.hid (fun j hj => by
              by_cases h : j < k
              · exact HK.out j h
              · obtain rfl : j = k := by omega
                rw [HCC.out, HCD.out]), hb.trans (below_drewN _ _ _)⟩
            case measure => simp [intOf]; omega
          · have hne : ((c.toNat : Int) != (d.toNat : Int)) = true := by
              rw [bne_iff_ne]; intro h; apply hcd; exact UInt8.toNat_inj.1 (by omega)
            have hno := HNO.out i hlt k hkw (by rw [HCC.out]; exact hcd)
            have HN := Lib.hid hno
            clear hcd hno
            go_wp2
            go_quiet (fail)
            go_wp2
            go_ret
            exact ⟨by rw [HN.out]; rfl, hb.trans (below_drewN _ _ _)⟩
        · obtain rfl : k = wideB q := by omega
          have hsz : ¬ (wideB q < (q.getD i ByteArray.empty).size) := by omega
          have hszI : ¬ ((wideB q : Int) < ((q.getD i ByteArray.empty).size : Int)) := by omega
          generalize q.getD i ByteArray.empty = s1 at *
          go_wp2
          go_roundw
          case rel => exact ⟨i + 1, by omega, by go_num, Lib.hid (fun a ha => by
              by_cases h : a < i
              · exact HA.out a h
              · obtain rfl : a = i := by omega
                exact HK.out), hb⟩
          case measure => simp [intOf]; omega
    · obtain rfl : i = q.length := by omega
      have hy := HY.out HA.out
      go_wp2
      go_ret
      exact ⟨by rw [hy]; rfl, hb⟩

/-- the first cut, or 0 and 0 -/
def kindQ (q : List ByteArray) : Nat × Nat := ((cutsQ q).head?).getD (0, 0)
theorem kindQ_up {q : List ByteArray} {l : Nat} (h : (linesU q).head? = some l) : kindQ q = (0, l) := by
  unfold kindQ cutsQ
  rw [List.head?_append, List.head?_map, h]; rfl
theorem kindQ_lv {q : List ByteArray} {l : Nat} (h0 : linesU q = []) (h : (linesU (transB q)).head? = some l) : kindQ q = (1, l) := by
  unfold kindQ cutsQ
  rw [h0, List.map_nil, List.nil_append, List.head?_map, h]; rfl
theorem kindQ_no {q : List ByteArray} (h0 : linesU q = []) (h : linesU (transB q) = []) : kindQ q = (0, 0) := by
  unfold kindQ cutsQ
  rw [h0, h]; rfl
theorem up_found {q : List ByteArray} (hq : 1 ≤ q.length) {i : Nat} (hi : i < (upL q (wideB q)).length) (h : ((upL q (wideB q)).getD i []).getD 2 0 = (q.length : Int)) (hno : ∀ j, j < i → ((upL q (wideB q)).getD j []).getD 2 0 ≠ (q.length : Int)) :
    ∃ l : Nat, (upL q (wideB q)).getD i [] = [(l : Int), 0, (q.length : Int)] ∧ (linesU q).head? = some l := by
  unfold upL at *
  rw [List.length_map] at hi
  have hg : ∀ j, j < (linesW 0 (upB q) q.length (wideB q)).length → ((linesW 0 (upB q) q.length (wideB q)).map wlL).getD j [] = wlL ((linesW 0 (upB q) q.length (wideB q)).getD j zeroWl) := fun j hj => by simp [hj]
  have hf := upL_full hq
  generalize linesW 0 (upB q) q.length (wideB q) = L at *
  rw [hg i hi] at h ⊢
  have hy := head_yes (f := fun x : Wl => decide (x.long = q.length)) (z := zeroWl) hi (by rw [decide_eq_true_eq]; have h' : (((L.getD i zeroWl).long : Nat) : Int) = (q.length : Int) := h; omega) (fun j hj => by
    rw [decide_eq_false_iff_not]
    have := hno j hj
    rw [hg j (by omega)] at this
    have h' : (((L.getD j zeroWl).long : Nat) : Int) ≠ (q.length : Int) := this
    omega)
  rw [hf, List.head?_map] at hy
  cases hh : (linesU q).head? with
  | none => rw [hh] at hy; cases hy
  | some l =>
    rw [hh] at hy
    have e : (⟨0, l, 0, q.length⟩ : Wl) = L.getD i zeroWl := Option.some.inj hy
    exact ⟨l, by rw [← e]; rfl, rfl⟩
theorem up_none {q : List ByteArray} (hq : 1 ≤ q.length) (hno : ∀ j, j < (upL q (wideB q)).length → ((upL q (wideB q)).getD j []).getD 2 0 ≠ (q.length : Int)) : linesU q = [] := by
  have hf := upL_full hq
  rw [head_no (z := zeroWl) (fun j hj => by
    rw [decide_eq_false_iff_not]
    have := hno j (by unfold upL; rw [List.length_map]; exact hj)
    unfold upL at this
    rw [show ((linesW 0 (upB q) q.length (wideB q)).map wlL).getD j [] = wlL ((linesW 0 (upB q) q.length (wideB q)).getD j zeroWl) by simp [hj]] at this
    have h' : ((((linesW 0 (upB q) q.length (wideB q)).getD j zeroWl).long : Nat) : Int) ≠ (q.length : Int) := this
    omega)] at hf
  exact List.map_eq_nil_iff.1 hf.symm

set_option maxRecDepth 100000 in
set_option maxHeartbeats 4000000 in
theorem l3Cut_any (ao : Option Addr) (cap n : Nat) (q : List ByteArray) (w : World) (hn : q.length = n) (h1 : 1 ≤ q.length) (h6 : q.length ≤ 6) (w1 : 1 ≤ wideB q) (w6 : wideB q ≤ 6) (he : Even q)
    (hc : CellsAt w ao (q.map Value.string)) :
    Calls Try.prog 115 #[.slice ao n cap] w fun e w' => e = .returned (.tuple #[.int .i64 ((kindQ q).1 : Nat), .int .i64 ((kindQ q).2 : Nat)]) ∧ Below w.heap.size w w' := by
  subst hn
  have HU := Lib.hid (fun (w : World) (hc : CellsAt w ao (q.map Value.string)) => l2Upright_any ao cap _ q w rfl h1 h6 w1 w6 he hc)
  have htl := trans_len q
  have htw := trans_wide (p := q) w1
  have HV := Lib.hid (fun (bo : Option Addr) (cap : Nat) (w : World) (hc : CellsAt w bo ((transB q).map Value.string)) => l2Upright_any bo cap (wideB q) (transB q) w htl (by rw [htl]; exact w1) (by rw [htl]; exact w6) (by rw [htw]; exact h1) (by rw [htw]; exact h6) (trans_even w1) hc)
  have HTR := Lib.hid (fun (w : World) (hc : CellsAt w ao (q.map Value.string)) => l1Trans_any ao cap _ q w rfl h1 (by omega) (by omega) he hc)
  have HU3 := Lib.hid (upL_three (p := q) (k := wideB q))
  have HV3 := Lib.hid (upL_three (p := transB q) (k := wideB (transB q)))
  have HUY := Lib.hid (fun i => up_found (q := q) (i := i) h1)
  have HUN := Lib.hid (up_none (q := q) h1)
  have HVY := Lib.hid (fun i => up_found (q := transB q) (i := i) (by rw [htl]; exact w1))
  have HVN := Lib.hid (up_none (q := transB q) (by rw [htl]; exact w1))
  have HKU := Lib.hid (fun l => kindQ_up (q := q) (l := l))
  have HKV := Lib.hid (fun l => kindQ_lv (q := q) (l := l))
  have HKN := Lib.hid (kindQ_no (q := q))
  rw [htl] at HVY HVN
  have hUl : (upL q (wideB q)).length ≤ 36 := Nat.le_trans (upL_len q _) (Nat.mul_le_mul w6 h6)
  have hVl : (upL (transB q) (wideB (transB q))).length ≤ 36 := Nat.le_trans (upL_len _ _) (by rw [htl, htw]; exact Nat.mul_le_mul h6 w6)
  clear htl htw
  generalize upL q (wideB q) = U at *
  generalize upL (transB q) (wideB (transB q)) = V at *
  generalize kindQ q = K at *
  obtain ⟨b0, off0, ha0, hc0⟩ := hc.str 0 (by omega)
  subst ha0
  rw [Nat.add_zero] at hc0
  have hs0 : (q.getD 0 ByteArray.empty).size = wideB q := rfl
  generalize q.getD 0 ByteArray.empty = s0 at *
  have hp0 : 0 < q.length := h1
  have HC := Lib.hid hc
  clear he
  go_enter Try.func115, Try.ntmps115
  go_wp2_with fail
  refine (HU.out _ hc).mono ?_
  rintro e w2 ⟨ro, rc, rfl, hrow, hb2⟩
  obtain ⟨us, hus⟩ := hrow
  have HUS := Lib.hid hus
  clear hus hc HU
  go_wp2
  go_loopw [5] (fun vi wr => ∃ i : Nat, i ≤ U.length ∧ vi = .int .i64 i ∧ Hid (∀ j, j < i → (U.getD j []).getD 2 0 ≠ (q.length : Int)) ∧ Below w2.heap.size w2 wr) (fun vi _ => U.length - (intOf vi).toNat)
  case atStart => exact ⟨0, Nat.zero_le _, rfl, Lib.hid (fun j hj => absurd hj (Nat.not_lt_zero _)), Below.refl _ _⟩
  case round =>
    obtain ⟨i, hi, rfl, HF, hq⟩ := hrel
    by_cases hlt : i < U.length
    · have h3 := HU3.out _ (getD_mem [] hlt)
      obtain ⟨bb, off, g, c, rfl, k0, hcl, _⟩ := (HUS.out.below hq).row hlt (by rw [h3]; omega)
      rw [h3] at k0
      obtain ⟨x0, y0, e0, k2⟩ := hcl.int 2 (by rw [h3]; omega)
      cases e0
      obtain ⟨x0, y0, e0, k1⟩ := hcl.int 0 (by rw [h3]; omega)
      cases e0
      rw [Nat.zero_add] at k1 k2
      have hltI : (i : Int) < (U.length : Int) := by omega
      have HY := Lib.hid (HUY.out i hlt)
      have HNX := Lib.hid (show (U.getD i []).getD 2 0 ≠ (q.length : Int) → ∀ j, j < i + 1 → (U.getD j []).getD 2 0 ≠ (q.length : Int) from fun h j hj => by
        rcases Nat.lt_succ_iff_lt_or_eq.1 hj with h' | rfl
        · exact HF.out j h'
        · exact h)
      clear hcl
      by_cases hx : (U.getD i []).getD 2 0 = (q.length : Int)
      · obtain ⟨l, hl, hh⟩ := HY.out hx HF.out
        have hk := HKU.out l hh
        rw [hl] at k1
        rw [hx] at k2
        have hx2 : ((q.length : Int) == (q.length : Int)) = true := by simp
        simp only [List.getD_cons_zero] at k1
        have HK := Lib.hid hk
        clear hl hh hk HY HNX h3 hx
        go_wp2
        go_quiet (fail)
        go_wp2
        go_ret2
        exact ⟨by rw [HK.out]; rfl, (below_step hb2 hb2.size hq).trans (below_drewN _ _ _)⟩
      · have hx2 : ((U.getD i []).getD 2 0 == (q.length : Int)) = false := by rw [beq_eq_false_iff_ne]; exact hx
        have HN := Lib.hid (HNX.out hx)
        clear hx HY HNX h3
        generalize (U.getD i []).getD 2 0 = z at *
        go_wp2
        go_roundw
        case rel => exact ⟨i + 1, by omega, by go_num, HN, hq⟩
        case measure => simp [intOf]; omega
    · obtain rfl : i = U.length := by omega
      have HN0 := Lib.hid (HUN.out HF.out)
      have hb3 := below_step hb2 hb2.size hq
      have hc3 := HC.out.below hb3
      have hc03 := cell_below hc0 hb3
      clear hq HF
      go_wp2_with fail
      refine (HTR.out _ hc3).mono ?_
      rintro e w4 ⟨to, tc, rfl, hown4, hb4⟩
      have hct := owns_cells hown4
      go_wp2_with fail
      refine (HV.out _ _ _ hct).mono ?_
      rintro e w5 ⟨vo, vc, rfl, hrow5, hb5⟩
      obtain ⟨vs, hvs⟩ := hrow5
      have HVS := Lib.hid hvs
      have hb6 := below_step (below_step hb3 hb3.size hb4) (below_step hb3 hb3.size hb4).size hb5
      clear hvs hct hown4 hc3 hc03 hb4 hb5 HTR HV hb2
      go_wp2
      go_loopw [7] (fun vi wr => ∃ i : Nat, i ≤ V.length ∧ vi = .int .i64 i ∧ Hid (∀ j, j < i → (V.getD j []).getD 2 0 ≠ (wideB q : Int)) ∧ Below w5.heap.size w5 wr) (fun vi _ => V.length - (intOf vi).toNat)
      case atStart => exact ⟨0, Nat.zero_le _, rfl, Lib.hid (fun j hj => absurd hj (Nat.not_lt_zero _)), Below.refl _ _⟩
      case round =>
        obtain ⟨i, hi, rfl, HF, hq⟩ := hrel
        by_cases hlt : i < V.length
        · have h3 := HV3.out _ (getD_mem [] hlt)
          obtain ⟨bb, off, g, c, rfl, k0, hcl, _⟩ := (HVS.out.below hq).row hlt (by rw [h3]; omega)
          rw [h3] at k0
          obtain ⟨x0, y0, e0, k2⟩ := hcl.int 2 (by rw [h3]; omega)
          cases e0
          obtain ⟨x0, y0, e0, k1⟩ := hcl.int 0 (by rw [h3]; omega)
          cases e0
          rw [Nat.zero_add] at k1 k2
          have hltI : (i : Int) < (V.length : Int) := by omega
          have hcz := cell_below (cell_below hc0 hb6) hq
          have HY := Lib.hid (HVY.out i hlt)
          have HNX := Lib.hid (show (V.getD i []).getD 2 0 ≠ (wideB q : Int) → ∀ j, j < i + 1 → (V.getD j []).getD 2 0 ≠ (wideB q : Int) from fun h j hj => by
            rcases Nat.lt_succ_iff_lt_or_eq.1 hj with h' | rfl
            · exact HF.out j h'
            · exact h)
          clear hcl
          by_cases hx : (V.getD i []).getD 2 0 = (wideB q : Int)
          · obtain ⟨l, hl, hh⟩ := HY.out hx HF.out
            have hk := HKV.out l HN0.out hh
            rw [hl] at k1
            rw [hx] at k2
            have hx2 : ((wideB q : Int) == (s0.size : Int)) = true := by rw [hs0]; simp
            simp only [List.getD_cons_zero] at k1
            have HK := Lib.hid hk
            clear hl hh hk HY HNX h3 hx
            go_wp2
            go_quiet (fail)
            go_wp2
            go_quiet (fail)
            go_wp2
            go_ret2
            exact ⟨by rw [HK.out]; rfl, ((below_step hb6 hb6.size hq).trans (below_drewN _ _ _)).trans (below_drewN _ _ _)⟩
          · have hx2 : ((V.getD i []).getD 2 0 == (s0.size : Int)) = false := by rw [beq_eq_false_iff_ne, hs0]; exact hx
            have HN := Lib.hid (HNX.out hx)
            clear hx HY HNX h3
            generalize (V.getD i []).getD 2 0 = z at *
            go_wp2
            go_quiet (fail)
            go_wp2
            go_roundw
            case rel => exact ⟨i + 1, by omega, by go_num, HN, hq.trans (below_drewN _ _ _)⟩
            case measure => simp [intOf]; omega
        · obtain rfl : i = V.length := by omega
          have hk := HKN.out HN0.out (HVN.out HF.out)
          have HK := Lib.hid hk
          clear hk
          go_wp2
          go_ret2
          exact ⟨by rw [HK.out]; rfl, below_step hb6 hb6.size hq⟩

end Go.Proofs.Ytlgbefmgpmdolaa

/-
  Plans that are cut: the model's parts of a cut. (Walks.)
-/
namespace Go.Proofs.Ytlgbefmgpmdolaa
open Go.RowKit

/-- two lists of texts of the call's own -/
def TwoRows (w : World) (wr : World) (A B : List ByteArray) (ra : Option Addr) (ca : Nat) (rb : Option Addr) (cb : Nat) : Prop :=
  wr.ownsRow w.heap.size 9 1 (.slice ra A.length ca) A.length (A.map Value.string) ∧ wr.ownsRow w.heap.size 9 1 (.slice rb B.length cb) B.length (B.map Value.string) ∧ Apart ra rb ∧ Below w.heap.size w wr
theorem take_snocB {q : List ByteArray} {i : Nat} (hi : i < q.length) (f : ByteArray → ByteArray) : ((q.take (i + 1)).map f) = (q.take i).map f ++ [f (q.getD i ByteArray.empty)] := by
  rw [take_succ_getD q i ByteArray.empty hi, List.map_append]; rfl
theorem drop_snocB {q : List ByteArray} {i k : Nat} (hi : i < q.length) (hk : k ≤ i) : (q.take (i + 1)).drop k = (q.take i).drop k ++ [q.getD i ByteArray.empty] := by
  rw [take_succ_getD q i ByteArray.empty hi, List.drop_append_of_le_length (by rw [List.length_take]; omega)]

set_option maxRecDepth 100000 in
set_option maxHeartbeats 4000000 in
theorem l3Parts_any (ao : Option Addr) (cap n : Nat) (q : List ByteArray) (c : Nat × Nat) (w : World) (hn : q.length = n) (h1 : 1 ≤ q.length) (h6 : q.length ≤ 6) (he : Even q) (hk : c.1 < 2) (hat : c.2 ≤ if c.1 = 0 then wideB q else q.length)
    (hc : CellsAt w ao (q.map Value.string)) :
    Calls Try.prog 116 #[.slice ao n cap, .int .i64 (c.1 : Nat), .int .i64 (c.2 : Nat)] w
      fun e w' => ∃ ra ca rb cb, e = .returned (.tuple #[.slice ra (partA q c).length ca, .slice rb (partBq q c).length cb]) ∧ CellsAt w' ra ((partA q c).map Value.string) ∧ CellsAt w' rb ((partBq q c).map Value.string) ∧ Below w.heap.size w w' := by
  subst hn
  obtain ⟨it, hti, htz, ht1, ht2⟩ := info_parts Try.infoText
  have HSZ := Lib.hid (show ∀ i, i < q.length → (q.getD i ByteArray.empty).size = wideB q from he)
  have HC := Lib.hid hc
  obtain ⟨b0, off0, ha0, -⟩ := hc.str 0 (by omega)
  subst ha0
  have hT0 : TwoRows w ((w.alloc (.cells #[] 9)).alloc (.cells #[] 9)) [] [] (some ⟨w.heap.size, 0, none⟩) 0 (some ⟨w.heap.size + 1, 0, none⟩) 0 :=
    ⟨(World.ownsRow_made w #[] 0 (Nat.le_refl _) (Nat.zero_le _) rfl).alloc _, by have := World.ownsRow_made (w.alloc (.cells #[] 9)) #[] (base := w.heap.size) (e := 9) (size := 1) 0 (by simp) (Nat.zero_le _) rfl; simpa using this,
      fun a b ha hb => by cases ha; cases hb; simp, ((Below.refl _ w).alloc (Nat.le_refl _) _).alloc (by simp) _⟩
  obtain ⟨kind, at_⟩ := c
  simp only at hk hat ⊢
  clear hc he
  by_cases h0 : kind = 0
  · subst h0
    rw [if_pos rfl] at hat
    have eA : partA q (0, at_) = q.map fun s => s.extract 0 at_ := rfl
    have eB : partBq q (0, at_) = q.map fun s => s.extract at_ s.size := rfl
    rw [eA, eB]
    have HTA := Lib.hid (fun i (hi : i < q.length) => take_snocB hi fun s => s.extract 0 at_)
    have HTB := Lib.hid (fun i (hi : i < q.length) => take_snocB hi fun s => s.extract at_ s.size)
    clear eA eB
    change Calls _ _ #[_, .int .i64 0, .int .i64 (at_ : Nat)] w _
    go_enter Try.func116, Try.ntmps116
    go_wp2
    go_loopw [8, 9, 10] (fun va vb vi wr => ∃ (i : Nat) (ra : Option Addr) (ca : Nat) (rb : Option Addr) (cb : Nat), i ≤ q.length ∧ vi = .int .i64 i ∧ va = .slice ra i ca ∧ vb = .slice rb i cb ∧ TwoRows w wr ((q.take i).map fun s => s.extract 0 at_) ((q.take i).map fun s => s.extract at_ s.size) ra ca rb cb) (fun _ _ vi _ => q.length - (intOf vi).toNat)
    case atStart => exact ⟨0, _, _, _, _, Nat.zero_le _, rfl, rfl, rfl, hT0⟩
    case round =>
      clear hT0
      obtain ⟨i, ra, ca, rb, cb, hi, rfl, rfl, rfl, hA, hB, hap, hb⟩ := hrel
      simp only [List.length_map, List.length_take, Nat.min_eq_left hi] at hA hB
      by_cases hlt : i < q.length
      · obtain ⟨b2, o2, e2, kc⟩ := (HC.out.below hb).str i hlt
        cases e2
        have hcB := (HC.out.below hb)
        have hsz := HSZ.out i hlt
        have hat2 : at_ ≤ (q.getD i ByteArray.empty).size := by omega
        have hb1' : i + 1 ≤ maxLen := by unfold maxLen; omega
        have hb2' : (i + 1) * 16 ≤ 140737488355328 := by omega
        have hltI : (i : Int) < (q.length : Int) := by omega
        have HT1 := Lib.hid (HTA.out i hlt)
        have HT2 := Lib.hid (HTB.out i hlt)
        have hbs := hb.size
        have hltA := owns_lt hA; have hltB := owns_lt hB
        generalize hs1 : q.getD i ByteArray.empty = s1 at *
        have HS1 := Lib.hid hs1
        clear hs1
        go_wp2_with (first
          | (at_builtin; refine wpList_push _ rfl _ _ 31 rfl w.heap.size 9 it (.string ⟨#[]⟩) 16 Try.underlying31 hti htz ht1 ht2 rfl ra i ca _ rfl (hA.alloc _) _ _ _ rfl (cell_new _ _ _) rfl hb1' hb2' (by simp; omega) ?_; intro ra2 ca2 w2 hA2 hg2 hnew2; have hB2 := owns_push_other hB hg2 hap.symm; have hb2w := below_push hb hbs hg2 (fun a ha => (hltA a ha).1); have hap2 := apart_push hap hnew2 (fun b hb' => (hltB b hb').2); obtain ⟨b3, o3, e3, kc2⟩ := (HC.out.below hb2w).str i hlt; cases e3; rw [HS1.out] at kc2)
          | (at_builtin; refine wpList_push _ rfl _ _ 31 rfl w.heap.size 9 it (.string ⟨#[]⟩) 16 Try.underlying31 hti htz ht1 ht2 rfl rb i cb _ rfl (hB2.alloc _) _ _ _ rfl (cell_new _ _ _) rfl hb1' hb2' (by have := hb2w.size; simp; omega) ?_; intro rb2 cb2 w3 hB3 hg3 hnew3))
        rw [← hsz] at hB3
        have hltA2 := owns_lt hA2
        have hA3 := owns_push_other hA2 hg3 hap2
        have hb3w := below_push hb2w hb2w.size hg3 (fun a ha => (hltB a ha).1)
        have hap3 := (apart_push hap2.symm hnew3 (fun b hb' => (hltA2 b hb').2)).symm
        have l1 : ((q.take (i + 1)).map fun s => s.extract 0 at_).length = i + 1 := by rw [List.length_map, List.length_take]; omega
        have l2 : ((q.take (i + 1)).map fun s => s.extract at_ s.size).length = i + 1 := by rw [List.length_map, List.length_take]; omega
        have hA4 := owns_eq hA3 (show _ = ((q.take (i + 1)).map fun s => s.extract 0 at_).map Value.string by rw [HT1.out, List.map_append]; rfl)
        have hB4 := owns_eq hB3 (show _ = ((q.take (i + 1)).map fun s => s.extract at_ s.size).map Value.string by rw [HT2.out, List.map_append]; rfl)
        have hT : TwoRows w w3 ((q.take (i + 1)).map fun s => s.extract 0 at_) ((q.take (i + 1)).map fun s => s.extract at_ s.size) ra2 ca2 rb2 cb2 := ⟨by rw [l1]; exact hA4, by rw [l2]; exact hB4, hap3, hb3w⟩
        clear l1 l2 hA4 hB4 hA3 hB3 hsz
        go_roundw
        case rel => exact ⟨i + 1, ra2, ca2, rb2, cb2, by omega, by go_num, rfl, rfl, hT⟩
        case measure => simp [intOf]; omega
      · obtain rfl : i = q.length := by omega
        rw [List.take_length] at hA hB
        go_wp2
        go_ret2
        exact ⟨ra, ca, rb, cb, by rw [List.length_map, List.length_map]; rfl, owns_cells hA, owns_cells hB, hb⟩
  · obtain rfl : kind = 1 := by omega
    rw [if_neg (by decide)] at hat
    have eA : partA q (1, at_) = q.take at_ := rfl
    have eB : partBq q (1, at_) = q.drop at_ := rfl
    rw [eA, eB]
    have HTA := Lib.hid (fun i (hi : i < q.length) => take_succ_getD q i ByteArray.empty hi)
    have HTB := Lib.hid (fun i (hi : i < q.length) (hk : at_ ≤ i) => drop_snocB hi hk)
    clear eA eB
    change Calls _ _ #[_, .int .i64 1, .int .i64 (at_ : Nat)] w _
    go_enter Try.func116, Try.ntmps116
    go_wp2
    go_loopw [8, 9, 10] (fun va vb vi wr => ∃ (i : Nat) (ra : Option Addr) (ca : Nat) (rb : Option Addr) (cb : Nat) (u v : Nat), i ≤ q.length ∧ u = min i at_ ∧ v = i - at_ ∧ vi = .int .i64 i ∧ va = .slice ra u ca ∧ vb = .slice rb v cb ∧ TwoRows w wr (q.take u) ((q.take i).drop at_) ra ca rb cb) (fun _ _ vi _ => q.length - (intOf vi).toNat)
    case atStart => exact ⟨0, _, _, _, _, 0, 0, Nat.zero_le _, by omega, by omega, rfl, rfl, rfl, by rw [List.take_zero, List.drop_nil]; exact hT0⟩
    case round =>
      clear hT0
      obtain ⟨i, ra, ca, rb, cb, u, v, hi, hu, hv, rfl, rfl, rfl, hA, hB, hap, hb⟩ := hrel
      have lu : (q.take u).length = u := by rw [List.length_take]; omega
      have lv : ((q.take i).drop at_).length = v := by rw [List.length_drop, List.length_take]; omega
      rw [lu] at hA
      rw [lv] at hB
      clear lu lv
      by_cases hlt : i < q.length
      · obtain ⟨b2, o2, e2, kc⟩ := (HC.out.below hb).str i hlt
        cases e2
        have hltI : (i : Int) < (q.length : Int) := by omega
        have hbs := hb.size
        have hltA := owns_lt hA; have hltB := owns_lt hB
        have HTB1 := Lib.hid (HTB.out i hlt)
        have HTA1 := Lib.hid (HTA.out i hlt)
        generalize hs1 : q.getD i ByteArray.empty = s1 at *
        clear hs1
        by_cases hia : i < at_
        · have hui : u = i := by omega
          have hv0 : v = 0 := by omega
          subst hui; subst hv0
          have hiaI : decide ((u : Int) < (at_ : Int)) = true := by rw [decide_eq_true_eq]; omega
          have hb1' : u + 1 ≤ maxLen := by unfold maxLen; omega
          have hb2' : (u + 1) * 16 ≤ 140737488355328 := by omega
          clear hu hv
          go_wp2_with (first
            | (at_builtin; refine wpList_push _ rfl _ _ 31 rfl w.heap.size 9 it (.string ⟨#[]⟩) 16 Try.underlying31 hti htz ht1 ht2 rfl ra u ca _ rfl (hA.alloc _) _ _ _ rfl (cell_new _ _ _) rfl hb1' hb2' (by simp; omega) ?_; intro ra2 ca2 w2 hA2 hg2 hnew2))
          have hB2 := owns_push_other hB hg2 hap.symm
          have hb2w := below_push hb hbs hg2 (fun a ha => (hltA a ha).1)
          have hap2 := apart_push hap hnew2 (fun b hb' => (hltB b hb').2)
          have l1 : (q.take (u + 1)).length = u + 1 := by rw [List.length_take]; omega
          have l2 : ((q.take (u + 1)).drop at_).length = 0 := by rw [List.length_drop, List.length_take]; omega
          have l3 : (q.take u).drop at_ = (q.take (u + 1)).drop at_ := by rw [List.eq_nil_of_length_eq_zero l2]; exact List.eq_nil_of_length_eq_zero (by rw [List.length_drop, List.length_take]; omega)
          rw [l3] at hB2
          have hA4 := owns_eq hA2 (show _ = (q.take (u + 1)).map Value.string by rw [HTA1.out, List.map_append]; rfl)
          have hT : TwoRows w w2 (q.take (u + 1)) ((q.take (u + 1)).drop at_) ra2 ca2 rb cb := ⟨by rw [l1]; exact hA4, by rw [l2]; exact hB2, hap2, hb2w⟩
          clear l1 l2 l3 hA4
          go_roundw
          case rel => exact ⟨u + 1, ra2, ca2, rb, cb, u + 1, 0, by omega, by omega, by omega, by go_num, rfl, rfl, hT⟩
          case measure => simp [intOf]; omega
        · have hui : u = at_ := by omega
          subst hui
          have hiaI : decide ((i : Int) < (u : Int)) = false := by rw [decide_eq_false_iff_not]; omega
          have hb1' : v + 1 ≤ maxLen := by unfold maxLen; omega
          have hb2' : (v + 1) * 16 ≤ 140737488355328 := by omega
          have HV := Lib.hid hv
          clear hu hv
          go_wp2_with (first
            | (at_builtin; refine wpList_push _ rfl _ _ 31 rfl w.heap.size 9 it (.string ⟨#[]⟩) 16 Try.underlying31 hti htz ht1 ht2 rfl rb v cb _ rfl (hB.alloc _) _ _ _ rfl (cell_new _ _ _) rfl hb1' hb2' (by simp; omega) ?_; intro rb2 cb2 w2 hB2 hg2 hnew2))
          have hA2 := owns_push_other hA hg2 hap
          have hb2w := below_push hb hbs hg2 (fun a ha => (hltB a ha).1)
          have hap2 := (apart_push hap.symm hnew2 (fun b hb' => (hltA b hb').2)).symm
          have l1 : (q.take u).length = u := by rw [List.length_take]; omega
          have l2 : ((q.take (i + 1)).drop u).length = v + 1 := by have := HV.out; rw [List.length_drop, List.length_take]; omega
          have hB4 := owns_eq hB2 (show _ = ((q.take (i + 1)).drop u).map Value.string by rw [HTB1.out (by omega), List.map_append]; rfl)
          have hT : TwoRows w w2 (q.take u) ((q.take (i + 1)).drop u) ra ca rb2 cb2 := ⟨by rw [l1]; exact hA2, by rw [l2]; exact hB4, hap2, hb2w⟩
          clear l1 l2 hB4
          go_roundw
          case rel => exact ⟨i + 1, ra, ca, rb2, cb2, u, v + 1, by omega, by omega, by have := HV.out; omega, by go_num, rfl, by go_num, hT⟩
          case measure => simp [intOf]; omega
      · obtain rfl : i = q.length := by omega
        obtain rfl : u = at_ := by omega
        rw [List.take_length] at hB
        have lu : (q.take u).length = u := by rw [List.length_take]; omega
        have lv : (q.drop u).length = v := by rw [List.length_drop]; omega
        have LU := Lib.hid lu; have LV := Lib.hid lv
        clear lu lv hat hu hv
        go_wp2
        go_ret2
        exact ⟨ra, ca, rb, cb, by rw [LU.out, LV.out]; rfl, owns_cells hA, owns_cells hB, hb⟩

end Go.Proofs.Ytlgbefmgpmdolaa

/-
  Plans that are cut: the model's cut text. (Walks.)
-/
namespace Go.Proofs.Ytlgbefmgpmdolaa
open Go.RowKit

theorem linesU_mem {q : List ByteArray} {k : Nat} (h : k ∈ linesU q) : 1 ≤ k ∧ k < wideB q := by
  unfold linesU at h
  rw [List.mem_filter, List.mem_range, Bool.and_eq_true, decide_eq_true_eq] at h
  exact ⟨h.2.1, h.1⟩
theorem cutsQ_mem {q : List ByteArray} (w1 : 1 ≤ wideB q) {c : Nat × Nat} (h : c ∈ cutsQ q) : c.1 < 2 ∧ 1 ≤ c.2 ∧ c.2 ≤ if c.1 = 0 then wideB q else q.length := by
  unfold cutsQ at h
  rw [List.mem_append, List.mem_map, List.mem_map] at h
  rcases h with ⟨k, hk, rfl⟩ | ⟨k, hk, rfl⟩
  · have := linesU_mem hk
    exact ⟨Nat.zero_lt_two, this.1, by rw [if_pos rfl]; exact Nat.le_of_lt this.2⟩
  · have := linesU_mem hk
    rw [trans_wide w1] at this
    exact ⟨Nat.lt_succ_self 1, this.1, by rw [if_neg Nat.one_ne_zero]; exact Nat.le_of_lt this.2⟩
theorem kindQ_none {p : List ByteArray} (hp : PlanP p) {R : Rc} (F : R.Fit p.length (wideB p)) (h : (R.cuts (gridG p)).head? = none) : kindQ (subP p R) = (0, 0) := by
  rw [subP_cuts hp F, List.head?_map] at h
  unfold kindQ
  cases hc : (cutsQ (subP p R)).head? with
  | none => rfl
  | some c => rw [hc] at h; cases h
theorem kindQ_some {p : List ByteArray} (hp : PlanP p) {R : Rc} (F : R.Fit p.length (wideB p)) {c : Nat × Nat} (h : (R.cuts (gridG p)).head? = some c) : ∃ d, kindQ (subP p R) = d ∧ c = absC R d ∧ d.1 < 2 ∧ 1 ≤ d.2 ∧ d.2 ≤ (if d.1 = 0 then wideB (subP p R) else (subP p R).length) ∧ R.ins (absC R d) = true := by
  have hm := Rc.cuts_mem (head_cut h)
  rw [subP_cuts hp F, List.head?_map] at h
  unfold kindQ
  cases hc : (cutsQ (subP p R)).head? with
  | none => rw [hc] at h; cases h
  | some d =>
    rw [hc] at h
    have e : absC R d = c := Option.some.inj h
    have hd := cutsQ_mem (by rw [subP_wide hp.grid.even F]; exact F.w1) (List.mem_of_mem_head? (by rw [hc]; exact rfl))
    exact ⟨d, rfl, e.symm, hd.1, hd.2.1, hd.2.2, by rw [e]; exact hm.2.1⟩

theorem l3OneR_any {p : List ByteArray} (hp : PlanP p) (R : Rc) (ao : Option Addr) (cap : Nat) (w : World) (F : R.Fit p.length (wideB p)) (hc : CellsAt w ao ((subP p R).map Value.string)) :
    Calls Try.prog 114 #[.slice ao R.h cap] w fun e w' => e = .returned (.bool (R.one (gridG p))) ∧ Below w.heap.size w w' := by
  rw [← subP_one hp F]
  have hl := subP_len F; have hw := subP_wide hp.grid.even F
  have h6 := hp.grid.h6; have w6 := hp.grid.w6
  have f1 := F.h1; have f2 := F.w1; have f3 := F.hh; have f4 := F.hw
  exact l3One_any ao cap R.h (subP p R) w hl (by omega) (by omega) (by omega) (by omega) (subP_even hp.grid.even F) hc
theorem l3CutR_any {p : List ByteArray} (hp : PlanP p) (R : Rc) (ao : Option Addr) (cap : Nat) (w : World) (F : R.Fit p.length (wideB p)) (hc : CellsAt w ao ((subP p R).map Value.string)) :
    Calls Try.prog 115 #[.slice ao R.h cap] w fun e w' => e = .returned (.tuple #[.int .i64 ((kindQ (subP p R)).1 : Nat), .int .i64 ((kindQ (subP p R)).2 : Nat)]) ∧ Below w.heap.size w w' := by
  have hl := subP_len F; have hw := subP_wide hp.grid.even F
  have h6 := hp.grid.h6; have w6 := hp.grid.w6
  have f1 := F.h1; have f2 := F.w1; have f3 := F.hh; have f4 := F.hw
  exact l3Cut_any ao cap R.h (subP p R) w hl (by omega) (by omega) (by omega) (by omega) (subP_even hp.grid.even F) hc
theorem l3PartsR_any {p : List ByteArray} (hp : PlanP p) (R : Rc) (d : Nat × Nat) (ao : Option Addr) (cap : Nat) (w : World) (F : R.Fit p.length (wideB p)) (hk : d.1 < 2) (hat : d.2 ≤ if d.1 = 0 then wideB (subP p R) else (subP p R).length) (hi : R.ins (absC R d) = true) (hc : CellsAt w ao ((subP p R).map Value.string)) :
    Calls Try.prog 116 #[.slice ao R.h cap, .int .i64 (d.1 : Nat), .int .i64 (d.2 : Nat)] w
      fun e w' => ∃ ra ca rb cb, e = .returned (.tuple #[.slice ra (R.left (absC R d)).h ca, .slice rb (R.right (absC R d)).h cb]) ∧ CellsAt w' ra ((subP p (R.left (absC R d))).map Value.string) ∧ CellsAt w' rb ((subP p (R.right (absC R d))).map Value.string) ∧ Below w.heap.size w w' := by
  have hl := subP_len F; have hw := subP_wide hp.grid.even F
  have h6 := hp.grid.h6; have w6 := hp.grid.w6
  have f1 := F.h1; have f2 := F.w1; have f3 := F.hh; have f4 := F.hw
  have h := l3Parts_any ao cap R.h (subP p R) d w hl (by omega) (by omega) (subP_even hp.grid.even F) hk hat hc
  rw [subP_left F hi, subP_right hp.grid.even F hi, subP_len (Rc.fit_left F hi).1, subP_len (Rc.fit_right F hi).1] at h
  exact h

/-- the cut text of a way to cut -/
def textT : Tr → ByteArray
  | .room a => ⟨#[UInt8.ofNat (65 + a)]⟩
  | .cut way _ l r => (if way = 0 then ⟨#[118]⟩ else ⟨#[104]⟩) ++ textT l ++ textT r
theorem size_app (x y : ByteArray) : (x ++ y).size = x.size + y.size := ByteArray.size_append
def joinT (way line : Nat) (a b : Option Tr) : Option Tr := a.bind fun x => b.map fun y => Tr.cut way line x y
theorem Rc.tree_join {g : Nat → Nat → Nat} {n : Nat} {R : Rc} {c : Nat × Nat} (h : R.one g = false) (hc : (R.cuts g).head? = some c) : R.tree g (n + 1) = joinT c.1 c.2 ((R.left c).tree g n) ((R.right c).tree g n) := by
  rw [Rc.tree_cut h hc]
  cases (R.left c).tree g n <;> cases (R.right c).tree g n <;> rfl
theorem joinT_some {way line : Nat} {a b : Option Tr} {t : Tr} (h : joinT way line a b = some t) : ∃ x y, a = some x ∧ b = some y ∧ t = Tr.cut way line x y := by
  unfold joinT at h
  cases a with
  | none => cases h
  | some x =>
    cases b with
    | none => cases h
    | some y => exact ⟨x, y, rfl, rfl, (Option.some.inj h).symm⟩
theorem joinT_is (way line : Nat) (a b : Option Tr) : (joinT way line a b).isSome = (a.isSome && b.isSome) := by
  cases a <;> cases b <;> rfl
/-- what is told of a text -/
def TxtRet (o : Option Tr) (m : Nat) (e : Ending) : Prop := ∃ s : ByteArray, e = .returned (.tuple #[.string s, .bool o.isSome]) ∧ (∀ t, o = some t → s = textT t) ∧ s.size ≤ m

set_option maxRecDepth 100000 in
set_option maxHeartbeats 4000000 in
theorem l3Text_any {p : List ByteArray} (hp : PlanP p) : ∀ (n : Nat) (R : Rc) (ao : Option Addr) (cap : Nat) (w : World), R.Fit p.length (wideB p) → R.h + R.w ≤ n → n ≤ 12 → CellsAt w ao ((subP p R).map Value.string) →
    Calls Try.prog 87 #[.slice ao R.h cap] w fun e w' => TxtRet (R.tree (gridG p) n) (4 ^ n) e ∧ Below w.heap.size w w'
  | 0, R, _, _, _, F, hn, _, _ => by have := F.h1; omega
  | n + 1, R, ao, cap, w, F, hn, h12, hc => by
    have HIH := Lib.hid (fun R ao cap w F hn hc => l3Text_any hp n R ao cap w F hn (by omega) hc)
    have HONE := Lib.hid (l3OneR_any hp R ao cap w F hc)
    have HCUT := Lib.hid (fun w hc => l3CutR_any hp R ao cap w F hc)
    have h4 : (4 : Nat) ^ (n + 1) = 4 * 4 ^ n := by rw [Nat.pow_succ, Nat.mul_comm]
    have h4n : (4 : Nat) ^ n ≤ 4 ^ 11 := Nat.pow_le_pow_right (by omega) (by omega)
    have h41 : 1 ≤ (4 : Nat) ^ n := Nat.pow_pos (by omega)
    have h4m : (4 : Nat) ^ 11 = 4194304 := by decide
    rw [h4m] at h4n
    rw [h4]
    cases h1 : R.one (gridG p)
    · rw [h1] at HONE
      cases hcc : (R.cuts (gridG p)).head? with
      | none =>
        have hk := kindQ_none hp F hcc
        rw [hk] at HCUT
        rw [Rc.tree_no h1 hcc]
        clear h1 hcc hk HIH
        have HC := Lib.hid hc; clear hc
        generalize 4 ^ n = m at *
        unfold TxtRet
        simp only at HCUT
        go_enter Try.func87, Try.ntmps87
        go_wp2_with (first
          | (go_at_call 114; refine HONE.out.mono ?_; rintro e w1 ⟨rfl, hb1⟩)
          | (go_at_call 115; refine (HCUT.out _ (HC.out.below hb1)).mono ?_; rintro e w2 ⟨rfl, hb2⟩))
        go_ret2
        exact ⟨⟨_, rfl, fun t ht => (by cases ht), Nat.zero_le _⟩, below_step hb1 hb1.size hb2⟩
      | some c =>
        obtain ⟨d, hkd, hcd, hd1, hd2, hd3, hdi⟩ := kindQ_some hp F hcc
        subst hcd
        rw [hkd] at HCUT
        have HPA := Lib.hid (fun w hc => l3PartsR_any hp R d ao cap w F hd1 hd3 hdi hc)
        have HF1 := Lib.hid (Rc.fit_left F hdi)
        have HF2 := Lib.hid (Rc.fit_right F hdi)
        have HL := Lib.hid (fun ao cap w hc => HIH.out _ ao cap w HF1.out.1 (by have := HF1.out.2; omega) hc)
        have HR := Lib.hid (fun ao cap w hc => HIH.out _ ao cap w HF2.out.1 (by have := HF2.out.2; omega) hc)
        rw [Rc.tree_join h1 hcc]
        have hne : ((d.2 : Int) == 0) = false := by rw [beq_eq_false_iff_ne]; omega
        clear h1 hcc hkd hd3 hdi HIH HF1 HF2
        have HC := Lib.hid hc; clear hc
        obtain ⟨way, line⟩ := d
        simp only at hd1 hd2 hne HCUT HPA ⊢
        generalize (R.left (absC R (way, line))).tree (gridG p) n = ta at *
        generalize (R.right (absC R (way, line))).tree (gridG p) n = tb at *
        have hw : (absC R (way, line)).1 = way := rfl
        rw [hw]
        generalize R.left (absC R (way, line)) = RL at *
        generalize R.right (absC R (way, line)) = RR at *
        clear hw
        generalize 4 ^ n = m at *
        obtain ⟨A, hA⟩ : ∃ A, joinT way (absC R (way, line)).2 ta tb = A := ⟨_, rfl⟩
        have hAi := joinT_is way (absC R (way, line)).2 ta tb
        have hAs := fun t => joinT_some (way := way) (line := (absC R (way, line)).2) (a := ta) (b := tb) (t := t)
        rw [hA] at hAi hAs ⊢
        have HAI := Lib.hid hAi; have HAS := Lib.hid hAs
        clear hA hAi hAs
        rcases (show way = 0 ∨ way = 1 by omega) with h0 | h0
        · subst h0
          rw [show ((0 : Nat) : Int) = 0 from rfl] at HCUT HPA
          go_enter Try.func87, Try.ntmps87
          go_wp2_with fail
          refine HONE.out.mono ?_
          rintro e w1 ⟨rfl, hb1⟩
          go_wp2_with fail
          refine (HCUT.out _ (HC.out.below hb1)).mono ?_
          rintro e w2 ⟨rfl, hb2⟩
          have hb3 := below_step hb1 hb1.size hb2
          clear hb1 hb2 HONE HCUT
          go_wp2_with fail
          refine (HPA.out _ (HC.out.below hb3)).mono ?_
          rintro e w4 ⟨ra, ca, rb, cb, rfl, hca, hcb, hb4⟩
          have hb5 := below_step hb3 hb3.size hb4
          clear hb3 hb4 HPA
          go_wp2_with fail
          refine (HL.out _ _ _ hca).mono ?_
          rintro e w6 ⟨⟨s1, rfl, ht1, hs1⟩, hb6⟩
          have hcb6 := hcb.below hb6
          have hb7 := below_step hb5 hb5.size hb6
          have HT1 := Lib.hid ht1
          clear hb5 hb6 hcb hca HL ht1
          go_wp2_with fail
          refine (HR.out _ _ _ hcb6).mono ?_
          rintro e w8 ⟨⟨s2, rfl, ht2, hs2⟩, hb8⟩
          have hb9 := below_step hb7 hb7.size hb8
          have HT2 := Lib.hid ht2
          have hz : (⟨#[118]⟩ : ByteArray).size = 1 := rfl
          have hx : (⟨#[118, 104]⟩ : ByteArray).extract 0 1 = ⟨#[118]⟩ := by decide +kernel
          have hq : ((⟨#[118]⟩ : ByteArray) ++ s1).size = 1 + s1.size := size_app _ _
          have hc1 : (9223372036854775807 < (⟨#[118]⟩ : ByteArray).size + s1.size) = False := by simp only [eq_iff_iff, iff_false]; omega
          have hc2 : (9223372036854775807 < ((⟨#[118]⟩ : ByteArray) ++ s1).size + s2.size) = False := by simp only [eq_iff_iff, iff_false]; omega
          have hc3 : ((⟨#[118]⟩ : ByteArray) ++ s1 ++ s2).size ≤ 4 * m := by rw [size_app, hq]; omega
          have HC3 := Lib.hid hc3
          have HTX := Lib.hid (show ∀ t, A = some t → (⟨#[118]⟩ : ByteArray) ++ s1 ++ s2 = textT t from fun t ht => by
            obtain ⟨x, y, e1, e2, rfl⟩ := HAS.out t ht
            rw [HT1.out x e1, HT2.out y e2]; rfl)
          clear hb7 hb8 hcb6 HR ht2 HT1 HT2 HAS hc3 h4 h41 hz hq
          generalize ta.isSome = b1 at *
          generalize tb.isSome = b2 at *
          cases b1
          · go_wp2
            go_ret2
            exact ⟨⟨_, by rw [HAI.out]; rfl, HTX.out, HC3.out⟩, hb9⟩
          · go_wp2
            go_ret2
            exact ⟨⟨_, by rw [HAI.out]; rfl, HTX.out, HC3.out⟩, hb9⟩
        · subst h0
          rw [show ((1 : Nat) : Int) = 1 from rfl] at HCUT HPA
          go_enter Try.func87, Try.ntmps87
          go_wp2_with fail
          refine HONE.out.mono ?_
          rintro e w1 ⟨rfl, hb1⟩
          go_wp2_with fail
          refine (HCUT.out _ (HC.out.below hb1)).mono ?_
          rintro e w2 ⟨rfl, hb2⟩
          have hb3 := below_step hb1 hb1.size hb2
          clear hb1 hb2 HONE HCUT
          go_wp2_with fail
          refine (HPA.out _ (HC.out.below hb3)).mono ?_
          rintro e w4 ⟨ra, ca, rb, cb, rfl, hca, hcb, hb4⟩
          have hb5 := below_step hb3 hb3.size hb4
          clear hb3 hb4 HPA
          go_wp2_with fail
          refine (HL.out _ _ _ hca).mono ?_
          rintro e w6 ⟨⟨s1, rfl, ht1, hs1⟩, hb6⟩
          have hcb6 := hcb.below hb6
          have hb7 := below_step hb5 hb5.size hb6
          have HT1 := Lib.hid ht1
          clear hb5 hb6 hcb hca HL ht1
          go_wp2_with fail
          refine (HR.out _ _ _ hcb6).mono ?_
          rintro e w8 ⟨⟨s2, rfl, ht2, hs2⟩, hb8⟩
          have hb9 := below_step hb7 hb7.size hb8
          have HT2 := Lib.hid ht2
          have hz : (⟨#[104]⟩ : ByteArray).size = 1 := rfl
          have hx : (⟨#[118, 104]⟩ : ByteArray).extract 1 2 = ⟨#[104]⟩ := by decide +kernel
          have hq : ((⟨#[104]⟩ : ByteArray) ++ s1).size = 1 + s1.size := size_app _ _
          have hc1 : (9223372036854775807 < (⟨#[104]⟩ : ByteArray).size + s1.size) = False := by simp only [eq_iff_iff, iff_false]; omega
          have hc2 : (9223372036854775807 < ((⟨#[104]⟩ : ByteArray) ++ s1).size + s2.size) = False := by simp only [eq_iff_iff, iff_false]; omega
          have hc3 : ((⟨#[104]⟩ : ByteArray) ++ s1 ++ s2).size ≤ 4 * m := by rw [size_app, hq]; omega
          have HC3 := Lib.hid hc3
          have HTX := Lib.hid (show ∀ t, A = some t → (⟨#[104]⟩ : ByteArray) ++ s1 ++ s2 = textT t from fun t ht => by
            obtain ⟨x, y, e1, e2, rfl⟩ := HAS.out t ht
            rw [HT1.out x e1, HT2.out y e2]; rfl)
          clear hb7 hb8 hcb6 HR ht2 HT1 HT2 HAS hc3 h4 h41 hz hq
          generalize ta.isSome = b1 at *
          generalize tb.isSome = b2 at *
          cases b1
          · go_wp2
            go_ret2
            exact ⟨⟨_, by rw [HAI.out]; rfl, HTX.out, HC3.out⟩, hb9⟩
          · go_wp2
            go_ret2
            exact ⟨⟨_, by rw [HAI.out]; rfl, HTX.out, HC3.out⟩, hb9⟩
    · rw [h1] at HONE
      rw [Rc.tree_one h1]
      have hrm := subP_room hp F
      have hl := subP_len F
      have hlt : gridG p R.r0 R.c0 < 9 := by
        have := gridG_lt (p := p) (i := R.r0) (j := R.c0) (by have := F.hh; have := F.h1; omega) (by have := F.hw; have := F.w1; omega)
        have := (PlanP.few hp); omega
      have hsz := subP_size hp.grid.even F F.h1
      have f1 := F.h1; have f2 := F.w1
      have hlen : 0 < (subP p R).length := by omega
      clear h1 HCUT HIH F
      have HC := Lib.hid hc
      obtain ⟨b0, o0, rfl, -⟩ := hc.str 0 hlen
      clear hc
      unfold byteAt at hrm
      generalize hq0 : (subP p R).getD 0 ByteArray.empty = s0 at *
      generalize gridG p R.r0 R.c0 = v at *
      have hs0 : 0 < s0.size := by omega
      have hidx := at_list s0 0 hs0
      generalize s0.data.toList.getD 0 0 = cc at *
      have HQ0 := Lib.hid hq0; have HLN := Lib.hid hlen
      have hcc : ((cc.toNat : Nat) : Int) = 97 + (v : Int) := by omega
      have HSZ := Lib.hid hsz
      have hsub : ((cc.toNat : Nat) : Int) - 97 = (v : Int) := by omega
      clear hq0 hl hlen hrm hsz
      have hRh : (0 : Int) < (R.h : Int) := by omega
      go_enter Try.func87, Try.ntmps87
      go_wp2_with fail
      refine HONE.out.mono ?_
      rintro e w1 ⟨rfl, hb1⟩
      obtain ⟨b1, o1, e1, kc⟩ := (HC.out.below hb1).str 0 HLN.out
      cases e1
      rw [HQ0.out, Nat.add_zero] at kc
      have hby : (97 + (v : Int) - 97 + 65) = (((UInt8.ofNat (65 + v)).toNat : Nat) : Int) := by
        rw [UInt8.toNat_ofNat', Nat.mod_eq_of_lt (by omega)]; omega
      obtain ⟨bt, hbt⟩ : ∃ bt, UInt8.ofNat (65 + v) = bt := ⟨_, rfl⟩
      rw [hbt] at hby
      have hone := CellsAt.one_byte w1 (97 + (v : Int) - 97 + 65) 5 bt hby
      have HON := Lib.hid hone
      have HBT := Lib.hid hbt
      clear hone hby hbt
      go_wp2_with (refine wpList_str_of_bytes _ rfl 110 9 5 _ rfl Try.underlying110 Try.underlying5 Try.underlying9 _ 1 _ rfl [bt] rfl HON.out ?_)
      go_ret2
      refine ⟨⟨_, rfl, fun t ht => ?_, ?_⟩, hb1.alloc hb1.size _⟩
      · cases ht; rw [← HBT.out]; rfl
      · show 1 ≤ _
        omega

end Go.Proofs.Ytlgbefmgpmdolaa

/-
  Plans that are cut: the model's answers whether, and how, a plan is cut. (Walks.)
-/
namespace Go.Proofs.Ytlgbefmgpmdolaa
open Go.RowKit

/-- all of a plan -/
def allR (p : List ByteArray) : Rc := ⟨0, p.length, 0, wideB p⟩
/-- the first way to cut a plan -/
def treeP (p : List ByteArray) : Option Tr := if planB p = true then (allR p).tree (gridG p) 12 else none
theorem treeP_no {p : List ByteArray} (h : planB p = false) : treeP p = none := by unfold treeP; rw [h]; rfl
theorem treeP_yes {p : List ByteArray} (h : planB p = true) : treeP p = (allR p).tree (gridG p) 12 := if_pos h
theorem allR_fit {p : List ByteArray} (h : planB p = true) : (allR p).Fit p.length (wideB p) ∧ (allR p).h + (allR p).w ≤ 12 := by
  have hg := (planP_of h).grid
  have := hg.h1; have := hg.h6; have := hg.w1; have := hg.w6
  exact ⟨⟨by unfold allR; omega, by unfold allR; omega, by unfold allR; simp, by unfold allR; simp⟩, by unfold allR; simp only; omega⟩
set_option maxRecDepth 100000 in
set_option maxHeartbeats 2000000 in
theorem specCutIs_any (ao : Option Addr) (cap : Nat) (p : List ByteArray) (w : World) (hl : p.length ≤ 1048576) (hs : ∀ s ∈ p, s.size ≤ 1048576) (hc : CellsAt w ao (p.map Value.string)) :
    Calls Try.prog 60 #[.slice ao p.length cap] w fun e w' => e = .returned (.bool (treeP p).isSome) ∧ Below w.heap.size w w' := by
  have HPI := Lib.hid (specPlanIn_any ao cap p w hl hs hc)
  cases h : planB p
  · rw [treeP_no h]
    rw [h] at HPI
    clear h
    go_enter Try.func60, Try.ntmps60
    go_wp2_with (go_at_call 86; refine HPI.out.mono ?_; rintro e w1 ⟨rfl, hb1⟩)
    go_ret
    exact ⟨rfl, hb1⟩
  · rw [treeP_yes h]
    obtain ⟨hf, hn⟩ := allR_fit h
    have HT := Lib.hid (fun w hc => l3Text_any (planP_of h) 12 (allR p) ao cap w hf hn (Nat.le_refl _) hc)
    have e1 : subP p (allR p) = p := subP_all (planP_of h).grid.even
    have e2 : (allR p).h = p.length := rfl
    rw [e1, e2] at HT
    rw [h] at HPI
    have HC := Lib.hid hc
    clear hc h hf hn e1 e2
    generalize (allR p).tree (gridG p) 12 = T at *
    go_enter Try.func60, Try.ntmps60
    go_wp2_with fail
    refine HPI.out.mono ?_
    rintro e w1 ⟨rfl, hb1⟩
    go_wp2_with fail
    refine (HT.out _ (HC.out.below hb1)).mono ?_
    rintro e w2 ⟨⟨s, rfl, -, -⟩, hb2⟩
    go_wp2
    go_ret
    exact ⟨rfl, below_step hb1 hb1.size hb2⟩
end Go.Proofs.Ytlgbefmgpmdolaa

/-
  Parts of plans: all of a plan. (Walk inside a fence.)
-/
namespace Go.Proofs.Ytlgbefmgpmdolaa
open Go.RowKit Go.Shelf

attribute [local go_sem] Oper.semAt_some

theorem wpListIn_pushK {F : Fence} {nn : Nat} {P : Program} (w : World) {ops : Array Oper} {rest : List Oper} {o : Oper} {a : Act} {Q : Exit → Act → World → Prop} (hgd : o.guard = none) (s x : Operand) (t : TypeId)
    (ho : o.op = .call { callee := .builtin .append, args := #[s, x], argTypes := #[t, t] })
    (base : Nat) (e : TypeId) (i : TypeInfo) (z : Value) (size bytes : Nat) (ht : P.underlying t = some (.slice e)) (hi : P.info? e = some i) (hz : i.zero = some z)
    (hsize : i.size = size) (hby : i.bytes = bytes) (hzs : z.cells.size = size) (hs0 : 0 < size) (ao : Option Addr) (n cap : Nat) (xs : List Value) (hs : a.eval s = .slice ao n cap) (hown : w.ownsRow base e size (.slice ao n cap) n xs)
    (us : List Value) (m g off c : Nat) (hx : a.eval x = .slice (some ⟨g, off, none⟩) m c) (hm : 0 < m) (hl : us.length = m * size) (hu : ∀ j v, us[j]? = some v → w.cell? ⟨g, off + j, none⟩ = some v) (h1 : ∀ v ∈ us, v.oneCell' = true) (h63 : n + m ≤ maxLen) (hbytes : (n + m) * bytes ≤ 140737488355328) (hbase : base ≤ w.heap.size)
    (h : ∀ ao' cap' w', w'.ownsRow base e size (.slice ao' (n + m) cap') (n + m) (xs ++ us) → w.grownBy w' (Value.ownBlock (.slice ao n cap)) → NewOr w ao ao' → wpListIn F nn P ops Q rest (a.put o.dst (.slice ao' (n + m) cap')) w') : wpListIn F nn P ops Q (o :: rest) a w := by
  refine wpListIn_plain hgd fun K hK' => ?_
  obtain ⟨ao', cap', w', hrun, r1, r2, r3⟩ := run_pushK (P := P) w base t o.type e i z size bytes ht hi hz hsize hby hzs hs0 ao n cap xs hown us m g off c hm hl hu h1 h63 hbytes hbase
  unfold Oper.wpIn
  refine ⟨?_, ?_⟩
  · simp [Oper.about, ho, resolve, Target.leads, Sem.run_pure]
  · rw [Oper.semAt_plain F _ _ (by rw [ho]; intro c hc'; cases hc')]
    simp [execOp, ho, resolve, invoke, builtin, hs, hx, hrun, Result.andThen]
    exact hK' _ _ (h ao' cap' w' r1 r2 r3)

/-- the places of boxes -/
def bx5 (x : Bx) : Array Value := #[.int .i64 (x.room : Nat), .int .i64 (x.row : Nat), .int .i64 (x.col : Nat), .int .i64 (x.high : Nat), .int .i64 (x.wide : Nat)]
def bxsV (L : List Bx) : List Value := L.flatMap fun x => (bx5 x).toList
theorem bxsV_snoc (L : List Bx) (x : Bx) : bxsV (L ++ [x]) = bxsV L ++ (bx5 x).toList := by simp [bxsV]
theorem bx5_ones (x : Bx) : ∀ v ∈ (bx5 x).toList, v.oneCell' = true := fun v hv => by
  simp only [bx5, List.mem_cons, List.not_mem_nil, or_false] at hv
  rcases hv with rfl | rfl | rfl | rfl | rfl <;> rfl

set_option maxRecDepth 100000 in
set_option maxHeartbeats 4000000 in
theorem whole_in (n : Nat) (hn : 6 ≤ n) (h wd r : Nat) (g : Nat → Nat → Nat) (hh : h ≤ 6) (hw : wd ≤ 6) (hr9 : r ≤ 9) (w : World) :
    CallsIn Fence.wide n Try.prog 36 #[.agg (planC h wd r g)] w fun e W' => ∃ ro rc, e = .returned (.slice ro (scanB h wd g (h * wd)).length rc) ∧ W'.ownsRow w.heap.size 103 5 (.slice ro (scanB h wd g (h * wd)).length rc) (scanB h wd g (h * wd)).length (bxsV (scanB h wd g (h * wd))) ∧ Below w.heap.size w W' := by
  have hF : ∀ k, Fence.wide.fn k := fun _ => trivial
  have hn1 : 1 ≤ n := by omega
  have H2 := Lib.hid (planC_2 h wd r g)
  have HCS := Lib.hid (planC_size h wd r g)
  have HST := Lib.hid (fun (b : Nat) (w : World) (hp : w.heap[b]? = some (.cells (planC h wd r g) 46 (0, 0))) => boxes_stops (n - 1) (by omega) b h wd r g hh hw w hp)
  generalize planC h wd r g = C at *
  have hsz : (Try.prog.info? 46).map (·.size) = some C.size := by rw [HCS.out]; kernel_rfl
  have HSZ := Lib.hid hsz; clear hsz
  obtain ⟨it, hti, htz, ht1, ht2⟩ := info_parts Try.infoPl
  have hG : (w.alloc (.cells C 46)).heap[w.heap.size]? = some (.cells C 46 (0, 0)) := HeldB.new w 46 C
  have c2 : (w.alloc (.cells C 46)).cell? ⟨w.heap.size, 2, none⟩ = some (.int .i64 r) := ((HeldB.new w 46 C).cell 2).trans H2.out
  have hrn : it.bytes * r ≤ 281474976710656 := by rw [ht2]; omega
  have hrm : r ≤ maxLen := by unfold maxLen; omega
  refine callsIn_of_wp_marks Try.func36 rfl trivial ?_ rfl
  simp only [Try.ntmps36, List.size_toArray, List.length_cons, List.length_nil, Nat.reduceAdd, Nat.reduceSub, Array.replicate_succ, Array.replicate_zero, List.push_toArray, List.append_toArray, List.nil_append, List.cons_append]
  gi_wp2_with (first
    | (refine wpListIn_make_own _ rfl _ _ 50 rfl (w.heap.size + 1) 103 it (.agg #[.int .i64 0, .int .i64 0, .int .i64 0, .int .i64 0, .int .i64 0]) 5 Try.underlying50 hti htz ht1 .i64 .i64 _ r rfl rfl rfl hrn hrm (by simp) ?_; intro w2 hown hgrow; have hb2 := below_of_grownBy (B := w.heap.size + 1) hgrow (by simp) (by simp); have hP2 : (w2.alloc (.cells #[.slice (some ⟨w.heap.size + 1, 0, none⟩) 0 r] 50)).heap[w.heap.size]? = some (.cells C 46 (0, 0)) := HeldB.alloc ((HeldB.new w 46 C).kept hgrow (by simp)) _)
    | (refine wpListIn_load_row rfl 46 _ rfl w.heap.size rfl 46 C (0, 0) _ hP2 Try.underlying46 rfl HSZ.out ?_)
    | (gi_at_call 66; refine (boxes_in _ C _).mono ?_; rintro e w' ⟨rfl, rfl⟩))
  have hs2 := hb2.size
  rw [World.size_alloc] at hs2
  have bG := HeldB.new (w2.alloc (.cells #[.slice (some ⟨w.heap.size + 1, 0, none⟩) 0 r] 50)) 46 C
  rw [World.size_alloc] at bG
  have bT := (HeldB.new w2 50 #[.slice (some ⟨w.heap.size + 1, 0, none⟩) 0 r]).alloc (.cells C 46)
  have hown0 := (hown.alloc (.cells #[.slice (some ⟨w.heap.size + 1, 0, none⟩) 0 r] 50)).alloc (.cells C 46)
  have hB0 : Below w.heap.size w ((w2.alloc (.cells #[.slice (some ⟨w.heap.size + 1, 0, none⟩) 0 r] 50)).alloc (.cells C 46)) :=
    ((((below_alloc w (.cells C 46)).trans (hb2.mono (by omega))).alloc (by omega) _).alloc (by rw [World.size_alloc]; omega) _)
  have hsz0 : ((w2.alloc (.cells #[.slice (some ⟨w.heap.size + 1, 0, none⟩) 0 r] 50)).alloc (.cells C 46)).heap.size = w2.heap.size + 2 := by simp
  obtain ⟨W0, hW0⟩ : ∃ W0, (w2.alloc (.cells #[.slice (some ⟨w.heap.size + 1, 0, none⟩) 0 r] 50)).alloc (.cells C 46) = W0 := ⟨_, rfl⟩
  rw [World.size_alloc] at hown0
  rw [hW0] at bG bT hown0 hB0 hsz0 ⊢
  clear hW0 hP2 hgrow hown hG c2 hb2
  have hw1s : w.heap.size + 1 ≤ w2.heap.size := hs2
  have hownE : W0.ownsRow (w.heap.size + 1) 103 5 (.slice (some ⟨w.heap.size + 1, 0, none⟩) 0 r) 0 (bxsV []) := hown0
  refine wpIn_rangeFunc_ownH rfl hn1 (gf := 93) (lb := #[.pointer (some ⟨w2.heap.size + 1, 0, none⟩)]) rfl trivial (enters_of Try.func93 (by kernel_rfl) rfl)
    (HST.out (w2.heap.size + 1) W0 bG) (fun {A B D} (h1 : B.heap[w2.heap.size + 1]? = A.heap[w2.heap.size + 1]?) (h2 : D.heap[w2.heap.size + 1]? = B.heap[w2.heap.size + 1]?) => h2.trans h1)
    (fun W l o o' hl _ _ _ => World.putObj_heap_other (by omega)) (Below.refl _ _) (fun _ => rfl)
    (fun pre W => ((∃ v, Boxed W w2.heap.size 50 v ∧ W.ownsRow (w.heap.size + 1) 103 5 v (pre : List Bx).length (bxsV pre) ∧ True) ∧ HeldB W (w2.heap.size + 1) 46 C) ∧ Below w.heap.size w W)
    (fun c pre W => (c = .ret ∧ (pre : List Bx).length < 0) ∧ Below w.heap.size w W)
    (OwnFrom.and (OwnFrom.and (Own.from (holdsRow_own (w.heap.size + 1) w2.heap.size 50 103 5 (fun pre : List Bx => pre.length) bxsV (fun _ _ => True)) _) (Own.from (heldB_own _ _ (fun _ => C)) _)) (ownFrom_below (Nat.le_refl _) (by omega)))
    (fun c => OwnFrom.and (ownFrom_pure _ (fun pre => c = .ret ∧ (pre : List Bx).length < 0)) (ownFrom_below (Nat.le_refl _) (by omega)))
    ⟨⟨⟨_, bT, hownE, trivial⟩, bG⟩, hB0⟩
    (fun x a' W => ∃ B, w2.heap.size + 1 < B ∧ HeldB W B 101 #[.int .i64 x.row, .int .i64 x.col, .int .i64 x.high, .int .i64 x.wide] ∧ a' = { tmps := #[.agg C, .pointer (some ⟨w.heap.size, 0, none⟩), .slice none 0 0, .pointer (some ⟨w2.heap.size, 0, none⟩), .int .i64 x.room, .pointer (some ⟨B, 0, none⟩), .pointer (some ⟨w.heap.size, 2, none⟩), .int .i64 r, .slice (some ⟨w.heap.size + 1, 0, none⟩) 0 r, .agg C, .func (.func 93) #[] #[.pointer (some ⟨w2.heap.size + 1, 0, none⟩)], .int .i64 x.room, .agg #[.int .i64 x.row, .int .i64 x.col, .int .i64 x.high, .int .i64 x.wide], undef, undef, undef, undef, undef, undef, undef], defers := [] })
    (fun x a' _ X Y row hs hg hr => by obtain ⟨B, h1, h2, h3⟩ := hs; exact ⟨B, h1, heldB_own B 101 (fun (_ : Unit) => #[.int .i64 x.row, .int .i64 x.col, .int .i64 x.high, .int .i64 x.wide]) () X Y row h2 hg (fun r e => (hr r e).2), h3⟩)
    ?assign ?body ?done ?stop
  case assign =>
    rintro l pre x W K ⟨⟨⟨v, bT1, hown1, _⟩, bG1⟩, hB1⟩ hK
    simp only [encB]
    gi_wp2
    exact hK _ _ ((KeepsOthers.alloc _ _).from _) (Below.heap_alloc W _ _ bG1.lt) ⟨⟨⟨v, bT1.alloc _, hown1.alloc _, trivial⟩, bG1.alloc _⟩, hB1.alloc hB1.size _⟩ ⟨W.heap.size, bG1.lt, HeldB.new W _ _, rfl⟩
  case body =>
    rintro l pre x a' W hl ⟨rl, hr⟩ ⟨⟨⟨v, bT1, hown1, _⟩, bG1⟩, hB1⟩ ⟨B, hBB, bX, rfl⟩ hlt
    have h1' : 1 ≤ n - 1 - 1 := by omega
    have cX0 : W.cell? ⟨B, 0, none⟩ = some (.int .i64 x.row) := bX.cell 0
    have cX1 : W.cell? ⟨B, 1, none⟩ = some (.int .i64 x.col) := bX.cell 1
    have cX2 : W.cell? ⟨B, 2, none⟩ = some (.int .i64 x.high) := bX.cell 2
    have cX3 : W.cell? ⟨B, 3, none⟩ = some (.int .i64 x.wide) := bX.cell 3
    obtain ⟨so, sc, rfl⟩ := ownsRow_shape hown1
    have cT := bT1.cell
    have fT := bT1.frozen
    have hb1' : pre.length + 1 ≤ maxLen := by unfold maxLen; omega
    have hb2' : (pre.length + 1) * 40 ≤ 140737488355328 := by omega
    gi_wp2_with (refine wpListIn_pushK _ rfl _ _ 50 rfl (w.heap.size + 1) 103 it (.agg #[.int .i64 0, .int .i64 0, .int .i64 0, .int .i64 0, .int .i64 0]) 5 40 Try.underlying50 hti htz ht1 ht2 rfl (by decide) so pre.length sc _ rfl (hown1.alloc _) (bx5 x).toList 1 _ 0 1 rfl (by decide) rfl (cells_new _ _ _) (bx5_ones x) hb1' hb2' (by have := bT1.lt; simp; omega) ?_; intro so2 sc2 w4 hown4 hg4 hnew4; obtain ⟨y1, y2, y3, y4, y5⟩ := Boxed.appended (W := W) (n₀ := w.heap.size + 1) bT1 (by decide) hown1 (by have := bT1.lt; omega) (by omega) hown4 hg4; have d1 := y1.cell; have d2 := y1.frozen)
    have bG4 := ((bG1.alloc (.cells #[.int .i64 (x.room : Int), .int .i64 (x.row : Int), .int .i64 (x.col : Int), .int .i64 (x.high : Int), .int .i64 (x.wide : Int)] 103)).kept hg4 (heldB_not_row bG1 (by decide) hown1)).other (a := ⟨w2.heap.size, 0, none⟩) (by simp) (.slice so2 (pre.length + 1) sc2)
    exact ⟨y4.from _, bG4.trans (Eq.symm bG1), ⟨⟨⟨_, y2, by rw [List.length_append, bxsV_snoc]; exact y3, trivial⟩, bG4⟩, hB1.trans (y5.mono (by omega))⟩⟩
  case done =>
    rintro D ys W hD rfl ⟨⟨⟨v, bT1, hown1, _⟩, bG1⟩, hB1⟩ hK
    obtain ⟨so, sc, rfl⟩ := ownsRow_shape hown1
    have cT := bT1.cell
    have hown2 := ownsRow_putObj hown1 (.deferred none) hK rfl
    gi_wp2
    refine ⟨by simp, .inl ⟨_, _, rfl, run_takeDeferred hK, ?_⟩⟩
    refine ⟨.slice so (scanB h wd g (h * wd)).length sc, ?_, ⟨so, sc, rfl, ownsRow_base hown2 (by omega), hB1.trans (belowK_b (w := w) (Nat.le_refl _) W D _ _ (by omega) hK rfl rfl)⟩⟩
    simp [results, Try.f36, go_sem]
  case stop =>
    rintro D c pre W hD ⟨t, ht, rfl⟩ ⟨⟨rfl, hf⟩, hB1⟩ hK
    exact absurd hf (Nat.not_lt_zero _)

end Go.Proofs.Ytlgbefmgpmdolaa

/-
  The program asks whether a plan is cuttable. (Walks.)
-/
namespace Go.Proofs.Ytlgbefmgpmdolaa
open Go.RowKit

def noBx : Bx := ⟨0, 0, 0, 0, 0, by omega, by omega, by omega⟩
def bxP (p : List ByteArray) (a : Nat) : Bx := ((scanB p.length (wideB p) (gridG p) (p.length * wideB p))[a]?).getD noBx
theorem bxP_of {p : List ByteArray} (hp : PlanP p) {a : Nat} (ha : a < gridR p) : BoxOf p a (bxP p a) := by
  obtain ⟨x, hx, hb⟩ := hp.boxes.2 a ha
  unfold bxP; rw [hx]; exact hb
theorem boxy_of {p : List ByteArray} (hp : PlanP p) : Boxy p.length (wideB p) (gridG p) (gridR p) (bxP p) :=
  ⟨hp.grid.h6, hp.grid.w6, hp.few, hp.rect.of_same (fun i j i' j' a b c d => by rw [hp.mark i j a b, hp.mark i' j' c d]), fun i j hi hj => gridG_lt hi hj, fun a ha => (bxP_of hp ha).2.1, fun a ha => (bxP_of hp ha).2.2.1, fun a ha => (bxP_of hp ha).2.2.2.1, fun a ha => (bxP_of hp ha).2.2.2.2.1,
    fun a i j ha hi hj => by rw [← hp.mark i j hi hj]; exact (bxP_of hp ha).2.2.2.2.2 i j hi hj⟩
theorem bxsV_range {bx : Nat → Bx} {L : List Bx} (h : ∀ a, a < L.length → ∃ x, L[a]? = some x ∧ bx a = x ∧ x.room = a) : ∀ n, n ≤ L.length → bxsV (L.take n) = plL bx (List.range n)
  | 0, _ => rfl
  | n + 1, hn => by
    obtain ⟨x, hx, hb, hr⟩ := h n (by omega)
    have hxx := (List.getElem?_eq_some_iff.1 hx)
    rw [List.take_add_one, hx, List.range_succ, plL_snoc]
    show bxsV (L.take n ++ [x]) = _
    rw [bxsV_snoc, bxsV_range h n (by omega)]
    congr 1
    unfold bx5 pl1
    rw [hb, hr]
theorem bxsV_plan {p : List ByteArray} (hp : PlanP p) : bxsV (scanB p.length (wideB p) (gridG p) (p.length * wideB p)) = plL (bxP p) (List.range (gridR p)) ∧ (scanB p.length (wideB p) (gridG p) (p.length * wideB p)).length = gridR p := by
  obtain ⟨hl, hb⟩ := hp.boxes
  refine ⟨?_, hl⟩
  have := bxsV_range (bx := bxP p) (L := scanB p.length (wideB p) (gridG p) (p.length * wideB p)) (fun a ha => by
    rw [hl] at ha
    obtain ⟨x, hx, hbx⟩ := hb a ha
    exact ⟨x, hx, by unfold bxP; rw [hx]; rfl, hbx.1⟩) (gridR p) (by omega)
  rwa [List.take_of_length_le (by omega)] at this
theorem allR_clo {p : List ByteArray} (h : planB p = true) : (allR p).Clo (gridG p) p.length (wideB p) :=
  ⟨(allR_fit h).1, fun _ _ i' j' _ h1 h2 _ => by unfold allR Rc.has; simp; exact ⟨h1, h2⟩⟩
theorem allR_rooms {p : List ByteArray} (h : planB p = true) : (allR p).rooms (gridG p) (gridR p) = List.range (gridR p) := by
  unfold Rc.rooms
  rw [List.filter_eq_self]
  intro a ha
  rw [List.mem_range] at ha
  have hp := planP_of h
  have hb := bxP_of hp ha
  have h1 := hb.2.1; have h2 := hb.2.2.1; have h3 := hb.2.2.2.1; have h4 := hb.2.2.2.2.1
  rw [Rc.room_iff]
  refine ⟨(bxP p a).row, (bxP p a).col, ?_, ?_⟩
  · unfold allR Rc.has; simp only; omega
  · exact ((boxy_of hp).cell a _ _ ha (by omega) (by omega)).2 ⟨by omega, by omega, by omega, by omega⟩
theorem whole_any (h wd r : Nat) (g : Nat → Nat → Nat) (hh : h ≤ 6) (hw : wd ≤ 6) (hr9 : r ≤ 9) (w : World) :
    Calls Try.prog 36 #[.agg (planC h wd r g)] w fun e W' => ∃ ro rc, e = .returned (.slice ro (scanB h wd g (h * wd)).length rc) ∧ W'.ownsRow w.heap.size 103 5 (.slice ro (scanB h wd g (h * wd)).length rc) (scanB h wd g (h * wd)).length (bxsV (scanB h wd g (h * wd))) ∧ Below w.heap.size w W' :=
  callsIn_wide.1 (whole_in 6 (Nat.le_refl _) h wd r g hh hw hr9 w)

end Go.Proofs.Ytlgbefmgpmdolaa
