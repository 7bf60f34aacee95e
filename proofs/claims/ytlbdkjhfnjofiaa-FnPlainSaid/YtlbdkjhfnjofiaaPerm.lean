
/-
  Merged texts: SortM PermM.
-/
import Derived.Test.YtlbdkjhfnjofiaaBesM
import Derived.Test.YtlbdkjhfnjofiaaLaws
import Derived.Test.YtlbdkjhfnjofiaaDraw

/-
  A list put in order: the walk and its mathematics; areas of plans turned.
-/
namespace Go.Proofs.Ytlbdkjhfnjofiaa
open Go.RowKit

/-- numbers held in a row -/
def RowI (w : World) (g : Nat) (L : List Int) : Prop := ∃ cur, HeldB w g 3 cur ∧ ∀ j, j < L.length → cur[j]? = (L.map (Value.int .i64))[j]?
theorem RowI.cell {w : World} {g : Nat} {L : List Int} (h : RowI w g L) (j : Nat) (hj : j < L.length) : w.cell? ⟨g, j, none⟩ = some (.int .i64 (L.getD j 0)) := by
  obtain ⟨cur, h1, h2⟩ := h
  rw [h1.cell j, h2 j hj]
  simp [hj]
theorem RowI.frozen {w : World} {g : Nat} {L : List Int} (h : RowI w g L) (j : Nat) : w.frozen? ⟨g, j, none⟩ = false := by
  obtain ⟨cur, h1, h2⟩ := h
  exact h1.frozen j
theorem RowI.set {w : World} {g : Nat} {L : List Int} (h : RowI w g L) (i : Nat) (x : Int) : RowI (w.setCell ⟨g, i, none⟩ (.int .i64 x)) g (L.set i x) := by
  obtain ⟨cur, h1, h2⟩ := h
  refine ⟨_, h1.set i _, fun j hj => ?_⟩
  rw [List.length_set] at hj
  have h3 := h2 j hj
  have h4 : j < cur.size := by
    rcases Nat.lt_or_ge j cur.size with h5 | h5
    · exact h5
    · rw [Array.getElem?_eq_none h5, List.getElem?_eq_getElem (by rw [List.length_map]; exact hj)] at h3; cases h3
  rw [List.map_set, Array.getElem?_setIfInBounds, List.getElem?_set]
  split
  · rename_i h5; subst h5; rw [if_pos h4, if_pos (by rw [List.length_map]; exact hj)]
  · exact h3
theorem RowI.cells {w : World} {g : Nat} {L : List Int} (h : RowI w g L) : CellsAt w (some ⟨g, 0, none⟩) (L.map (Value.int .i64)) := fun j u hu => by
  obtain ⟨cur, h1, h2⟩ := h
  refine ⟨g, 0, rfl, ?_⟩
  have hj : j < L.length := by have := (List.getElem?_eq_some_iff.1 hu).1; rwa [List.length_map] at this
  rw [Nat.zero_add, h1.cell j, h2 j hj]; exact hu

/-- in order up to a place, but for one place whose number is not above those behind it -/
def OrdX (D : List Int) (k i : Nat) (x : Int) : Prop := (∀ a b, a < b → b ≤ i → a ≠ k → b ≠ k → D.getD a 0 ≤ D.getD b 0) ∧ (∀ b, k < b → b ≤ i → x ≤ D.getD b 0)
def OrdL (D : List Int) (i : Nat) : Prop := ∀ a b, a < b → b < i → D.getD a 0 ≤ D.getD b 0

theorem getD_set' (D : List Int) (i j : Nat) (x : Int) (hi : i < D.length) : (D.set i x).getD j 0 = if j = i then x else D.getD j 0 := by
  rw [List.getD_eq_getElem?_getD, List.getElem?_set]
  by_cases h : i = j
  · subst h; rw [if_pos rfl, if_pos hi, if_pos rfl]; rfl
  · rw [if_neg h, if_neg (fun e => h e.symm), List.getD_eq_getElem?_getD]
theorem set_self (L : List Int) (i : Nat) (hi : i < L.length) : L.set i (L.getD i 0) = L := by
  have : L.getD i 0 = L[i] := by simp [hi]
  rw [this]
  exact List.set_getElem_self hi
theorem ord_begin {L : List Int} {i : Nat} (h : OrdL L i) : OrdX L i i (L.getD i 0) :=
  ⟨fun a b h1 h2 h3 h4 => h a b h1 (by omega), fun b h1 h2 => by omega⟩
theorem ord_end {D : List Int} {k i : Nat} {x : Int} (h : OrdX D k i x) (hx : D.getD k 0 = x) (hk : k = 0 ∨ D.getD (k - 1) 0 ≤ x) : OrdL D (i + 1) := fun a b h1 h2 => by
  by_cases ha : a = k
  · subst ha; rw [hx]; exact h.2 b h1 (by omega)
  · by_cases hb : b = k
    · subst hb
      rw [hx]
      rcases hk with hk | hk
      · omega
      · by_cases h3 : a = b - 1
        · subst h3; exact hk
        · exact Int.le_trans (h.1 a (b - 1) (by omega) (by omega) ha (by omega)) hk
    · exact h.1 a b h1 (by omega) ha hb
theorem ord_step {D : List Int} {k i : Nat} {x y : Int} (h : OrdX D k i x) (hk : 0 < k) (hki : k ≤ i) (hi : i < D.length) (hy : D.getD (k - 1) 0 = y) (hx : x < y) :
    OrdX ((D.set k y).set (k - 1) x) (k - 1) i x := by
  have e : ∀ j, ((D.set k y).set (k - 1) x).getD j 0 = if j = k - 1 then x else if j = k then y else D.getD j 0 := fun j => by
    rw [getD_set' _ _ _ _ (by rw [List.length_set]; omega), getD_set' _ _ _ _ (by omega)]
  refine ⟨fun a b h1 h2 h3 h4 => ?_, fun b h1 h2 => ?_⟩
  · rw [e, e, if_neg h3, if_neg h4]
    by_cases ha : a = k
    · subst ha; rw [if_pos rfl, if_neg (by omega), ← hy]
      exact h.1 (a - 1) b (by omega) h2 (by omega) (by omega)
    · rw [if_neg ha]
      by_cases hb : b = k
      · subst hb; rw [if_pos rfl, ← hy]
        exact h.1 a (b - 1) (by omega) (by omega) ha (by omega)
      · rw [if_neg hb]; exact h.1 a b h1 h2 ha hb
  · rw [e, if_neg (by omega)]
    by_cases hb : b = k
    · rw [if_pos hb]; omega
    · rw [if_neg hb]; exact h.2 b (by omega) h2
theorem perm_step {D : List Int} {k : Nat} {x y : Int} (hk : 0 < k) (hl : k < D.length) (hx : D.getD k 0 = x) (hy : D.getD (k - 1) 0 = y) : ((D.set k y).set (k - 1) x).Perm D := by
  have := @List.set_set_perm Int D k (k - 1) hl (by omega)
  rw [show D[k] = x by rw [← hx]; simp [hl], show D[k - 1]'(by omega) = y by rw [← hy]; simp [show k - 1 < D.length by omega]] at this
  exact this
theorem pair_of {s : List Int} (h : OrdL s s.length) : s.Pairwise (· ≤ ·) := by
  rw [List.pairwise_iff_getElem]
  intro i j hi hj hij
  have := h i j hij hj
  simpa [hi, hj] using this
theorem sorted_same {s t a b : List Int} (h1 : s.Perm a) (h2 : t.Perm b) (hab : a.Perm b) (hs : s.Pairwise (· ≤ ·)) (ht : t.Pairwise (· ≤ ·)) : s = t :=
  List.Perm.eq_of_pairwise (le := (· ≤ ·)) (fun _ _ _ _ h1 h2 => Int.le_antisymm h1 h2) hs ht (h1.trans (hab.trans h2.symm))

end Go.Proofs.Ytlbdkjhfnjofiaa

/-
  Areas of plans turned are the same ones in some order. (Mathematics.)
-/
namespace Go.Proofs.Ytlbdkjhfnjofiaa
open Go.RowKit

theorem areas_perm {q : List ByteArray} {h wd : Nat} {m : Nat → Nat → Nat} (x : Is q h wd m) : (areasOr q).Perm ((markF h wd m).map fun v => ((cntG h wd (fun i j => m i j == v) : Nat) : Int)) := by
  have hP := planP_of x.plan
  have hs : SameG h wd (markN q) m := (x.same.trans (sameG_eq fun i j hi hj => (hP.mark i j (by rw [x.len]; exact hi) (by rw [x.wide]; exact hj)).symm)).symm
  rw [areas_cnt x.plan, x.len, x.wide, markF_map hs, List.map_map]
  have hr : (List.range (gridR q)).Perm (markF h wd (markN q)) := by
    refine (List.perm_ext_iff_of_nodup List.nodup_range (markF_nodup _ _ _)).2 fun v => ?_
    rw [List.mem_range, mem_markF]
    constructor
    · intro hv
      obtain ⟨i, j, hi, hj, e⟩ := room_cell (h := q.length) (wd := wideB q) (m := markN q) hv
      exact ⟨i, j, by rw [← x.len]; exact hi, by rw [← x.wide]; exact hj, (hP.mark i j hi hj).trans e⟩
    · rintro ⟨i, j, hi, hj, e⟩
      rw [← e]
      exact hP.lt (by rw [x.len]; exact hi) (by rw [x.wide]; exact hj)
  refine (hr.map _).trans ?_
  rw [List.map_congr_left (g := fun v => ((cntG h wd (fun i j => m i j == toMark h wd (markN q) m v) : Nat) : Int)) fun v hv => ?_]
  · exact List.Perm.refl _
  · obtain ⟨a, b, ha, hb, rfl⟩ := mem_markF.1 hv
    rw [toMark_at hs ha hb]
    congr 1
    refine cntG_congr fun i j hi hj => ?_
    have := hs a b i j ha hb hi hj
    rw [Bool.eq_iff_iff, beq_iff_eq, beq_iff_eq]
    exact this.symm
theorem sumN_rev (n : Nat) (f : Nat → Nat) : sumN n (fun i => f (n - 1 - i)) = sumN n f := by
  induction n generalizing f with
  | zero => rfl
  | succ n ih =>
    have e1 : sumN (n + 1) f = f 0 + sumN n (fun i => f (i + 1)) := by
      have : ∀ n, sumN (n + 1) f = f 0 + sumN n (fun i => f (i + 1)) := fun n => by
        induction n with
        | zero => simp [sumN]
        | succ n ih => rw [sumN, ih, sumN]; omega
      exact this n
    rw [e1, sumN, ← ih (fun i => f (i + 1))]
    have e2 : sumN n (fun i => f (n + 1 - 1 - i)) = sumN n (fun i => f (n - 1 - i + 1)) := sumN_congr fun i hi => by congr 1; omega
    rw [e2, show n + 1 - 1 - n = 0 by omega]
    omega
theorem perm_of {h wd h' wd' : Nat} {m m' : Nat → Nat → Nat} (hm : ∀ v, (∃ i j, i < h ∧ j < wd ∧ m i j = v) ↔ ∃ i j, i < h' ∧ j < wd' ∧ m' i j = v) (hc : ∀ v, cntG h wd (fun i j => m i j == v) = cntG h' wd' (fun i j => m' i j == v)) :
    ((markF h wd m).map fun v => ((cntG h wd (fun i j => m i j == v) : Nat) : Int)).Perm ((markF h' wd' m').map fun v => ((cntG h' wd' (fun i j => m' i j == v) : Nat) : Int)) := by
  have e : (fun v => ((cntG h wd (fun i j => m i j == v) : Nat) : Int)) = fun v => ((cntG h' wd' (fun i j => m' i j == v) : Nat) : Int) := by funext v; rw [hc v]
  rw [e]
  refine List.Perm.map _ ((List.perm_ext_iff_of_nodup (markF_nodup _ _ _) (markF_nodup _ _ _)).2 fun v => ?_)
  rw [mem_markF, mem_markF]
  exact hm v
theorem areas_trans {p : List ByteArray} (h : planB p = true) : (areasOr (namesB (transB p))).Perm (areasOr p) := by
  refine ((areas_perm (is_trans h)).trans (perm_of ?_ fun v => ?_)).trans (areas_perm (Is.self h)).symm
  · intro v
    constructor
    · rintro ⟨i, j, hi, hj, e⟩; exact ⟨j, i, hj, hi, e⟩
    · rintro ⟨i, j, hi, hj, e⟩; exact ⟨j, i, hj, hi, e⟩
  · unfold cntG; exact sumN_comm _ _ _
theorem areas_turn {p : List ByteArray} (h : planB p = true) : (areasOr (namesB (turnB p))).Perm (areasOr p) := by
  refine ((areas_perm (is_turn h)).trans (perm_of ?_ fun v => ?_)).trans (areas_perm (Is.self h)).symm
  · intro v
    constructor
    · rintro ⟨i, j, hi, hj, e⟩; exact ⟨p.length - 1 - j, i, by omega, hi, e⟩
    · rintro ⟨i, j, hi, hj, e⟩; exact ⟨j, p.length - 1 - i, hj, by omega, by show gridG p (p.length - 1 - (p.length - 1 - i)) j = v; rw [show p.length - 1 - (p.length - 1 - i) = i by omega]; exact e⟩
  · unfold cntG
    rw [sumN_comm]
    exact sumN_rev p.length (fun i => sumN (wideB p) fun j => if (gridG p i j == v) = true then 1 else 0)

end Go.Proofs.Ytlbdkjhfnjofiaa
