
/-
  Plain mathematics: the program takes a list for a plan just if the model does.
-/
import Derived.Test.YtieieokkaomkaaaMathC
namespace Go.Proofs.Ytieieokkaomkaaa
open Go.RowKit

/-- the model's test of a room is that its cells are a rectangle -/
theorem boxOk_iff {p : List ByteArray} (hp : GridP p) (r : Nat) (hr : ∃ i j, i < p.length ∧ j < wideB p ∧ markN p i j = r) : boxOkB p (r : Int) = true ↔ RectOf p.length (wideB p) (markN p) r := by
  obtain ⟨hall, ⟨i1, j1, a1, b1, c1, d1⟩, ⟨i2, j2, a2, b2, c2, d2⟩, ⟨i3, j3, a3, b3, c3, d3⟩, ⟨i4, j4, a4, b4, c4, d4⟩⟩ := boxB_eq hp r hr
  have h6 := hp.h6
  have w6 := hp.w6
  unfold boxOkB
  rw [cellsB_eq hp r, ← d1, ← d2, ← d3, ← d4]
  rw [← d1, ← d2, ← d3, ← d4] at hall
  have o1 := hall i1 j1 a1 b1 c1
  have o4 := hall i4 j4 a4 b4 c4
  have harea : wrap64 (((i2 : Int) - (i1 : Int) + 1) * ((j4 : Int) - (j3 : Int) + 1)) = (((i2 + 1 - i1) * (j4 + 1 - j3) : Nat) : Int) := by
    have e1 : (i2 : Int) - (i1 : Int) + 1 = ((i2 + 1 - i1 : Nat) : Int) := by omega
    have e2 : (j4 : Int) - (j3 : Int) + 1 = ((j4 + 1 - j3 : Nat) : Int) := by omega
    have hm : (i2 + 1 - i1) * (j4 + 1 - j3) ≤ 6 * 6 := Nat.mul_le_mul (by omega) (by omega)
    rw [e1, e2, ← Int.natCast_mul]
    generalize (i2 + 1 - i1) * (j4 + 1 - j3) = x at hm
    unfold wrap64
    omega
  rw [harea, beq_iff_eq, Int.ofNat_inj]
  constructor
  · intro he
    refine ⟨i1, j3, i2 + 1 - i1, j4 + 1 - j3, by omega, by omega, fun i j hi hj => ?_⟩
    have hsub : ∀ i j, i < p.length → j < wideB p → (markN p i j == r) = true → decide (InR i1 j3 (i2 + 1 - i1) (j4 + 1 - j3) i j) = true := fun i j hi hj hm => by
      rw [decide_eq_true_eq]
      have := hall i j hi hj (by simpa using hm)
      exact ⟨by omega, by omega, by omega, by omega⟩
    have := cntG_eq hsub (by rw [cntG_rect (by omega) (by omega)]; exact he) i j hi hj
    constructor
    · intro hm
      rw [hm, beq_self_eq_true] at this
      simpa using this.symm
    · intro hin
      rw [decide_eq_true hin] at this
      simpa using this
  · rintro ⟨row, col, hi, wi, h1, h2, h3⟩
    have p1 := (h3 i1 j1 a1 b1).1 c1
    have p2 := (h3 i2 j2 a2 b2).1 c2
    have p3 := (h3 i3 j3 a3 b3).1 c3
    have p4 := (h3 i4 j4 a4 b4).1 c4
    unfold InR at p1 p2 p3 p4
    have q1 := hall row col (by omega) (by omega) ((h3 row col (by omega) (by omega)).2 ⟨by omega, by omega, by omega, by omega⟩)
    have q2 := hall (row + hi - 1) (col + wi - 1) (by omega) (by omega) ((h3 (row + hi - 1) (col + wi - 1) (by omega) (by omega)).2 ⟨by omega, by omega, by omega, by omega⟩)
    rw [show i2 + 1 - i1 = hi from by omega, show j4 + 1 - j3 = wi from by omega, ← cntG_rect h1 h2]
    refine cntG_congr fun i j hi' hj' => ?_
    have := h3 i j hi' hj'
    by_cases hin : InR row col hi wi i j
    · rw [decide_eq_true hin, this.2 hin, beq_self_eq_true]
    · rw [decide_eq_false hin, beq_eq_false_iff_ne]
      exact fun he => hin (this.1 he)

/-! ### letters and marks -/

section
variable {α β : Type} [DecidableEq α] [DecidableEq β]

theorem idxOf_map {φ : α → β} {l : List α} {c : α} (h : ∀ x ∈ l, φ x = φ c → x = c) : (l.map φ).idxOf (φ c) = l.idxOf c := by
  induction l with
  | nil => rfl
  | cons x l ih =>
    rw [List.map_cons, List.idxOf_cons, List.idxOf_cons]
    by_cases hx : x = c
    · subst hx; simp
    · have hx2 : φ x ≠ φ c := fun he => hx (h x (by simp) he)
      rw [beq_false_of_ne hx, beq_false_of_ne hx2, cond_false, cond_false, ih fun y hy => h y (by simp [hy])]

theorem firsts_map {φ : α → β} {l : List α} (h : ∀ x ∈ l, ∀ y ∈ l, φ x = φ y → x = y) : firsts (l.map φ) = (firsts l).map φ := by
  induction l using snoc_ind with
  | h0 => rfl
  | h1 l c ih =>
    have ih' := ih fun x hx y hy => h x (by simp [hx]) y (by simp [hy])
    rw [List.map_append, List.map_singleton, firsts_snoc, firsts_snoc, ih']
    have hiff : φ c ∈ (firsts l).map φ ↔ c ∈ firsts l := by
      rw [List.mem_map]
      constructor
      · rintro ⟨x, hx, he⟩
        have := h x (by rw [mem_firsts] at hx; simp [hx]) c (by simp) he
        rw [← this]; exact hx
      · intro hc; exact ⟨c, hc, rfl⟩
    by_cases hc : c ∈ firsts l
    · rw [if_pos hc, if_pos (hiff.2 hc)]
    · rw [if_neg hc, if_neg (fun hh => hc (hiff.1 hh)), List.map_append, List.map_singleton]
end

/-- the mark of a letter -/
def markC (c : UInt8) : Nat := (c.toNat - 97) % 26
theorem markC_at (p : List ByteArray) (i j : Nat) : markC (byteAt p i j) = markN p i j := rfl
theorem markC_inj {c d : UInt8} (hc : 97 ≤ c.toNat ∧ c.toNat ≤ 122) (hd : 97 ≤ d.toNat ∧ d.toNat ≤ 122) (h : markC c = markC d) : c = d := by
  unfold markC at h
  apply UInt8.toNat_inj.1
  omega

/-- the bytes ahead of a cell -/
def ahead (p : List ByteArray) (i j : Nat) : List UInt8 := flat (p.take i) ++ (p.getD i ByteArray.empty).data.toList.take j

theorem ahead_succ {p : List ByteArray} {i j : Nat} (hj : j < (p.getD i ByteArray.empty).size) : ahead p i (j + 1) = ahead p i j ++ [byteAt p i j] := by
  unfold ahead
  rw [take_succ_getD _ j 0 (by rw [size_list]; exact hj), List.append_assoc]; rfl
theorem ahead_row {p : List ByteArray} {i : Nat} (hi : i < p.length) : ahead p (i + 1) 0 = ahead p i (p.getD i ByteArray.empty).size := by
  have h2 : (p.getD i ByteArray.empty).data.toList.take (p.getD i ByteArray.empty).size = (p.getD i ByteArray.empty).data.toList := List.take_of_length_le (by rw [size_list]; exact Nat.le_refl _)
  unfold ahead
  rw [take_succ_getD p i ByteArray.empty hi, flat_snoc, List.take_zero, List.append_nil, h2]

theorem marks_ahead {p : List ByteArray} (hp : Even p) : ∀ i, i ≤ p.length → ∀ j, j ≤ wideB p → (j = 0 ∨ i < p.length) → markL (wideB p) (markN p) (i * wideB p + j) = (ahead p i j).map markC := by
  intro i
  induction i with
  | zero =>
    intro _ j
    induction j with
    | zero => intro _ _; simp [ahead, flat, markL]
    | succ j ih =>
      intro hj h0
      have h0' : 0 < p.length := by omega
      rw [show 0 * wideB p + (j + 1) = 0 * wideB p + j + 1 from rfl, markL_succ _ _ _ _ (by omega), ih (by omega) (.inr h0'), ahead_succ (by rw [hp 0 h0']; omega), List.map_append, List.map_singleton, markC_at]
  | succ i ihi =>
    intro hi j
    induction j with
    | zero =>
      intro _ _
      rw [ahead_row (by omega), hp i (by omega), ← ihi (by omega) (wideB p) (Nat.le_refl _) (.inr (by omega)), Nat.succ_mul]
      rfl
    | succ j ih =>
      intro hj h0
      have h0' : i + 1 < p.length := by omega
      rw [show (i + 1) * wideB p + (j + 1) = (i + 1) * wideB p + j + 1 from rfl, markL_succ _ _ _ _ (by omega), ih (by omega) (.inr h0'), ahead_succ (by rw [hp (i + 1) h0']; omega), List.map_append, List.map_singleton, markC_at]

theorem flat_small {p : List ByteArray} (hp : GridP p) {c : UInt8} (hc : c ∈ flat p) : 97 ≤ c.toNat ∧ c.toNat ≤ 122 := by
  unfold flat at hc
  rw [List.mem_flatMap] at hc
  obtain ⟨s, hs, hcs⟩ := hc
  obtain ⟨i, hi, rfl⟩ := List.getElem_of_mem hs
  have h2 := hp.small i hi
  have he : p.getD i ByteArray.empty = p[i] := by simp [hi]
  rw [he] at h2
  unfold smallB at h2
  rw [List.all_eq_true] at h2
  simpa using h2 c hcs

theorem flat_at {p : List ByteArray} (hp : GridP p) {i j : Nat} (hi : i < p.length) (hj : j < wideB p) : ∃ R, flat p = ahead p i j ++ byteAt p i j :: R :=
  ⟨_, flat_split p i j hi (by rw [size_list, hp.even i hi]; exact hj)⟩

/-- the number of a cell's room is the number of its letter -/
theorem gridG_letter {p : List ByteArray} (hp : GridP p) {i j : Nat} (hi : i < p.length) (hj : j < wideB p) : gridG p i j = (firsts (flat p)).idxOf (byteAt p i j) := by
  obtain ⟨R, hR⟩ := flat_at hp hi hj
  have hs : ∀ x ∈ ahead p i j ++ [byteAt p i j], 97 ≤ x.toNat ∧ x.toNat ≤ 122 := fun x hx => flat_small hp (by
    rw [hR]
    rw [List.mem_append, List.mem_singleton] at hx
    rw [List.mem_append, List.mem_cons]
    rcases hx with h | h
    · exact .inl h
    · exact .inr (.inl h))
  unfold gridG
  rw [renG_in hi hj, markF_idx _ _ _ _ _ hi hj, marks_ahead hp.even i (by omega) j (by omega) (.inr hi)]
  rw [hR, name_at, firsts_map fun x hx y hy he => markC_inj (hs x (by simp [hx])) (hs y (by simp [hy])) he, ← markC_at]
  exact idxOf_map fun x hx he => markC_inj (hs x (by rw [mem_firsts] at hx; simp [hx])) (hs _ (by simp)) he

theorem rows_names {p : List ByteArray} (hp : GridP p) : rowsT p.length (wideB p) (gridG p) = namesB p := by
  apply List.ext_getElem
  · rw [rowsT_len, namesB_len]
  · intro i h1 h2
    have hi : i < p.length := by rw [rowsT_len] at h1; exact h1
    have he : p.getD i ByteArray.empty = p[i] := by simp [hi]
    simp only [rowsT, namesB, List.getElem_map, List.getElem_range]
    congr 2
    apply List.ext_getElem
    · rw [rowT_len]
      unfold namesL
      rw [List.length_map, size_list, ← he, hp.even i hi]
    · intro j h3 h4
      have hj : j < wideB p := by rw [rowT_len] at h3; exact h3
      have hb : p[i].data.toList.getD j 0 = byteAt p i j := by unfold byteAt; rw [he]
      have h5 : j < p[i].data.toList.length := by unfold namesL at h4; rw [List.length_map] at h4; exact h4
      have hb2 : p[i].data.toList[j] = byteAt p i j := by rw [← hb, List.getD_eq_getElem?_getD, List.getElem?_eq_getElem h5]; rfl
      simp only [rowT, namesL, List.getElem_map, List.getElem_range]
      rw [gridG_letter hp hi hj, hb2]

theorem gridG_36 {p : List ByteArray} (hp : GridP p) (i j : Nat) : gridG p i j ≤ 36 := by
  refine Nat.le_trans (renG_le _ _ _ _ _) ?_
  unfold markF
  refine Nat.le_trans (firsts_len _) ?_
  simp only [markL, List.length_map, List.length_range]
  exact Nat.mul_le_mul hp.h6 hp.w6

/-- where the letters are those given anew, marks and numbers are the same -/
theorem marks_rooms {p : List ByteArray} (hp : GridP p) (he : namesB p = p) {i j : Nat} (hi : i < p.length) (hj : j < wideB p) : markN p i j = gridG p i j := by
  have h1 := rows_names hp
  rw [he] at h1
  have h2 : byteAt p i j = UInt8.ofNat (97 + gridG p i j) := by
    have h3 : p.getD i ByteArray.empty = ⟨(rowT (wideB p) (gridG p) i).toArray⟩ := by
      conv => lhs; rw [← h1]
      unfold rowsT
      simp [hi]
    unfold byteAt
    rw [h3]
    unfold rowT
    simp [hj]
  have h4 := (hp.byte hi hj).1
  have h5 := gridG_36 hp i j
  rw [h2, UInt8.toNat_ofNat', Nat.mod_eq_of_lt (by omega)] at h4
  omega

theorem gridG_lt {p : List ByteArray} {i j : Nat} (hi : i < p.length) (hj : j < wideB p) : gridG p i j < gridR p := by
  unfold gridG gridR
  rw [renG_in hi hj]
  exact List.idxOf_lt_length_of_mem (markF_mem hi hj)

/-- each number of a room is one of a cell -/
theorem room_cell {h wd : Nat} {m : Nat → Nat → Nat} {r : Nat} (hr : r < (markF h wd m).length) : ∃ i j, i < h ∧ j < wd ∧ renG h wd m i j = r := by
  have hmem : (markF h wd m)[r] ∈ markL wd m (h * wd) := (mem_firsts _ _).1 (List.getElem_mem hr)
  obtain ⟨k, hk, hkv⟩ := markL_mem hmem
  obtain ⟨c1, c2, _⟩ := cell_of hk
  refine ⟨k / wd, k % wd, c1, c2, ?_⟩
  rw [renG_in c1 c2, hkv]
  exact (firsts_nodup _).idxOf_getElem r hr

theorem rooms_grid {p : List ByteArray} (hp : GridP p) (he : namesB p = p) : roomsB p = (gridR p : Nat) := by
  obtain ⟨h1, i, j, hi, hj, h2⟩ := roomsB_eq hp
  have h3 := gridG_lt hi hj
  rw [marks_rooms hp he hi hj] at h2
  obtain ⟨i', j', hi', hj', h4⟩ := room_cell (h := p.length) (wd := wideB p) (m := markN p) (r := gridR p - 1) (by unfold gridR at *; omega)
  have h5 := h1 i' j' hi' hj'
  rw [marks_rooms hp he hi' hj'] at h5
  have h6 : gridG p i' j' = gridR p - 1 := h4
  omega

theorem eqS_iff {l m : List ByteArray} : eqS l m = true ↔ l = m := by unfold eqS; simp

/-- **The program takes a list for a plan just if the model does.** -/
theorem readOk_eq (p : List ByteArray) : readOk p = planB p := by
  cases hg : gridB p
  · rw [planB_grid hg]
    cases hr : readOk p
    · rfl
    · unfold readOk at hr
      rw [Bool.and_eq_true] at hr
      obtain ⟨a, b, c, d, e⟩ := nameDraw_dims hr.1
      rw [gridB_of (gridP_of_name a b.2 c.1 c.2)] at hg
      cases hg
  · have hp := gridP_of hg
    have hrn := rows_names hp
    cases he : eqS (namesB p) p
    · rw [planB_names he]
      unfold readOk
      rw [hrn, he, Bool.and_false]
    · have hnm := eqS_iff.1 he
      have hrm := rooms_grid hp hnm
      have hcells : ∀ i j, i < p.length → j < wideB p → markN p i j = gridG p i j := fun i j hi hj => marks_rooms hp hnm hi hj
      have hfil := filled_ren (h := p.length) (wd := wideB p) (m := markN p) hp.h6 hp.w6
      have hbox : ∀ r, r < gridR p → (boxOkB p (r : Int) = true ↔ RectOf p.length (wideB p) (markN p) r) := fun r hr => by
        obtain ⟨i, j, hi, hj, hij⟩ := room_cell hr
        exact boxOk_iff hp r ⟨i, j, hi, hj, (hcells i j hi hj).trans hij⟩
      have hall : filledB p.length (wideB p) (gridG p) = (List.range (gridR p)).all fun r => boxOkB p (r : Int) := by
        rw [Bool.eq_iff_iff, List.all_eq_true]
        unfold gridG
        rw [hfil]
        constructor
        · intro hR r hr
          rw [List.mem_range] at hr
          obtain ⟨i, j, hi, hj, hij⟩ := room_cell hr
          rw [hbox r hr]
          have := hR i j hi hj
          rw [hcells i j hi hj, show gridG p i j = r from hij] at this
          exact this
        · intro hR i j hi hj
          have hlt : markN p i j < gridR p := by rw [hcells i j hi hj]; exact gridG_lt hi hj
          exact (hbox _ hlt).1 (hR _ (List.mem_range.2 hlt))
      unfold readOk planB nameDraw
      rw [hrn, he, hg, hp.nameOk, Bool.and_true, Bool.true_and, Bool.true_and, Bool.true_and, hrm, Int.toNat_natCast, ← hall]
      unfold drawOk
      rw [l6B_true (by have := hp.h1; omega) (by have := hp.h6; omega), l6B_true (by have := hp.w1; omega) (by have := hp.w6; omega), Bool.true_and, Bool.true_and]
      simp only [Int.toNat_natCast]
      show (decide (gridR p ≤ 9) && filledB p.length (wideB p) (gridG p)) = _
      congr 1
      rw [decide_eq_decide]
      omega

end Go.Proofs.Ytieieokkaomkaaa
