
/-
  Plain mathematics: lists of texts and grids of marks; what drawing a grid anew keeps.
-/
import Derived.Test.YtieieokkaomkaaaMathD
namespace Go.Proofs.Ytieieokkaomkaaa
open Go.RowKit

/-! ### grids that agree on their cells -/

theorem markL_congr {h wd : Nat} {m m' : Nat → Nat → Nat} (he : ∀ i j, i < h → j < wd → m i j = m' i j) (t : Nat) (ht : t ≤ h * wd) : markL wd m t = markL wd m' t := by
  unfold markL
  refine List.map_congr_left fun k hk => ?_
  rw [List.mem_range] at hk
  obtain ⟨c1, c2, _⟩ := cell_of (t := k) (h := h) (wd := wd) (by omega)
  exact he _ _ c1 c2
theorem markF_congr {h wd : Nat} {m m' : Nat → Nat → Nat} (he : ∀ i j, i < h → j < wd → m i j = m' i j) : markF h wd m = markF h wd m' := by
  unfold markF; rw [markL_congr he _ (Nat.le_refl _)]
theorem renG_congr {h wd : Nat} {m m' : Nat → Nat → Nat} (he : ∀ i j, i < h → j < wd → m i j = m' i j) : renG h wd m = renG h wd m' := by
  funext i j
  unfold renG roomG
  by_cases hc : i < h ∧ j < wd ∧ i * wd + j < h * wd
  · rw [if_pos hc, if_pos hc, markF_congr he, he i j hc.1 hc.2.1]
  · rw [if_neg hc, if_neg hc]
theorem drawOk_congr {h wd : Nat} {m m' : Nat → Nat → Nat} (he : ∀ i j, i < h → j < wd → m i j = m' i j) : drawOk h wd m = drawOk h wd m' := by
  unfold drawOk
  simp only [Int.toNat_natCast, markF_congr he, renG_congr he]
theorem rowsT_congr {h wd : Nat} {g g' : Nat → Nat → Nat} (he : ∀ i j, i < h → j < wd → g i j = g' i j) : rowsT h wd g = rowsT h wd g' := by
  unfold rowsT
  refine List.map_congr_left fun i hi => ?_
  rw [List.mem_range] at hi
  congr 2
  unfold rowT
  refine List.map_congr_left fun j hj => ?_
  rw [List.mem_range] at hj
  rw [he i j hi hj]

/-- whether drawing comes to a plan -/
theorem drawOk_iff {h wd : Nat} {m : Nat → Nat → Nat} : drawOk h wd m = true ↔ (1 ≤ h ∧ h ≤ 6) ∧ (1 ≤ wd ∧ wd ≤ 6) ∧ (markF h wd m).length ≤ 9 ∧ RectG h wd m := by
  constructor
  · intro hd
    have := drawOk_dims hd
    simp only [Int.toNat_natCast] at this
    obtain ⟨a, b, c, d⟩ := this
    exact ⟨by omega, by omega, c, (filled_ren (by omega) (by omega)).1 d⟩
  · rintro ⟨a, b, c, d⟩
    unfold drawOk
    simp only [Int.toNat_natCast]
    rw [l6B_true (by omega) (by omega), l6B_true (by omega) (by omega), decide_eq_true c, (filled_ren a.2 b.2).2 d]
    rfl

/-! ### grids with the same pattern -/

/-- cells are the same for one mark just if they are for the other -/
def SameG (h wd : Nat) (m m' : Nat → Nat → Nat) : Prop := ∀ i j i' j', i < h → j < wd → i' < h → j' < wd → (m' i' j' = m' i j ↔ m i' j' = m i j)

def toMark (h wd : Nat) (m m' : Nat → Nat → Nat) (v : Nat) : Nat := m' ((markL wd m (h * wd)).idxOf v / wd) ((markL wd m (h * wd)).idxOf v % wd)

theorem toMark_at {h wd : Nat} {m m' : Nat → Nat → Nat} (hs : SameG h wd m m') {i j : Nat} (hi : i < h) (hj : j < wd) : toMark h wd m m' (m i j) = m' i j := by
  have hmem : m i j ∈ markL wd m (h * wd) := (mem_firsts _ _).1 (markF_mem hi hj)
  have hlt := List.idxOf_lt_length_of_mem hmem
  have hk : (markL wd m (h * wd)).idxOf (m i j) < h * wd := by simpa [markL] using hlt
  obtain ⟨c1, c2, _⟩ := cell_of hk
  have he : (markL wd m (h * wd))[(markL wd m (h * wd)).idxOf (m i j)]? = some (m i j) := by rw [List.getElem?_eq_getElem hlt, List.getElem_idxOf]
  unfold toMark
  rw [hs i j _ _ hi hj c1 c2]
  generalize (markL wd m (h * wd)).idxOf (m i j) = k at *
  unfold markL at he
  rw [List.getElem?_map, List.getElem?_range hk] at he
  simpa using he

theorem markL_map {h wd : Nat} {m m' : Nat → Nat → Nat} (hs : SameG h wd m m') {t : Nat} (ht : t ≤ h * wd) : markL wd m' t = (markL wd m t).map (toMark h wd m m') := by
  unfold markL
  rw [List.map_map]
  refine List.map_congr_left fun k hk => ?_
  rw [List.mem_range] at hk
  obtain ⟨c1, c2, _⟩ := cell_of (t := k) (h := h) (wd := wd) (by omega)
  exact (toMark_at hs c1 c2).symm

theorem toMark_inj {h wd : Nat} {m m' : Nat → Nat → Nat} (hs : SameG h wd m m') {t : Nat} (ht : t ≤ h * wd) : ∀ x ∈ markL wd m t, ∀ y ∈ markL wd m t, toMark h wd m m' x = toMark h wd m m' y → x = y := by
  intro x hx y hy he
  obtain ⟨k, hk, rfl⟩ := markL_mem hx
  obtain ⟨k', hk', rfl⟩ := markL_mem hy
  obtain ⟨c1, c2, _⟩ := cell_of (t := k) (h := h) (wd := wd) (by omega)
  obtain ⟨d1, d2, _⟩ := cell_of (t := k') (h := h) (wd := wd) (by omega)
  rw [toMark_at hs c1 c2, toMark_at hs d1 d2] at he
  exact (hs _ _ _ _ d1 d2 c1 c2).1 he

theorem markF_map {h wd : Nat} {m m' : Nat → Nat → Nat} (hs : SameG h wd m m') : markF h wd m' = (markF h wd m).map (toMark h wd m m') := by
  unfold markF
  rw [markL_map hs (Nat.le_refl _), firsts_map (toMark_inj hs (Nat.le_refl _))]
theorem markF_len {h wd : Nat} {m m' : Nat → Nat → Nat} (hs : SameG h wd m m') : (markF h wd m').length = (markF h wd m).length := by
  rw [markF_map hs, List.length_map]

theorem renG_pattern {h wd : Nat} {m m' : Nat → Nat → Nat} (hs : SameG h wd m m') : renG h wd m' = renG h wd m := by
  funext i j
  unfold renG roomG
  by_cases hc : i < h ∧ j < wd ∧ i * wd + j < h * wd
  · rw [if_pos hc, if_pos hc, markF_map hs, ← toMark_at hs hc.1 hc.2.1]
    refine idxOf_map fun x hx he => ?_
    unfold markF at hx
    rw [mem_firsts] at hx
    exact toMark_inj hs (Nat.le_refl _) x hx _ ((mem_firsts _ _).1 (markF_mem hc.1 hc.2.1)) he
  · rw [if_neg hc, if_neg hc]

theorem SameG.rect {h wd : Nat} {m m' : Nat → Nat → Nat} (hs : SameG h wd m m') (hr : RectG h wd m) : RectG h wd m' := hr.of_same hs
theorem SameG.symm {h wd : Nat} {m m' : Nat → Nat → Nat} (hs : SameG h wd m m') : SameG h wd m' m := fun i j i' j' a b c d => (hs i j i' j' a b c d).symm

theorem drawOk_pattern {h wd : Nat} {m m' : Nat → Nat → Nat} (hs : SameG h wd m m') : drawOk h wd m' = drawOk h wd m := by
  rw [Bool.eq_iff_iff, drawOk_iff, drawOk_iff, markF_len hs]
  exact ⟨fun ⟨a, b, c, d⟩ => ⟨a, b, c, hs.symm.rect d⟩, fun ⟨a, b, c, d⟩ => ⟨a, b, c, hs.rect d⟩⟩

theorem ren_pattern (h wd : Nat) (m : Nat → Nat → Nat) : SameG h wd m (renG h wd m) := fun _ _ _ _ a b c d => renG_same a b c d

theorem renG_ren (h wd : Nat) (m : Nat → Nat → Nat) : renG h wd (renG h wd m) = renG h wd m := renG_pattern (ren_pattern h wd m)

/-- numbers in the order of first cells are those given anew -/
theorem ren_canon {h wd : Nat} {g : Nat → Nat → Nat} (hc : CanonG h wd g) {i j : Nat} (hi : i < h) (hj : j < wd) : renG h wd g i j = g i j := by
  have key : ∀ t, t ≤ h * wd → ∃ n, firsts (markL wd g t) = List.range n := by
    intro t
    induction t with
    | zero => intro _; exact ⟨0, rfl⟩
    | succ t ih =>
      intro ht
      obtain ⟨n, hn⟩ := ih (by omega)
      obtain ⟨c1, c2, c3⟩ := cell_of (t := t) (h := h) (wd := wd) (by omega)
      have hs := markL_succ wd g (t / wd) (t % wd) c2
      rw [c3] at hs
      rw [hs, firsts_snoc, hn]
      by_cases hm : g (t / wd) (t % wd) ∈ List.range n
      · rw [if_pos hm]; exact ⟨n, rfl⟩
      · rw [if_neg hm]
        refine ⟨n + 1, ?_⟩
        rw [List.mem_range] at hm
        have : g (t / wd) (t % wd) = n := by
          rcases Nat.lt_trichotomy (g (t / wd) (t % wd)) n with h1 | h1 | h1
          · exact absurd h1 hm
          · exact h1
          · exfalso
            obtain ⟨i', j', a, b, c, d⟩ := hc _ _ c1 c2 n h1
            have hmem : n ∈ markL wd g t := by
              unfold markL
              rw [List.mem_map]
              obtain ⟨e1, e2⟩ := cell_div i' j' wd b
              exact ⟨i' * wd + j', List.mem_range.2 (by omega), by rw [e1, e2]; exact d⟩
            rw [← mem_firsts, hn, List.mem_range] at hmem
            omega
        rw [this, List.range_succ]
  obtain ⟨n, hn⟩ := key (h * wd) (Nat.le_refl _)
  rw [renG_in hi hj]
  have hmem := markF_mem (m := g) hi hj
  unfold markF at hmem ⊢
  rw [hn] at hmem ⊢
  rw [List.mem_range] at hmem
  have := (List.nodup_range (n := n)).idxOf_getElem (g i j) (by simpa using hmem)
  rwa [List.getElem_range] at this

/-! ### numbers of rooms -/

theorem nodup_lt : ∀ (n : Nat) (l : List Nat), l.Nodup → (∀ x ∈ l, x < n) → l.length ≤ n
  | 0, l, _, h => by
    cases l with
    | nil => exact Nat.le_refl _
    | cons x l => have := h x (by simp); omega
  | n + 1, l, hd, h => by
    have h1 := nodup_lt n (l.erase n) (hd.erase n) (fun x hx => by
      have h2 := h x (List.mem_of_mem_erase hx)
      have h3 : x ≠ n := fun he => by subst he; exact (List.Nodup.not_mem_erase hd) hx
      omega)
    have h2 := List.length_erase (a := n) (l := l)
    split at h2 <;> omega

theorem markF_few {h wd n : Nat} {m : Nat → Nat → Nat} (hm : ∀ i j, i < h → j < wd → m i j < n) : (markF h wd m).length ≤ n := by
  refine nodup_lt n _ (firsts_nodup _) fun x hx => ?_
  unfold markF at hx
  rw [mem_firsts] at hx
  obtain ⟨k, hk, rfl⟩ := markL_mem hx
  obtain ⟨c1, c2, _⟩ := cell_of hk
  exact hm _ _ c1 c2

/-! ### lists of texts as grids -/

theorem byteAt_rows {h wd : Nat} {g : Nat → Nat → Nat} {i j : Nat} (hi : i < h) (hj : j < wd) : byteAt (rowsT h wd g) i j = UInt8.ofNat (97 + g i j) := by
  unfold byteAt rowsT rowT
  simp [hi, hj]

theorem rowsT_row {h wd : Nat} {g : Nat → Nat → Nat} {i : Nat} (hi : i < h) : (rowsT h wd g).getD i ByteArray.empty = ⟨(rowT wd g i).toArray⟩ := by
  unfold rowsT; simp [hi]

theorem rowsT_wide {h wd : Nat} {g : Nat → Nat → Nat} (hh : 1 ≤ h) : wideB (rowsT h wd g) = wd := by
  unfold wideB
  rw [rowsT_row (by omega), ← size_list]
  exact rowT_len _ _ _

theorem rowsT_mark {h wd : Nat} {g : Nat → Nat → Nat} {i j : Nat} (hi : i < h) (hj : j < wd) (hg : g i j < 26) : markN (rowsT h wd g) i j = g i j := by
  rw [← markC_at, byteAt_rows hi hj]
  unfold markC
  rw [UInt8.toNat_ofNat', Nat.mod_eq_of_lt (by omega)]
  omega

theorem rowsT_grid {h wd : Nat} {g : Nat → Nat → Nat} (h1 : 1 ≤ h) (h6 : h ≤ 6) (w1 : 1 ≤ wd) (w6 : wd ≤ 6) (hg : ∀ i j, i < h → j < wd → g i j < 26) : GridP (rowsT h wd g) := by
  have hw := rowsT_wide (wd := wd) (g := g) h1
  refine ⟨by rw [rowsT_len]; exact h1, by rw [rowsT_len]; exact h6, by rw [hw]; exact w1, by rw [hw]; exact w6, fun i hi => ?_, fun i hi => ?_⟩
  · rw [rowsT_len] at hi
    rw [hw, rowsT_row hi, ← size_list]
    exact rowT_len _ _ _
  · rw [rowsT_len] at hi
    rw [rowsT_row hi]
    unfold smallB rowT
    rw [List.all_eq_true]
    intro c hc
    simp only [List.mem_map, List.mem_range] at hc
    obtain ⟨j, hj, rfl⟩ := hc
    have := hg i j hi hj
    rw [UInt8.toNat_ofNat', Nat.mod_eq_of_lt (by omega), decide_eq_true_eq]
    omega

/-- a list of texts is the rows of its marks -/
theorem text_of {p : List ByteArray} (hp : GridP p) : p = rowsT p.length (wideB p) (markN p) := by
  apply List.ext_getElem
  · rw [rowsT_len]
  · intro i h1 h2
    have he : p.getD i ByteArray.empty = p[i] := by simp [h1]
    have hr := rowsT_row (wd := wideB p) (g := markN p) h1
    have he2 : (rowsT p.length (wideB p) (markN p)).getD i ByteArray.empty = (rowsT p.length (wideB p) (markN p))[i] := by simp [h2]
    rw [← he2, hr, ← he]
    apply bytes_ext
    apply List.ext_getElem
    · rw [size_list, hp.even i h1]; exact (rowT_len _ _ _).symm
    · intro j h3 h4
      have hj : j < wideB p := by rw [← hp.even i h1, ← size_list]; exact h3
      have hb := (hp.byte h1 hj).1
      have hgd : ∀ (l : List UInt8) (hl : j < l.length), l[j] = l.getD j 0 := fun l hl => by simp [hl]
      have hb2 : (p.getD i ByteArray.empty).data.toList[j] = byteAt p i j := hgd _ h3
      rw [hb2]
      simp only [rowT, List.getElem_map, List.getElem_range]
      rw [← hb]
      simp

theorem gridG_rows {h wd : Nat} {g : Nat → Nat → Nat} (h1 : 1 ≤ h) (hg : ∀ i j, i < h → j < wd → g i j < 26) : gridG (rowsT h wd g) = renG h wd g := by
  unfold gridG
  rw [rowsT_len, rowsT_wide h1]
  exact renG_congr fun i j hi hj => rowsT_mark hi hj (hg i j hi hj)

theorem names_rows {h wd : Nat} {g : Nat → Nat → Nat} (h1 : 1 ≤ h) (h6 : h ≤ 6) (w1 : 1 ≤ wd) (w6 : wd ≤ 6) (hg : ∀ i j, i < h → j < wd → g i j < 26) : namesB (rowsT h wd g) = rowsT h wd (renG h wd g) := by
  have := rows_names (rowsT_grid h1 h6 w1 w6 hg)
  rw [rowsT_len, rowsT_wide h1, gridG_rows h1 hg] at this
  exact this.symm

theorem nameDraw_rows {h wd : Nat} {g : Nat → Nat → Nat} (h1 : 1 ≤ h) (h6 : h ≤ 6) (w1 : 1 ≤ wd) (w6 : wd ≤ 6) (hg : ∀ i j, i < h → j < wd → g i j < 26) : nameDraw (rowsT h wd g) = drawOk h wd g := by
  unfold nameDraw
  rw [(rowsT_grid h1 h6 w1 w6 hg).nameOk, Bool.true_and, rowsT_len, rowsT_wide h1]
  exact drawOk_congr fun i j hi hj => rowsT_mark hi hj (hg i j hi hj)

/-- a grid's rows are a plan just if it can be drawn, where its numbers are given in the order of first cells -/
theorem planB_rows {h wd : Nat} {m : Nat → Nat → Nat} (h1 : 1 ≤ h) (h6 : h ≤ 6) (w1 : 1 ≤ wd) (w6 : wd ≤ 6) (hg : ∀ i j, i < h → j < wd → renG h wd m i j < 26) : planB (rowsT h wd (renG h wd m)) = drawOk h wd m := by
  rw [← readOk_eq]
  unfold readOk
  rw [gridG_rows h1 hg, rowsT_len, rowsT_wide h1, renG_ren, nameDraw_rows h1 h6 w1 w6 hg, drawOk_pattern (ren_pattern h wd m)]
  simp [eqS]

theorem ren_lt {h wd : Nat} {m : Nat → Nat → Nat} {n : Nat} (hm : ∀ i j, i < h → j < wd → m i j < n) {i j : Nat} (hi : i < h) (hj : j < wd) : renG h wd m i j < n := by
  rw [renG_in hi hj]
  exact Nat.lt_of_lt_of_le (List.idxOf_lt_length_of_mem (markF_mem hi hj)) (markF_few hm)

/-- what the model asks of a list whose letters are given anew -/
def doneB (p : List ByteArray) : Bool := gridB p && planB (namesB p)

theorem doneB_rows {h wd : Nat} {g : Nat → Nat → Nat} (h1 : 1 ≤ h) (h6 : h ≤ 6) (w1 : 1 ≤ wd) (w6 : wd ≤ 6) (hg : ∀ i j, i < h → j < wd → g i j < 26) : doneB (rowsT h wd g) = drawOk h wd g := by
  unfold doneB
  rw [gridB_of (rowsT_grid h1 h6 w1 w6 hg), Bool.true_and, names_rows h1 h6 w1 w6 hg]
  exact planB_rows h1 h6 w1 w6 fun i j hi hj => ren_lt hg hi hj

/-- the names that the model and the program give come to the same -/
theorem doneB_name (p : List ByteArray) : doneB p = nameDraw p := by
  cases hg : gridB p
  · have : nameDraw p = false := by
      cases hr : nameDraw p
      · rfl
      · obtain ⟨a, b, c, d, e⟩ := nameDraw_dims hr
        rw [gridB_of (gridP_of_name a b.2 c.1 c.2)] at hg
        cases hg
    rw [this]
    unfold doneB
    rw [hg, Bool.false_and]
  · have hp := gridP_of hg
    have hm : ∀ i j, i < p.length → j < wideB p → markN p i j < 26 := fun i j _ _ => markN_lt p i j
    have ht := text_of hp
    have h1 := doneB_rows hp.h1 hp.h6 hp.w1 hp.w6 hm
    have h2 := nameDraw_rows hp.h1 hp.h6 hp.w1 hp.w6 hm
    rw [← ht] at h1 h2
    rw [h1, h2]

/-! ### what a plan is -/

structure PlanP (p : List ByteArray) : Prop where
  grid : GridP p
  names : namesB p = p
  few : gridR p ≤ 9
  rect : RectG p.length (wideB p) (markN p)
  mark : ∀ i j, i < p.length → j < wideB p → markN p i j = gridG p i j
  rooms : roomsB p = (gridR p : Nat)

theorem planP_of {p : List ByteArray} (h : planB p = true) : PlanP p := by
  rw [← readOk_eq] at h
  have h0 := h
  unfold readOk at h
  rw [Bool.and_eq_true] at h
  obtain ⟨a, b, c, d, e⟩ := nameDraw_dims h.1
  have hp := gridP_of_name a b.2 c.1 c.2
  have hn : namesB p = p := by rw [← rows_names hp]; exact eqS_iff.1 h.2
  exact ⟨hp, hn, d, (filled_ren hp.h6 hp.w6).1 e, fun i j hi hj => marks_rooms hp hn hi hj, rooms_grid hp hn⟩

theorem PlanP.lt {p : List ByteArray} (hp : PlanP p) {i j : Nat} (hi : i < p.length) (hj : j < wideB p) : markN p i j < gridR p := by
  rw [hp.mark i j hi hj]; exact gridG_lt hi hj
theorem PlanP.canon {p : List ByteArray} (hp : PlanP p) : CanonG p.length (wideB p) (markN p) := fun i j hi hj r hr => by
  have := canon_ren p.length (wideB p) (markN p) i j hi hj r (by rw [show renG p.length (wideB p) (markN p) i j = gridG p i j from rfl, ← hp.mark i j hi hj]; exact hr)
  obtain ⟨i', j', a, b, c, d⟩ := this
  exact ⟨i', j', a, b, c, (hp.mark i' j' a b).trans d⟩

/-! ### rectangles that are turned, spread, joined -/

/-- a map of rows or columns under which what comes from an interval is one -/
def Pull (n h : Nat) (f : Nat → Nat) : Prop := (∀ i, i < n → f i < h) ∧ ∀ a k, a + k ≤ h → ∃ a' k', a' + k' ≤ n ∧ ∀ i, i < n → (a ≤ f i ∧ f i < a + k ↔ a' ≤ i ∧ i < a' + k')

theorem RectG.pull {h wd n n' : Nat} {m : Nat → Nat → Nat} (hr : RectG h wd m) {f f' : Nat → Nat} (hf : Pull n h f) (hf' : Pull n' wd f') : RectG n n' (fun i j => m (f i) (f' j)) := by
  intro i j hi hj
  obtain ⟨row, col, hh, wi, h1, h2, h3⟩ := hr (f i) (f' j) (hf.1 i hi) (hf'.1 j hj)
  obtain ⟨a, k, hak, ha⟩ := hf.2 row hh h1
  obtain ⟨a', k', hak', ha'⟩ := hf'.2 col wi h2
  refine ⟨a, a', k, k', hak, hak', fun i' j' hi' hj' => ?_⟩
  rw [h3 _ _ (hf.1 i' hi') (hf'.1 j' hj')]
  have e1 := ha i' hi'
  have e2 := ha' j' hj'
  unfold InR
  constructor
  · rintro ⟨x, y, z, u⟩
    have := e1.1 ⟨x, y⟩; have := e2.1 ⟨z, u⟩; omega
  · rintro ⟨x, y, z, u⟩
    have := e1.2 ⟨x, y⟩; have := e2.2 ⟨z, u⟩; omega

theorem RectG.swap {h wd : Nat} {m : Nat → Nat → Nat} (hr : RectG h wd m) : RectG wd h (fun i j => m j i) := by
  intro i j hi hj
  obtain ⟨row, col, hh, wi, h1, h2, h3⟩ := hr j i hj hi
  refine ⟨col, row, wi, hh, h2, h1, fun i' j' hi' hj' => ?_⟩
  rw [h3 j' i' hj' hi']
  unfold InR
  omega

theorem pull_id (n : Nat) : Pull n n (fun i => i) := ⟨fun _ h => h, fun a k h => ⟨a, k, h, fun _ _ => Iff.rfl⟩⟩
theorem pull_back (n : Nat) : Pull n n (fun i => n - 1 - i) := ⟨fun i h => by show n - 1 - i < n; omega, fun a k h => ⟨n - (a + k), k, by omega, fun i hi => by show (a ≤ n - 1 - i ∧ n - 1 - i < a + k) ↔ _; omega⟩⟩

end Go.Proofs.Ytieieokkaomkaaa
