
/-
  Plain mathematics: a grid is filled by the boxes that the program tells just if the cells of each mark are a rectangle.
-/
import Derived.Test.YtfemfmkgdgcemaaImplF
import Derived.Test.YtfemfmkgdgcemaaMathA
namespace Go.Proofs.Ytfemfmkgdgcemaa

theorem mkBx_fields {h wd : Nat} {g : Nat → Nat → Nat} {room row col : Nat} (hh : h ≤ 6) (hw : wd ≤ 6) (h1 : row < h) (h2 : col < wd) (hr : room ≤ 36) :
    (mkBx h wd g room row col).room = room ∧ (mkBx h wd g room row col).row = row ∧ (mkBx h wd g room row col).col = col ∧ (mkBx h wd g room row col).high = boxHigh h g row col ∧ (mkBx h wd g room row col).wide = boxWide wd g row col := by
  have a := boxHigh_le h g row col (by omega)
  have b := boxWide_le wd g row col (by omega)
  unfold mkBx
  rw [dif_pos ⟨by omega, by omega, hr⟩]
  exact ⟨rfl, rfl, rfl, rfl, rfl⟩

/-- what the scan has told after t cells -/
def ScanInv (h wd : Nat) (g : Nat → Nat → Nat) (t : Nat) (L : List Bx) : Prop :=
  (∀ i j, i < h → j < wd → i * wd + j < t → g i j < L.length) ∧
  (∀ r, r < L.length → ∃ i j, i < h ∧ j < wd ∧ i * wd + j < t ∧ g i j = r ∧ (∀ i' j', i' < h → j' < wd → i' * wd + j' < i * wd + j → g i' j' ≠ r) ∧ L[r]? = some (mkBx h wd g r i j))

theorem scan_inv {h wd : Nat} {g : Nat → Nat → Nat} (hc : CanonG h wd g) : ∀ t, t ≤ h * wd → ScanInv h wd g t (scanB h wd g t)
  | 0, _ => ⟨fun i j _ _ h0 => by omega, fun r hr => by simp [scanB] at hr⟩
  | t + 1, ht => by
    obtain ⟨ih1, ih2⟩ := scan_inv hc t (by omega)
    obtain ⟨c1, c2, c3⟩ := cell_of (t := t) (h := h) (wd := wd) (by omega)
    have hL : ∀ i j, i < h → j < wd → i * wd + j < t + 1 → i * wd + j < t ∨ i = t / wd ∧ j = t % wd := fun i j hi hj hlt => by
      rcases Nat.lt_or_ge (i * wd + j) t with h1 | h1
      · exact .inl h1
      · right
        have he : i * wd + j = t := by omega
        have := cell_div i j wd hj
        rw [he] at this
        exact ⟨this.1.symm, this.2.symm⟩
    rw [scanB]
    generalize hLs : scanB h wd g t = L at *
    split
    · rename_i hg
      refine ⟨fun i j hi hj hlt => ?_, fun r hr => ?_⟩
      · rw [List.length_append, List.length_singleton]
        rcases hL i j hi hj hlt with h1 | ⟨rfl, rfl⟩
        · have := ih1 i j hi hj h1; omega
        · omega
      · rw [List.length_append, List.length_singleton] at hr
        by_cases hrl : r < L.length
        · obtain ⟨i, j, a, b, c, d, e, f⟩ := ih2 r hrl
          exact ⟨i, j, a, b, by omega, d, e, by rw [List.getElem?_append_left hrl]; exact f⟩
        · have hre : r = L.length := by omega
          subst hre
          refine ⟨t / wd, t % wd, c1, c2, by omega, hg, fun i' j' hi' hj' hlt => ?_, ?_⟩
          · have := ih1 i' j' hi' hj' (by omega)
            omega
          · rw [List.getElem?_append_right (Nat.le_refl _), Nat.sub_self]; rfl
    · rename_i hg
      refine ⟨fun i j hi hj hlt => ?_, fun r hr => ?_⟩
      · rcases hL i j hi hj hlt with h1 | ⟨rfl, rfl⟩
        · exact ih1 i j hi hj h1
        · rcases Nat.lt_trichotomy (g (t / wd) (t % wd)) L.length with h1 | h1 | h1
          · exact h1
          · exact absurd h1 hg
          · obtain ⟨i', j', a, b, c, d⟩ := hc (t / wd) (t % wd) c1 c2 L.length h1
            have := ih1 i' j' a b (by omega)
            omega
      · obtain ⟨i, j, a, b, c, d, e, f⟩ := ih2 r hr
        exact ⟨i, j, a, b, by omega, d, e, f⟩

def areaAt (L : List Bx) (r : Nat) : Nat := match L[r]? with | some x => x.high * x.wide | none => 0
theorem sumB_sum (L : List Bx) : sumB L = sumN L.length (areaAt L) := by
  induction L using snoc_ind with
  | h0 => rfl
  | h1 L x ih =>
    rw [sumB_snoc, List.length_append, List.length_singleton, sumN, ih]
    congr 1
    · apply sumN_congr
      intro i hi
      unfold areaAt
      rw [List.getElem?_append_left hi]
    · unfold areaAt
      rw [List.getElem?_append_right (Nat.le_refl _), Nat.sub_self]; rfl

theorem aloneB_all {g : Nat → Nat → Nat} {room row col high wide : Nat} (h : aloneB g room row col high wide = true) {i j : Nat} (hi : i < high) (hj : j < wide) : g (row + i) (col + j) = room := by
  by_cases he : g (row + i) (col + j) = room
  · exact he
  · rw [aloneB_no hi hj he] at h; cases h

theorem box_of_rect {h wd : Nat} {g : Nat → Nat → Nat} {r i j row col hi wi : Nat} (hi1 : i < h) (hj1 : j < wd) (hg : g i j = r) (hfirst : ∀ i' j', i' < h → j' < wd → i' * wd + j' < i * wd + j → g i' j' ≠ r)
    (h1 : row + hi ≤ h) (h2 : col + wi ≤ wd) (h3 : ∀ i j, i < h → j < wd → (g i j = r ↔ InR row col hi wi i j)) : row = i ∧ col = j ∧ boxHigh h g i j = hi ∧ boxWide wd g i j = wi := by
  obtain ⟨a, b, c, d⟩ := (h3 i j hi1 hj1).1 hg
  have hrc : g row col = r := (h3 row col (by omega) (by omega)).2 ⟨Nat.le_refl _, by omega, Nat.le_refl _, by omega⟩
  have hnot : ¬ (row * wd + col < i * wd + j) := fun hlt => hfirst row col (by omega) (by omega) hlt hrc
  rw [lex_lt hj1 (by omega)] at hnot
  have hr : row = i := by omega
  subst hr
  have hcj : col = j := by omega
  subst hcj
  refine ⟨rfl, rfl, ?_, ?_⟩
  · unfold boxHigh
    refine runLen_eq _ _ _ (by omega) (fun t ht => ?_) (fun ht => ?_)
    · have := (h3 (row + t) col (by omega) hj1).2 ⟨by omega, by omega, by omega, by omega⟩
      simp [this, hg]
    · have : ¬ g (row + hi) col = r := fun he => by
        have := (h3 (row + hi) col (by omega) hj1).1 he
        exact absurd this.2.1 (by omega)
      simp [this, hg]
  · unfold boxWide
    refine runLen_eq _ _ _ (by omega) (fun t ht => ?_) (fun ht => ?_)
    · have := (h3 row (col + t) hi1 (by omega)).2 ⟨by omega, by omega, by omega, by omega⟩
      simp [this, hg]
    · have : ¬ g row (col + wi) = r := fun he => by
        have := (h3 row (col + wi) hi1 (by omega)).1 he
        exact absurd this.2.2.2 (by omega)
      simp [this, hg]

/-- **Boxes fill a grid just if the cells of each number are a rectangle.** -/
theorem filled_iff {h wd : Nat} {g : Nat → Nat → Nat} (hc : CanonG h wd g) (hh : h ≤ 6) (hw : wd ≤ 6) : filledB h wd g = true ↔ RectG h wd g := by
  obtain ⟨s1, s2⟩ := scan_inv hc (h * wd) (Nat.le_refl _)
  have hR36 : (scanB h wd g (h * wd)).length ≤ 36 := Nat.le_trans (scanB_len h wd g _) (Nat.mul_le_mul hh hw)
  unfold filledB
  rw [sumB_sum]
  generalize scanB h wd g (h * wd) = L at *
  have hpart := cntG_part (h := h) (wd := wd) (R := L.length) (g := g) (fun i j hi hj => s1 i j hi hj (cell_lt hi hj))
  rw [Bool.and_eq_true, beq_iff_eq, List.all_eq_true]
  constructor
  · rintro ⟨hal, hsum⟩
    have key : ∀ r, r < L.length → ∃ row col hi wi, row + hi ≤ h ∧ col + wi ≤ wd ∧ areaAt L r = hi * wi ∧ ∀ i j, i < h → j < wd → decide (InR row col hi wi i j) = true → (g i j == r) = true := by
      intro r hr
      obtain ⟨i, j, hi, hj, _, hg, _, hL⟩ := s2 r hr
      obtain ⟨e1, e2, e3, e4, e5⟩ := mkBx_fields (g := g) hh hw hi hj (show r ≤ 36 by omega)
      have hx := hal _ (List.mem_of_getElem? hL)
      unfold Bx.alone at hx
      rw [e1, e2, e3, e4, e5] at hx
      refine ⟨i, j, boxHigh h g i j, boxWide wd g i j, boxHigh_le h g i j (by omega), boxWide_le wd g i j (by omega), ?_, fun i' j' hi' hj' hin => ?_⟩
      · unfold areaAt; rw [hL]; show _ * _ = _; rw [e4, e5]
      · rw [decide_eq_true_eq] at hin
        obtain ⟨a, b, c, d⟩ := hin
        have := aloneB_all hx (i := i' - i) (j := j' - j) (by omega) (by omega)
        rw [show i + (i' - i) = i' from by omega, show j + (j' - j) = j' from by omega] at this
        simpa using this
    have hle : ∀ r, r < L.length → areaAt L r ≤ cntG h wd (fun i j => g i j == r) := fun r hr => by
      obtain ⟨row, col, hi, wi, h1, h2, h3, h4⟩ := key r hr
      rw [h3, ← cntG_rect h1 h2]
      exact cntG_le h4
    have heq := sumN_eq hle (hsum.trans hpart.symm)
    intro i j hi hj
    have hr := s1 i j hi hj (cell_lt hi hj)
    obtain ⟨row, col, hi', wi, h1, h2, h3, h4⟩ := key (g i j) hr
    refine ⟨row, col, hi', wi, h1, h2, fun i' j' hi'' hj'' => ?_⟩
    have := cntG_eq h4 (by rw [cntG_rect h1 h2, ← h3]; exact heq _ hr) i' j' hi'' hj''
    constructor
    · intro hg
      rw [hg, beq_self_eq_true, decide_eq_true_eq] at this
      exact this
    · intro hin
      rw [decide_eq_true hin] at this
      simpa using this.symm
  · intro hrect
    have key : ∀ r, r < L.length → (∀ x, L[r]? = some x → Bx.alone g x = true) ∧ areaAt L r = cntG h wd (fun i j => g i j == r) := by
      intro r hr
      obtain ⟨i, j, hi, hj, _, hg, hf, hL⟩ := s2 r hr
      obtain ⟨e1, e2, e3, e4, e5⟩ := mkBx_fields (g := g) hh hw hi hj (show r ≤ 36 by omega)
      obtain ⟨row, col, hi', wi, h1, h2, h3⟩ := hrect i j hi hj
      rw [hg] at h3
      obtain ⟨rfl, rfl, b1, b2⟩ := box_of_rect hi hj hg hf h1 h2 h3
      refine ⟨fun x hx => ?_, ?_⟩
      · rw [hL] at hx
        cases hx
        unfold Bx.alone
        rw [e1, e2, e3, e4, e5, b1, b2]
        refine aloneB_yes fun a ha b hb => ?_
        exact (h3 (row + a) (col + b) (by omega) (by omega)).2 ⟨by omega, by omega, by omega, by omega⟩
      · unfold areaAt
        rw [hL]
        show _ * _ = _
        rw [e4, e5, b1, b2, ← cntG_rect h1 h2]
        refine cntG_congr fun a b ha hb => ?_
        have := h3 a b ha hb
        by_cases hin : InR row col hi' wi a b
        · rw [decide_eq_true hin, this.2 hin, beq_self_eq_true]
        · rw [decide_eq_false hin]
          symm
          rw [beq_eq_false_iff_ne]
          exact fun he => hin (this.1 he)
    refine ⟨fun x hx => ?_, ?_⟩
    · obtain ⟨r, hr, rfl⟩ := List.getElem_of_mem hx
      exact (key r hr).1 _ (List.getElem?_eq_getElem hr)
    · rw [← hpart]
      exact sumN_congr fun r hr => (key r hr).2

/-! ### grids whose numbers are given in the order of first cells -/

theorem markL_mem {wd : Nat} {m : Nat → Nat → Nat} {t v : Nat} (h : v ∈ markL wd m t) : ∃ k, k < t ∧ m (k / wd) (k % wd) = v := by
  unfold markL at h
  rw [List.mem_map] at h
  obtain ⟨k, hk, rfl⟩ := h
  exact ⟨k, List.mem_range.1 hk, rfl⟩

theorem markF_mem {h wd : Nat} {m : Nat → Nat → Nat} {i j : Nat} (hi : i < h) (hj : j < wd) : m i j ∈ markF h wd m := by
  unfold markF
  rw [mem_firsts]
  unfold markL
  rw [List.mem_map]
  obtain ⟨e1, e2⟩ := cell_div i j wd hj
  exact ⟨i * wd + j, List.mem_range.2 (cell_lt hi hj), by rw [e1, e2]⟩

theorem renG_in {h wd : Nat} {m : Nat → Nat → Nat} {i j : Nat} (hi : i < h) (hj : j < wd) : renG h wd m i j = (markF h wd m).idxOf (m i j) := by
  unfold renG roomG
  rw [if_pos ⟨hi, hj, cell_lt hi hj⟩]

theorem renG_same {h wd : Nat} {m : Nat → Nat → Nat} {i j i' j' : Nat} (hi : i < h) (hj : j < wd) (hi' : i' < h) (hj' : j' < wd) : renG h wd m i' j' = renG h wd m i j ↔ m i' j' = m i j := by
  rw [renG_in hi hj, renG_in hi' hj']
  constructor
  · intro he
    have h1 : (markF h wd m)[(markF h wd m).idxOf (m i' j')]'(List.idxOf_lt_length_of_mem (markF_mem hi' hj')) = m i' j' := List.getElem_idxOf _
    have h2 : (markF h wd m)[(markF h wd m).idxOf (m i j)]'(List.idxOf_lt_length_of_mem (markF_mem hi hj)) = m i j := List.getElem_idxOf _
    rw [← h1, ← h2]
    congr 1
  · intro he; rw [he]

theorem canon_ren (h wd : Nat) (m : Nat → Nat → Nat) : CanonG h wd (renG h wd m) := by
  intro i j hi hj r hr
  rw [renG_in hi hj, markF_idx h wd m i j hi hj] at hr
  have hlen : r < (firsts (markL wd m (i * wd + j))).length := Nat.lt_of_lt_of_le hr List.idxOf_le_length
  have hmem : (firsts (markL wd m (i * wd + j)))[r] ∈ markL wd m (i * wd + j) := (mem_firsts _ _).1 (List.getElem_mem hlen)
  obtain ⟨k, hk, hkv⟩ := markL_mem hmem
  have hkh : k < h * wd := Nat.lt_trans hk (cell_lt hi hj)
  obtain ⟨c1, c2, c3⟩ := cell_of hkh
  refine ⟨k / wd, k % wd, c1, c2, by omega, ?_⟩
  rw [renG_in c1 c2, hkv]
  obtain ⟨R, hR⟩ := markL_prefix wd m (i * wd + j) (h * wd - (i * wd + j))
  have hp : firsts (markL wd m (i * wd + j)) <+: markF h wd m := by
    unfold markF
    rw [show h * wd = i * wd + j + (h * wd - (i * wd + j)) from by have := cell_lt hi hj; omega, hR]
    exact firsts_prefix _ _
  rw [idxOf_prefix hp (List.getElem_mem hlen)]
  exact (firsts_nodup _).idxOf_getElem r hlen

theorem filled_ren {h wd : Nat} {m : Nat → Nat → Nat} (hh : h ≤ 6) (hw : wd ≤ 6) : filledB h wd (renG h wd m) = true ↔ RectG h wd m := by
  rw [filled_iff (canon_ren h wd m) hh hw]
  exact ⟨fun hr => hr.of_same fun i j i' j' a b c d => (renG_same a b c d).symm, fun hr => hr.of_same fun i j i' j' a b c d => renG_same a b c d⟩

end Go.Proofs.Ytfemfmkgdgcemaa
