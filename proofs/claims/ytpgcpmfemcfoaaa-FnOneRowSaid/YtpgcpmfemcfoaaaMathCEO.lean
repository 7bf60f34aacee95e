/-
  Merged texts: MathC MathD MathE.
-/
import Derived.Test.YtpgcpmfemcfoaaaMathBO
import Derived.Test.YtpgcpmfemcfoaaaImplGHO
import Derived.Test.YtpgcpmfemcfoaaaSpecBDO

/-
  Plain mathematics: what the model's folds over the cells of a list of texts tell.
-/
namespace Go.Proofs.Ytpgcpmfemcfoaaa

section
variable {σ : Type}
def foldN (n : Nat) (f : Nat → σ → σ) (st : σ) : σ := match n with
  | 0 => st
  | n + 1 => f n (foldN n f st)

theorem foldN_front (n : Nat) (f : Nat → σ → σ) (st : σ) : foldN (n + 1) f st = foldN n (fun j => f (j + 1)) (f 0 st) := by
  induction n with
  | zero => rfl
  | succ n ih => rw [foldN, ih]; rfl

theorem foldN_ind {n : Nat} {f : Nat → σ → σ} {st : σ} {P : Nat → σ → Prop} (h0 : P 0 st) (hs : ∀ k, k < n → ∀ s, P k s → P (k + 1) (f k s)) : P n (foldN n f st) := by
  induction n with
  | zero => exact h0
  | succ n ih => exact hs n (by omega) _ (ih fun k hk => hs k (by omega))

theorem rowFold_foldN (f : Nat → Nat → UInt8 → σ → σ) (i : Nat) : ∀ (l : List UInt8) (k : Nat) (st : σ), rowFold f i k l st = foldN l.length (fun j => f i (k + j) (l.getD j 0)) st
  | [], _, _ => rfl
  | c :: t, k, st => by
    rw [rowFold, rowFold_foldN f i t (k + 1), List.length_cons, foldN_front]
    congr 1
    funext j
    rw [List.getD_cons_succ, show k + 1 + j = k + (j + 1) from by omega]

theorem gridFold_foldN (f : Nat → Nat → UInt8 → σ → σ) : ∀ (p : List ByteArray) (i : Nat) (st : σ), gridFold f i p st = foldN p.length (fun a => rowFold f (i + a) 0 (p.getD a ByteArray.empty).data.toList) st
  | [], _, _ => rfl
  | s :: t, i, st => by
    rw [gridFold, gridFold_foldN f t (i + 1), List.length_cons, foldN_front]
    congr 1
    funext j
    rw [List.getD_cons_succ, show i + 1 + j = i + (j + 1) from by omega]

/-- the byte of a cell -/
def byteAt (p : List ByteArray) (i j : Nat) : UInt8 := (p.getD i ByteArray.empty).data.toList.getD j 0

/-- all texts are as long as the first one -/
def Even (p : List ByteArray) : Prop := ∀ i, i < p.length → (p.getD i ByteArray.empty).size = wideB p

theorem grid_ind {p : List ByteArray} (hp : Even p) {f : Nat → Nat → UInt8 → σ → σ} {st : σ} {P : Nat → σ → Prop} (h0 : P 0 st)
    (hs : ∀ i j, i < p.length → j < wideB p → ∀ s, P (i * wideB p + j) s → P (i * wideB p + j + 1) (f i j (byteAt p i j) s)) : P (p.length * wideB p) (gridFold f 0 p st) := by
  rw [gridFold_foldN]
  refine foldN_ind (P := fun i s => P (i * wideB p) s) (by rw [Nat.zero_mul]; exact h0) fun i hi s hPs => ?_
  rw [rowFold_foldN, size_list, hp i hi, Nat.succ_mul]
  refine foldN_ind (P := fun j s => P (i * wideB p + j) s) hPs fun j hj s hPs => ?_
  rw [Nat.zero_add, Nat.zero_add]
  exact hs i j hi hj s hPs

theorem grid_ind2 {p : List ByteArray} (hp : Even p) {f : Nat → Nat → UInt8 → σ → σ} {st : σ} {P : Nat → σ → Prop} {Q : Nat → Nat → σ → Prop} (h0 : P 0 st)
    (h1 : ∀ i, i < p.length → ∀ s, P i s → Q i 0 s)
    (hs : ∀ i j, i < p.length → j < wideB p → ∀ s, Q i j s → Q i (j + 1) (f i j (byteAt p i j) s)) (h2 : ∀ i, i < p.length → ∀ s, Q i (wideB p) s → P (i + 1) s) : P p.length (gridFold f 0 p st) := by
  rw [gridFold_foldN]
  refine foldN_ind (P := P) h0 fun i hi s hPs => h2 i hi _ ?_
  rw [rowFold_foldN, size_list, hp i hi]
  refine foldN_ind (P := Q i) (h1 i hi s hPs) fun j hj s hPs => ?_
  rw [Nat.zero_add, Nat.zero_add]
  exact hs i j hi hj s hPs
end

/-- a list of texts of small letters, all as long, at most six rows and columns -/
structure GridP (p : List ByteArray) : Prop where
  h1 : 1 ≤ p.length
  h6 : p.length ≤ 6
  w1 : 1 ≤ wideB p
  w6 : wideB p ≤ 6
  even : Even p
  small : ∀ i, i < p.length → smallB (p.getD i ByteArray.empty).data.toList = true

theorem GridP.byte {p : List ByteArray} (hp : GridP p) {i j : Nat} (hi : i < p.length) (hj : j < wideB p) : (byteAt p i j).toNat = 97 + markN p i j ∧ markN p i j < 26 := by
  have h1 := smallB_at (hp.small i hi) (k := j) (by rw [size_list, hp.even i hi]; exact hj)
  have h2 := markN_lt p i j
  unfold markN at h2 ⊢
  unfold byteAt
  omega

theorem gridP_of {p : List ByteArray} (h : gridB p = true) : GridP p := by
  have h1 := gridB_len h
  have h2 := gridB_row h
  have h3 := h2 _ (getD_mem ByteArray.empty (show 0 < p.length by omega))
  exact ⟨h1.1, h1.2, h3.2.1, h3.2.2.1, fun i hi => (h2 _ (getD_mem _ hi)).1, fun i hi => (h2 _ (getD_mem _ hi)).2.2.2⟩

theorem gridB_of {p : List ByteArray} (h : GridP p) : gridB p = true := by
  unfold gridB
  rw [l6B_true (by have := h.h1; omega) (by have := h.h6; omega), Bool.and_true, List.all_eq_true]
  intro s hs
  obtain ⟨i, hi, rfl⟩ := List.getElem_of_mem hs
  have h1 := h.even i hi
  have h2 := h.small i hi
  have he : p.getD i ByteArray.empty = p[i] := by simp [hi]
  rw [he] at h1 h2
  refine rowB_ok h1 ?_ h2
  rw [h1]
  exact l6B_true (by have := h.w1; omega) (by have := h.w6; omega)

theorem GridP.nameOk {p : List ByteArray} (h : GridP p) : nameOkB p = true := nameOkB_yes h.h1 fun k hk => nrowB_ok (h.even k hk) (h.small k hk)
theorem gridP_of_name {p : List ByteArray} (h : nameOkB p = true) (h6 : p.length ≤ 6) (w1 : 1 ≤ wideB p) (w6 : wideB p ≤ 6) : GridP p := by
  have hlen : 1 ≤ p.length := by
    by_cases h1 : 1 ≤ p.length
    · exact h1
    · rw [nameOkB_none h1] at h; cases h
  have hrow : ∀ i, i < p.length → nrowB (wideB p) (p.getD i ByteArray.empty) = true := fun i hi => by
    cases hb : nrowB (wideB p) (p.getD i ByteArray.empty)
    · rw [nameOkB_no hi hb] at h; cases h
    · rfl
  exact ⟨hlen, h6, w1, w6, fun i hi => (nrowB_spec (hrow i hi)).1, fun i hi => (nrowB_spec (hrow i hi)).2⟩

/-! ### the model's counts -/

theorem cellsB_eq {p : List ByteArray} (hp : GridP p) (r : Nat) : cellsB p (r : Int) = ((cntG p.length (wideB p) (fun i j => markN p i j == r) : Nat) : Int) := by
  unfold cellsB cntG
  refine grid_ind2 hp.even (P := fun i (s : Int) => s = ((sumN i fun i => sumN (wideB p) fun j => if (markN p i j == r) = true then 1 else 0 : Nat) : Int))
    (Q := fun i j (s : Int) => s = (((sumN i fun i => sumN (wideB p) fun j => if (markN p i j == r) = true then 1 else 0) + sumN j fun j => if (markN p i j == r) = true then 1 else 0 : Nat) : Int)) rfl
    (fun i hi s hs => hs) (fun i j hi hj s hs => ?_) (fun i hi s hs => hs)
  rw [hs]
  have hb := hp.byte hi hj
  rw [show sumN (j + 1) (fun j => if (markN p i j == r) = true then 1 else 0) = sumN j (fun j => if (markN p i j == r) = true then 1 else 0) + if (markN p i j == r) = true then 1 else 0 from rfl]
  unfold cellsF
  by_cases he : markN p i j = r
  · rw [if_pos (by omega), if_pos (by simpa using he)]; omega
  · rw [if_neg (by omega), if_neg (by simpa using he)]; omega

theorem seen_succ {wd i j i' j' : Nat} (hj : j < wd) (hj' : j' < wd) (h : i' * wd + j' < i * wd + j + 1) : i' * wd + j' < i * wd + j ∨ i' = i ∧ j' = j := by
  rcases Nat.lt_or_ge (i' * wd + j') (i * wd + j) with h1 | h1
  · exact .inl h1
  · right
    have he : i' * wd + j' = i * wd + j := by omega
    have e1 := cell_div i' j' wd hj'
    have e2 := cell_div i j wd hj
    rw [he] at e1
    exact ⟨e1.1.symm.trans e2.1, e1.2.symm.trans e2.2⟩

theorem roomsB_eq {p : List ByteArray} (hp : GridP p) :
    (∀ i j, i < p.length → j < wideB p → ((markN p i j : Nat) : Int) + 1 ≤ roomsB p) ∧ ∃ i j, i < p.length ∧ j < wideB p ∧ ((markN p i j : Nat) : Int) + 1 = roomsB p := by
  have h := grid_ind hp.even (f := roomsF) (st := 0) (P := fun t (s : Int) => (∀ i j, i < p.length → j < wideB p → i * wideB p + j < t → ((markN p i j : Nat) : Int) + 1 ≤ s) ∧
    (t = 0 ∧ s = 0 ∨ ∃ i j, i < p.length ∧ j < wideB p ∧ ((markN p i j : Nat) : Int) + 1 = s)) ⟨fun i j _ _ h0 => by omega, .inl ⟨rfl, rfl⟩⟩ (fun i j hi hj s hs => by
      obtain ⟨h1, h2⟩ := hs
      have hb := hp.byte hi hj
      unfold roomsF
      by_cases hlt : s < ((byteAt p i j).toNat : Int) - 97 + 1
      · rw [if_pos hlt]
        refine ⟨fun i' j' hi' hj' ht => ?_, .inr ⟨i, j, hi, hj, by omega⟩⟩
        rcases seen_succ hj hj' ht with h' | ⟨rfl, rfl⟩
        · have := h1 i' j' hi' hj' h'; omega
        · omega
      · rw [if_neg hlt]
        refine ⟨fun i' j' hi' hj' ht => ?_, ?_⟩
        · rcases seen_succ hj hj' ht with h' | ⟨rfl, rfl⟩
          · exact h1 i' j' hi' hj' h'
          · omega
        · right
          rcases h2 with ⟨_, h2⟩ | h2
          · exfalso; omega
          · exact h2)
  refine ⟨fun i j hi hj => h.1 i j hi hj (cell_lt hi hj), ?_⟩
  rcases h.2 with ⟨h0, _⟩ | h2
  · exfalso
    have := Nat.mul_le_mul hp.h1 hp.w1
    omega
  · exact h2

theorem boxB_eq {p : List ByteArray} (hp : GridP p) (r : Nat) (hr : ∃ i j, i < p.length ∧ j < wideB p ∧ markN p i j = r) :
    (∀ i j, i < p.length → j < wideB p → markN p i j = r → (boxB p r).top ≤ i ∧ (i : Int) ≤ (boxB p r).low ∧ (boxB p r).left ≤ j ∧ (j : Int) ≤ (boxB p r).right) ∧
    (∃ i j, i < p.length ∧ j < wideB p ∧ markN p i j = r ∧ (i : Int) = (boxB p r).top) ∧ (∃ i j, i < p.length ∧ j < wideB p ∧ markN p i j = r ∧ (i : Int) = (boxB p r).low) ∧
    (∃ i j, i < p.length ∧ j < wideB p ∧ markN p i j = r ∧ (j : Int) = (boxB p r).left) ∧ (∃ i j, i < p.length ∧ j < wideB p ∧ markN p i j = r ∧ (j : Int) = (boxB p r).right) := by
  have h := grid_ind hp.even (f := boxF (r : Int)) (st := ⟨p.length, (p.getD 0 ByteArray.empty).size, -1, -1⟩) (P := fun t (s : Box4) =>
    (∀ i j, i < p.length → j < wideB p → i * wideB p + j < t → markN p i j = r → s.top ≤ i ∧ (i : Int) ≤ s.low ∧ s.left ≤ j ∧ (j : Int) ≤ s.right) ∧
    ((∀ i j, i < p.length → j < wideB p → i * wideB p + j < t → markN p i j ≠ r) ∧ s = ⟨p.length, wideB p, -1, -1⟩ ∨
    (∃ i j, i < p.length ∧ j < wideB p ∧ markN p i j = r ∧ (i : Int) = s.top) ∧ (∃ i j, i < p.length ∧ j < wideB p ∧ markN p i j = r ∧ (i : Int) = s.low) ∧
    (∃ i j, i < p.length ∧ j < wideB p ∧ markN p i j = r ∧ (j : Int) = s.left) ∧ (∃ i j, i < p.length ∧ j < wideB p ∧ markN p i j = r ∧ (j : Int) = s.right)))
    ⟨fun i j _ _ h0 => by omega, .inl ⟨fun i j _ _ h0 => by omega, rfl⟩⟩ (fun i j hi hj s hs => by
      obtain ⟨h1, h2⟩ := hs
      obtain ⟨t, l, lo, ri⟩ := s
      have hb := hp.byte hi hj
      by_cases he : markN p i j = r
      · rw [boxF_yes (by omega)]
        simp only at h1 h2 ⊢
        refine ⟨fun i' j' hi' hj' ht hm => ?_, .inr ?_⟩
        · rcases seen_succ hj hj' ht with h' | ⟨rfl, rfl⟩
          · have := h1 i' j' hi' hj' h' hm
            refine ⟨?_, ?_, ?_, ?_⟩ <;> split <;> omega
          · refine ⟨?_, ?_, ?_, ?_⟩ <;> split <;> omega
        · rcases h2 with ⟨_, h2⟩ | ⟨a, b, c, d⟩
          · simp only [Box4.mk.injEq] at h2
            obtain ⟨rfl, rfl, rfl, rfl⟩ := h2
            rw [if_pos (by omega), if_pos (by omega), if_pos (by omega), if_pos (by omega)]
            exact ⟨⟨i, j, hi, hj, he, rfl⟩, ⟨i, j, hi, hj, he, rfl⟩, ⟨i, j, hi, hj, he, rfl⟩, ⟨i, j, hi, hj, he, rfl⟩⟩
          · refine ⟨?_, ?_, ?_, ?_⟩
            · split
              · exact ⟨i, j, hi, hj, he, rfl⟩
              · exact a
            · split
              · exact ⟨i, j, hi, hj, he, rfl⟩
              · exact b
            · split
              · exact ⟨i, j, hi, hj, he, rfl⟩
              · exact c
            · split
              · exact ⟨i, j, hi, hj, he, rfl⟩
              · exact d
      · rw [boxF_no (by omega)]
        refine ⟨fun i' j' hi' hj' ht hm => ?_, ?_⟩
        · rcases seen_succ hj hj' ht with h' | ⟨rfl, rfl⟩
          · exact h1 i' j' hi' hj' h' hm
          · exact absurd hm he
        · rcases h2 with ⟨h2, h3⟩ | h2
          · left
            refine ⟨fun i' j' hi' hj' ht => ?_, h3⟩
            rcases seen_succ hj hj' ht with h' | ⟨rfl, rfl⟩
            · exact h2 i' j' hi' hj' h'
            · exact he
          · exact .inr h2)
  refine ⟨fun i j hi hj hm => h.1 i j hi hj (cell_lt hi hj) hm, ?_⟩
  rcases h.2 with ⟨h0, _⟩ | h2
  · exfalso
    obtain ⟨i, j, hi, hj, hm⟩ := hr
    exact h0 i j hi hj (cell_lt hi hj) hm
  · exact h2

end Go.Proofs.Ytpgcpmfemcfoaaa

/-
  Plain mathematics: the program takes a list for a plan just if the model does.
-/
namespace Go.Proofs.Ytpgcpmfemcfoaaa
open Go.RowKit

/-- the model's test of a room is that its cells are a rectangle -/
theorem boxOk_iff {p : List ByteArray} (hp : GridP p) (r : Nat) (hr : ∃ i j, i < p.length ∧ j < wideB p ∧ markN p i j = r) : boxOkB p (r : Int) = true ↔ RectOf p.length (wideB p) (markN p) r := by
  obtain ⟨hall, ⟨i1, j1, a1, b1, c1, d1⟩, ⟨i2, j2, a2, b2, c2, d2⟩, ⟨i3, j3, a3, b3, c3, d3⟩, ⟨i4, j4, a4, b4, c4, d4⟩⟩ := boxB_eq hp r hr
  have h6 := hp.h6
  have w6 := hp.w6
  unfold boxOkB
  rw [cellsB_eq hp r, ← d1, ← d2, ← d3, ← d4]
  rw [← d1, ← d2, ← d3, ← d4] at hall
  have o1 := hall i1 j1 a1 b1 c1
  have o4 := hall i4 j4 a4 b4 c4
  have harea : wrap64 (((i2 : Int) - (i1 : Int) + 1) * ((j4 : Int) - (j3 : Int) + 1)) = (((i2 + 1 - i1) * (j4 + 1 - j3) : Nat) : Int) := by
    have e1 : (i2 : Int) - (i1 : Int) + 1 = ((i2 + 1 - i1 : Nat) : Int) := by omega
    have e2 : (j4 : Int) - (j3 : Int) + 1 = ((j4 + 1 - j3 : Nat) : Int) := by omega
    have hm : (i2 + 1 - i1) * (j4 + 1 - j3) ≤ 6 * 6 := Nat.mul_le_mul (by omega) (by omega)
    rw [e1, e2, ← Int.natCast_mul]
    generalize (i2 + 1 - i1) * (j4 + 1 - j3) = x at hm
    unfold wrap64
    omega
  rw [harea, beq_iff_eq, Int.ofNat_inj]
  constructor
  · intro he
    refine ⟨i1, j3, i2 + 1 - i1, j4 + 1 - j3, by omega, by omega, fun i j hi hj => ?_⟩
    have hsub : ∀ i j, i < p.length → j < wideB p → (markN p i j == r) = true → decide (InR i1 j3 (i2 + 1 - i1) (j4 + 1 - j3) i j) = true := fun i j hi hj hm => by
      rw [decide_eq_true_eq]
      have := hall i j hi hj (by simpa using hm)
      exact ⟨by omega, by omega, by omega, by omega⟩
    have := cntG_eq hsub (by rw [cntG_rect (by omega) (by omega)]; exact he) i j hi hj
    constructor
    · intro hm
      rw [hm, beq_self_eq_true] at this
      simpa using this.symm
    · intro hin
      rw [decide_eq_true hin] at this
      simpa using this
  · rintro ⟨row, col, hi, wi, h1, h2, h3⟩
    have p1 := (h3 i1 j1 a1 b1).1 c1
    have p2 := (h3 i2 j2 a2 b2).1 c2
    have p3 := (h3 i3 j3 a3 b3).1 c3
    have p4 := (h3 i4 j4 a4 b4).1 c4
    unfold InR at p1 p2 p3 p4
    have q1 := hall row col (by omega) (by omega) ((h3 row col (by omega) (by omega)).2 ⟨by omega, by omega, by omega, by omega⟩)
    have q2 := hall (row + hi - 1) (col + wi - 1) (by omega) (by omega) ((h3 (row + hi - 1) (col + wi - 1) (by omega) (by omega)).2 ⟨by omega, by omega, by omega, by omega⟩)
    rw [show i2 + 1 - i1 = hi from by omega, show j4 + 1 - j3 = wi from by omega, ← cntG_rect h1 h2]
    refine cntG_congr fun i j hi' hj' => ?_
    have := h3 i j hi' hj'
    by_cases hin : InR row col hi wi i j
    · rw [decide_eq_true hin, this.2 hin, beq_self_eq_true]
    · rw [decide_eq_false hin, beq_eq_false_iff_ne]
      exact fun he => hin (this.1 he)

/-! ### letters and marks -/

section
variable {α β : Type} [DecidableEq α] [DecidableEq β]

theorem idxOf_map {φ : α → β} {l : List α} {c : α} (h : ∀ x ∈ l, φ x = φ c → x = c) : (l.map φ).idxOf (φ c) = l.idxOf c := by
  induction l with
  | nil => rfl
  | cons x l ih =>
    rw [List.map_cons, List.idxOf_cons, List.idxOf_cons]
    by_cases hx : x = c
    · subst hx; simp
    · have hx2 : φ x ≠ φ c := fun he => hx (h x (by simp) he)
      rw [beq_false_of_ne hx, beq_false_of_ne hx2, cond_false, cond_false, ih fun y hy => h y (by simp [hy])]

theorem firsts_map {φ : α → β} {l : List α} (h : ∀ x ∈ l, ∀ y ∈ l, φ x = φ y → x = y) : firsts (l.map φ) = (firsts l).map φ := by
  induction l using snoc_ind with
  | h0 => rfl
  | h1 l c ih =>
    have ih' := ih fun x hx y hy => h x (by simp [hx]) y (by simp [hy])
    rw [List.map_append, List.map_singleton, firsts_snoc, firsts_snoc, ih']
    have hiff : φ c ∈ (firsts l).map φ ↔ c ∈ firsts l := by
      rw [List.mem_map]
      constructor
      · rintro ⟨x, hx, he⟩
        have := h x (by rw [mem_firsts] at hx; simp [hx]) c (by simp) he
        rw [← this]; exact hx
      · intro hc; exact ⟨c, hc, rfl⟩
    by_cases hc : c ∈ firsts l
    · rw [if_pos hc, if_pos (hiff.2 hc)]
    · rw [if_neg hc, if_neg (fun hh => hc (hiff.1 hh)), List.map_append, List.map_singleton]
end

/-- the mark of a letter -/
def markC (c : UInt8) : Nat := (c.toNat - 97) % 26
theorem markC_at (p : List ByteArray) (i j : Nat) : markC (byteAt p i j) = markN p i j := rfl
theorem markC_inj {c d : UInt8} (hc : 97 ≤ c.toNat ∧ c.toNat ≤ 122) (hd : 97 ≤ d.toNat ∧ d.toNat ≤ 122) (h : markC c = markC d) : c = d := by
  unfold markC at h
  apply UInt8.toNat_inj.1
  omega

/-- the bytes ahead of a cell -/
def ahead (p : List ByteArray) (i j : Nat) : List UInt8 := flat (p.take i) ++ (p.getD i ByteArray.empty).data.toList.take j

theorem ahead_succ {p : List ByteArray} {i j : Nat} (hj : j < (p.getD i ByteArray.empty).size) : ahead p i (j + 1) = ahead p i j ++ [byteAt p i j] := by
  unfold ahead
  rw [take_succ_getD _ j 0 (by rw [size_list]; exact hj), List.append_assoc]; rfl
theorem ahead_row {p : List ByteArray} {i : Nat} (hi : i < p.length) : ahead p (i + 1) 0 = ahead p i (p.getD i ByteArray.empty).size := by
  have h2 : (p.getD i ByteArray.empty).data.toList.take (p.getD i ByteArray.empty).size = (p.getD i ByteArray.empty).data.toList := List.take_of_length_le (by rw [size_list]; exact Nat.le_refl _)
  unfold ahead
  rw [take_succ_getD p i ByteArray.empty hi, flat_snoc, List.take_zero, List.append_nil, h2]

theorem marks_ahead {p : List ByteArray} (hp : Even p) : ∀ i, i ≤ p.length → ∀ j, j ≤ wideB p → (j = 0 ∨ i < p.length) → markL (wideB p) (markN p) (i * wideB p + j) = (ahead p i j).map markC := by
  intro i
  induction i with
  | zero =>
    intro _ j
    induction j with
    | zero => intro _ _; simp [ahead, flat, markL]
    | succ j ih =>
      intro hj h0
      have h0' : 0 < p.length := by omega
      rw [show 0 * wideB p + (j + 1) = 0 * wideB p + j + 1 from rfl, markL_succ _ _ _ _ (by omega), ih (by omega) (.inr h0'), ahead_succ (by rw [hp 0 h0']; omega), List.map_append, List.map_singleton, markC_at]
  | succ i ihi =>
    intro hi j
    induction j with
    | zero =>
      intro _ _
      rw [ahead_row (by omega), hp i (by omega), ← ihi (by omega) (wideB p) (Nat.le_refl _) (.inr (by omega)), Nat.succ_mul]
      rfl
    | succ j ih =>
      intro hj h0
      have h0' : i + 1 < p.length := by omega
      rw [show (i + 1) * wideB p + (j + 1) = (i + 1) * wideB p + j + 1 from rfl, markL_succ _ _ _ _ (by omega), ih (by omega) (.inr h0'), ahead_succ (by rw [hp (i + 1) h0']; omega), List.map_append, List.map_singleton, markC_at]

theorem flat_small {p : List ByteArray} (hp : GridP p) {c : UInt8} (hc : c ∈ flat p) : 97 ≤ c.toNat ∧ c.toNat ≤ 122 := by
  unfold flat at hc
  rw [List.mem_flatMap] at hc
  obtain ⟨s, hs, hcs⟩ := hc
  obtain ⟨i, hi, rfl⟩ := List.getElem_of_mem hs
  have h2 := hp.small i hi
  have he : p.getD i ByteArray.empty = p[i] := by simp [hi]
  rw [he] at h2
  unfold smallB at h2
  rw [List.all_eq_true] at h2
  simpa using h2 c hcs

theorem flat_at {p : List ByteArray} (hp : GridP p) {i j : Nat} (hi : i < p.length) (hj : j < wideB p) : ∃ R, flat p = ahead p i j ++ byteAt p i j :: R :=
  ⟨_, flat_split p i j hi (by rw [size_list, hp.even i hi]; exact hj)⟩

/-- the number of a cell's room is the number of its letter -/
theorem gridG_letter {p : List ByteArray} (hp : GridP p) {i j : Nat} (hi : i < p.length) (hj : j < wideB p) : gridG p i j = (firsts (flat p)).idxOf (byteAt p i j) := by
  obtain ⟨R, hR⟩ := flat_at hp hi hj
  have hs : ∀ x ∈ ahead p i j ++ [byteAt p i j], 97 ≤ x.toNat ∧ x.toNat ≤ 122 := fun x hx => flat_small hp (by
    rw [hR]
    rw [List.mem_append, List.mem_singleton] at hx
    rw [List.mem_append, List.mem_cons]
    rcases hx with h | h
    · exact .inl h
    · exact .inr (.inl h))
  unfold gridG
  rw [renG_in hi hj, markF_idx _ _ _ _ _ hi hj, marks_ahead hp.even i (by omega) j (by omega) (.inr hi)]
  rw [hR, name_at, firsts_map fun x hx y hy he => markC_inj (hs x (by simp [hx])) (hs y (by simp [hy])) he, ← markC_at]
  exact idxOf_map fun x hx he => markC_inj (hs x (by rw [mem_firsts] at hx; simp [hx])) (hs _ (by simp)) he

theorem rows_names {p : List ByteArray} (hp : GridP p) : rowsT p.length (wideB p) (gridG p) = namesB p := by
  apply List.ext_getElem
  · rw [rowsT_len, namesB_len]
  · intro i h1 h2
    have hi : i < p.length := by rw [rowsT_len] at h1; exact h1
    have he : p.getD i ByteArray.empty = p[i] := by simp [hi]
    simp only [rowsT, namesB, List.getElem_map, List.getElem_range]
    congr 2
    apply List.ext_getElem
    · rw [rowT_len]
      unfold namesL
      rw [List.length_map, size_list, ← he, hp.even i hi]
    · intro j h3 h4
      have hj : j < wideB p := by rw [rowT_len] at h3; exact h3
      have hb : p[i].data.toList.getD j 0 = byteAt p i j := by unfold byteAt; rw [he]
      have h5 : j < p[i].data.toList.length := by unfold namesL at h4; rw [List.length_map] at h4; exact h4
      have hb2 : p[i].data.toList[j] = byteAt p i j := by rw [← hb, List.getD_eq_getElem?_getD, List.getElem?_eq_getElem h5]; rfl
      simp only [rowT, namesL, List.getElem_map, List.getElem_range]
      rw [gridG_letter hp hi hj, hb2]

theorem gridG_36 {p : List ByteArray} (hp : GridP p) (i j : Nat) : gridG p i j ≤ 36 := by
  refine Nat.le_trans (renG_le _ _ _ _ _) ?_
  unfold markF
  refine Nat.le_trans (firsts_len _) ?_
  simp only [markL, List.length_map, List.length_range]
  exact Nat.mul_le_mul hp.h6 hp.w6

/-- where the letters are those given anew, marks and numbers are the same -/
theorem marks_rooms {p : List ByteArray} (hp : GridP p) (he : namesB p = p) {i j : Nat} (hi : i < p.length) (hj : j < wideB p) : markN p i j = gridG p i j := by
  have h1 := rows_names hp
  rw [he] at h1
  have h2 : byteAt p i j = UInt8.ofNat (97 + gridG p i j) := by
    have h3 : p.getD i ByteArray.empty = ⟨(rowT (wideB p) (gridG p) i).toArray⟩ := by
      conv => lhs; rw [← h1]
      unfold rowsT
      simp [hi]
    unfold byteAt
    rw [h3]
    unfold rowT
    simp [hj]
  have h4 := (hp.byte hi hj).1
  have h5 := gridG_36 hp i j
  rw [h2, UInt8.toNat_ofNat', Nat.mod_eq_of_lt (by omega)] at h4
  omega

theorem gridG_lt {p : List ByteArray} {i j : Nat} (hi : i < p.length) (hj : j < wideB p) : gridG p i j < gridR p := by
  unfold gridG gridR
  rw [renG_in hi hj]
  exact List.idxOf_lt_length_of_mem (markF_mem hi hj)

/-- each number of a room is one of a cell -/
theorem room_cell {h wd : Nat} {m : Nat → Nat → Nat} {r : Nat} (hr : r < (markF h wd m).length) : ∃ i j, i < h ∧ j < wd ∧ renG h wd m i j = r := by
  have hmem : (markF h wd m)[r] ∈ markL wd m (h * wd) := (mem_firsts _ _).1 (List.getElem_mem hr)
  obtain ⟨k, hk, hkv⟩ := markL_mem hmem
  obtain ⟨c1, c2, _⟩ := cell_of hk
  refine ⟨k / wd, k % wd, c1, c2, ?_⟩
  rw [renG_in c1 c2, hkv]
  exact (firsts_nodup _).idxOf_getElem r hr

theorem rooms_grid {p : List ByteArray} (hp : GridP p) (he : namesB p = p) : roomsB p = (gridR p : Nat) := by
  obtain ⟨h1, i, j, hi, hj, h2⟩ := roomsB_eq hp
  have h3 := gridG_lt hi hj
  rw [marks_rooms hp he hi hj] at h2
  obtain ⟨i', j', hi', hj', h4⟩ := room_cell (h := p.length) (wd := wideB p) (m := markN p) (r := gridR p - 1) (by unfold gridR at *; omega)
  have h5 := h1 i' j' hi' hj'
  rw [marks_rooms hp he hi' hj'] at h5
  have h6 : gridG p i' j' = gridR p - 1 := h4
  omega

theorem eqS_iff {l m : List ByteArray} : eqS l m = true ↔ l = m := by unfold eqS; simp

/-- **The program takes a list for a plan just if the model does.** -/
theorem readOk_eq (p : List ByteArray) : readOk p = planB p := by
  cases hg : gridB p
  · rw [planB_grid hg]
    cases hr : readOk p
    · rfl
    · unfold readOk at hr
      rw [Bool.and_eq_true] at hr
      obtain ⟨a, b, c, d, e⟩ := nameDraw_dims hr.1
      rw [gridB_of (gridP_of_name a b.2 c.1 c.2)] at hg
      cases hg
  · have hp := gridP_of hg
    have hrn := rows_names hp
    cases he : eqS (namesB p) p
    · rw [planB_names he]
      unfold readOk
      rw [hrn, he, Bool.and_false]
    · have hnm := eqS_iff.1 he
      have hrm := rooms_grid hp hnm
      have hcells : ∀ i j, i < p.length → j < wideB p → markN p i j = gridG p i j := fun i j hi hj => marks_rooms hp hnm hi hj
      have hfil := filled_ren (h := p.length) (wd := wideB p) (m := markN p) hp.h6 hp.w6
      have hbox : ∀ r, r < gridR p → (boxOkB p (r : Int) = true ↔ RectOf p.length (wideB p) (markN p) r) := fun r hr => by
        obtain ⟨i, j, hi, hj, hij⟩ := room_cell hr
        exact boxOk_iff hp r ⟨i, j, hi, hj, (hcells i j hi hj).trans hij⟩
      have hall : filledB p.length (wideB p) (gridG p) = (List.range (gridR p)).all fun r => boxOkB p (r : Int) := by
        rw [Bool.eq_iff_iff, List.all_eq_true]
        unfold gridG
        rw [hfil]
        constructor
        · intro hR r hr
          rw [List.mem_range] at hr
          obtain ⟨i, j, hi, hj, hij⟩ := room_cell hr
          rw [hbox r hr]
          have := hR i j hi hj
          rw [hcells i j hi hj, show gridG p i j = r from hij] at this
          exact this
        · intro hR i j hi hj
          have hlt : markN p i j < gridR p := by rw [hcells i j hi hj]; exact gridG_lt hi hj
          exact (hbox _ hlt).1 (hR _ (List.mem_range.2 hlt))
      unfold readOk planB nameDraw
      rw [hrn, he, hg, hp.nameOk, Bool.and_true, Bool.true_and, Bool.true_and, Bool.true_and, hrm, Int.toNat_natCast, ← hall]
      unfold drawOk
      rw [l6B_true (by have := hp.h1; omega) (by have := hp.h6; omega), l6B_true (by have := hp.w1; omega) (by have := hp.w6; omega), Bool.true_and, Bool.true_and]
      simp only [Int.toNat_natCast]
      show (decide (gridR p ≤ 9) && filledB p.length (wideB p) (gridG p)) = _
      congr 1
      rw [decide_eq_decide]
      omega

end Go.Proofs.Ytpgcpmfemcfoaaa

/-
  Plain mathematics: lists of texts and grids of marks; what drawing a grid anew keeps.
-/
namespace Go.Proofs.Ytpgcpmfemcfoaaa
open Go.RowKit

/-! ### grids that agree on their cells -/

theorem markL_congr {h wd : Nat} {m m' : Nat → Nat → Nat} (he : ∀ i j, i < h → j < wd → m i j = m' i j) (t : Nat) (ht : t ≤ h * wd) : markL wd m t = markL wd m' t := by
  unfold markL
  refine List.map_congr_left fun k hk => ?_
  rw [List.mem_range] at hk
  obtain ⟨c1, c2, _⟩ := cell_of (t := k) (h := h) (wd := wd) (by omega)
  exact he _ _ c1 c2
theorem markF_congr {h wd : Nat} {m m' : Nat → Nat → Nat} (he : ∀ i j, i < h → j < wd → m i j = m' i j) : markF h wd m = markF h wd m' := by
  unfold markF; rw [markL_congr he _ (Nat.le_refl _)]
theorem renG_congr {h wd : Nat} {m m' : Nat → Nat → Nat} (he : ∀ i j, i < h → j < wd → m i j = m' i j) : renG h wd m = renG h wd m' := by
  funext i j
  unfold renG roomG
  by_cases hc : i < h ∧ j < wd ∧ i * wd + j < h * wd
  · rw [if_pos hc, if_pos hc, markF_congr he, he i j hc.1 hc.2.1]
  · rw [if_neg hc, if_neg hc]
theorem drawOk_congr {h wd : Nat} {m m' : Nat → Nat → Nat} (he : ∀ i j, i < h → j < wd → m i j = m' i j) : drawOk h wd m = drawOk h wd m' := by
  unfold drawOk
  simp only [Int.toNat_natCast, markF_congr he, renG_congr he]
/-- whether drawing comes to a plan -/
theorem drawOk_iff {h wd : Nat} {m : Nat → Nat → Nat} : drawOk h wd m = true ↔ (1 ≤ h ∧ h ≤ 6) ∧ (1 ≤ wd ∧ wd ≤ 6) ∧ (markF h wd m).length ≤ 9 ∧ RectG h wd m := by
  constructor
  · intro hd
    have := drawOk_dims hd
    simp only [Int.toNat_natCast] at this
    obtain ⟨a, b, c, d⟩ := this
    exact ⟨by omega, by omega, c, (filled_ren (by omega) (by omega)).1 d⟩
  · rintro ⟨a, b, c, d⟩
    unfold drawOk
    simp only [Int.toNat_natCast]
    rw [l6B_true (by omega) (by omega), l6B_true (by omega) (by omega), decide_eq_true c, (filled_ren a.2 b.2).2 d]
    rfl

/-! ### grids with the same pattern -/

/-- cells are the same for one mark just if they are for the other -/
def SameG (h wd : Nat) (m m' : Nat → Nat → Nat) : Prop := ∀ i j i' j', i < h → j < wd → i' < h → j' < wd → (m' i' j' = m' i j ↔ m i' j' = m i j)

def toMark (h wd : Nat) (m m' : Nat → Nat → Nat) (v : Nat) : Nat := m' ((markL wd m (h * wd)).idxOf v / wd) ((markL wd m (h * wd)).idxOf v % wd)

theorem toMark_at {h wd : Nat} {m m' : Nat → Nat → Nat} (hs : SameG h wd m m') {i j : Nat} (hi : i < h) (hj : j < wd) : toMark h wd m m' (m i j) = m' i j := by
  have hmem : m i j ∈ markL wd m (h * wd) := (mem_firsts _ _).1 (markF_mem hi hj)
  have hlt := List.idxOf_lt_length_of_mem hmem
  have hk : (markL wd m (h * wd)).idxOf (m i j) < h * wd := by simpa [markL] using hlt
  obtain ⟨c1, c2, _⟩ := cell_of hk
  have he : (markL wd m (h * wd))[(markL wd m (h * wd)).idxOf (m i j)]? = some (m i j) := by rw [List.getElem?_eq_getElem hlt, List.getElem_idxOf]
  unfold toMark
  rw [hs i j _ _ hi hj c1 c2]
  generalize (markL wd m (h * wd)).idxOf (m i j) = k at *
  unfold markL at he
  rw [List.getElem?_map, List.getElem?_range hk] at he
  simpa using he

theorem markL_map {h wd : Nat} {m m' : Nat → Nat → Nat} (hs : SameG h wd m m') {t : Nat} (ht : t ≤ h * wd) : markL wd m' t = (markL wd m t).map (toMark h wd m m') := by
  unfold markL
  rw [List.map_map]
  refine List.map_congr_left fun k hk => ?_
  rw [List.mem_range] at hk
  obtain ⟨c1, c2, _⟩ := cell_of (t := k) (h := h) (wd := wd) (by omega)
  exact (toMark_at hs c1 c2).symm

theorem toMark_inj {h wd : Nat} {m m' : Nat → Nat → Nat} (hs : SameG h wd m m') {t : Nat} (ht : t ≤ h * wd) : ∀ x ∈ markL wd m t, ∀ y ∈ markL wd m t, toMark h wd m m' x = toMark h wd m m' y → x = y := by
  intro x hx y hy he
  obtain ⟨k, hk, rfl⟩ := markL_mem hx
  obtain ⟨k', hk', rfl⟩ := markL_mem hy
  obtain ⟨c1, c2, _⟩ := cell_of (t := k) (h := h) (wd := wd) (by omega)
  obtain ⟨d1, d2, _⟩ := cell_of (t := k') (h := h) (wd := wd) (by omega)
  rw [toMark_at hs c1 c2, toMark_at hs d1 d2] at he
  exact (hs _ _ _ _ d1 d2 c1 c2).1 he

theorem markF_map {h wd : Nat} {m m' : Nat → Nat → Nat} (hs : SameG h wd m m') : markF h wd m' = (markF h wd m).map (toMark h wd m m') := by
  unfold markF
  rw [markL_map hs (Nat.le_refl _), firsts_map (toMark_inj hs (Nat.le_refl _))]
theorem markF_len {h wd : Nat} {m m' : Nat → Nat → Nat} (hs : SameG h wd m m') : (markF h wd m').length = (markF h wd m).length := by
  rw [markF_map hs, List.length_map]

theorem renG_pattern {h wd : Nat} {m m' : Nat → Nat → Nat} (hs : SameG h wd m m') : renG h wd m' = renG h wd m := by
  funext i j
  unfold renG roomG
  by_cases hc : i < h ∧ j < wd ∧ i * wd + j < h * wd
  · rw [if_pos hc, if_pos hc, markF_map hs, ← toMark_at hs hc.1 hc.2.1]
    refine idxOf_map fun x hx he => ?_
    unfold markF at hx
    rw [mem_firsts] at hx
    exact toMark_inj hs (Nat.le_refl _) x hx _ ((mem_firsts _ _).1 (markF_mem hc.1 hc.2.1)) he
  · rw [if_neg hc, if_neg hc]

theorem SameG.rect {h wd : Nat} {m m' : Nat → Nat → Nat} (hs : SameG h wd m m') (hr : RectG h wd m) : RectG h wd m' := hr.of_same hs
theorem SameG.symm {h wd : Nat} {m m' : Nat → Nat → Nat} (hs : SameG h wd m m') : SameG h wd m' m := fun i j i' j' a b c d => (hs i j i' j' a b c d).symm

theorem drawOk_pattern {h wd : Nat} {m m' : Nat → Nat → Nat} (hs : SameG h wd m m') : drawOk h wd m' = drawOk h wd m := by
  rw [Bool.eq_iff_iff, drawOk_iff, drawOk_iff, markF_len hs]
  exact ⟨fun ⟨a, b, c, d⟩ => ⟨a, b, c, hs.symm.rect d⟩, fun ⟨a, b, c, d⟩ => ⟨a, b, c, hs.rect d⟩⟩

theorem ren_pattern (h wd : Nat) (m : Nat → Nat → Nat) : SameG h wd m (renG h wd m) := fun _ _ _ _ a b c d => renG_same a b c d

theorem renG_ren (h wd : Nat) (m : Nat → Nat → Nat) : renG h wd (renG h wd m) = renG h wd m := renG_pattern (ren_pattern h wd m)

/-- numbers in the order of first cells are those given anew -/
theorem ren_canon {h wd : Nat} {g : Nat → Nat → Nat} (hc : CanonG h wd g) {i j : Nat} (hi : i < h) (hj : j < wd) : renG h wd g i j = g i j := by
  have key : ∀ t, t ≤ h * wd → ∃ n, firsts (markL wd g t) = List.range n := by
    intro t
    induction t with
    | zero => intro _; exact ⟨0, rfl⟩
    | succ t ih =>
      intro ht
      obtain ⟨n, hn⟩ := ih (by omega)
      obtain ⟨c1, c2, c3⟩ := cell_of (t := t) (h := h) (wd := wd) (by omega)
      have hs := markL_succ wd g (t / wd) (t % wd) c2
      rw [c3] at hs
      rw [hs, firsts_snoc, hn]
      by_cases hm : g (t / wd) (t % wd) ∈ List.range n
      · rw [if_pos hm]; exact ⟨n, rfl⟩
      · rw [if_neg hm]
        refine ⟨n + 1, ?_⟩
        rw [List.mem_range] at hm
        have : g (t / wd) (t % wd) = n := by
          rcases Nat.lt_trichotomy (g (t / wd) (t % wd)) n with h1 | h1 | h1
          · exact absurd h1 hm
          · exact h1
          · exfalso
            obtain ⟨i', j', a, b, c, d⟩ := hc _ _ c1 c2 n h1
            have hmem : n ∈ markL wd g t := by
              unfold markL
              rw [List.mem_map]
              obtain ⟨e1, e2⟩ := cell_div i' j' wd b
              exact ⟨i' * wd + j', List.mem_range.2 (by omega), by rw [e1, e2]; exact d⟩
            rw [← mem_firsts, hn, List.mem_range] at hmem
            omega
        rw [this, List.range_succ]
  obtain ⟨n, hn⟩ := key (h * wd) (Nat.le_refl _)
  rw [renG_in hi hj]
  have hmem := markF_mem (m := g) hi hj
  unfold markF at hmem ⊢
  rw [hn] at hmem ⊢
  rw [List.mem_range] at hmem
  have := (List.nodup_range (n := n)).idxOf_getElem (g i j) (by simpa using hmem)
  rwa [List.getElem_range] at this

/-! ### numbers of rooms -/

theorem nodup_lt : ∀ (n : Nat) (l : List Nat), l.Nodup → (∀ x ∈ l, x < n) → l.length ≤ n
  | 0, l, _, h => by
    cases l with
    | nil => exact Nat.le_refl _
    | cons x l => have := h x (by simp); omega
  | n + 1, l, hd, h => by
    have h1 := nodup_lt n (l.erase n) (hd.erase n) (fun x hx => by
      have h2 := h x (List.mem_of_mem_erase hx)
      have h3 : x ≠ n := fun he => by subst he; exact (List.Nodup.not_mem_erase hd) hx
      omega)
    have h2 := List.length_erase (a := n) (l := l)
    split at h2 <;> omega

theorem markF_few {h wd n : Nat} {m : Nat → Nat → Nat} (hm : ∀ i j, i < h → j < wd → m i j < n) : (markF h wd m).length ≤ n := by
  refine nodup_lt n _ (firsts_nodup _) fun x hx => ?_
  unfold markF at hx
  rw [mem_firsts] at hx
  obtain ⟨k, hk, rfl⟩ := markL_mem hx
  obtain ⟨c1, c2, _⟩ := cell_of hk
  exact hm _ _ c1 c2

/-! ### lists of texts as grids -/

theorem byteAt_rows {h wd : Nat} {g : Nat → Nat → Nat} {i j : Nat} (hi : i < h) (hj : j < wd) : byteAt (rowsT h wd g) i j = UInt8.ofNat (97 + g i j) := by
  unfold byteAt rowsT rowT
  simp [hi, hj]

theorem rowsT_row {h wd : Nat} {g : Nat → Nat → Nat} {i : Nat} (hi : i < h) : (rowsT h wd g).getD i ByteArray.empty = ⟨(rowT wd g i).toArray⟩ := by
  unfold rowsT; simp [hi]

theorem rowsT_wide {h wd : Nat} {g : Nat → Nat → Nat} (hh : 1 ≤ h) : wideB (rowsT h wd g) = wd := by
  unfold wideB
  rw [rowsT_row (by omega), ← size_list]
  exact rowT_len _ _ _

theorem rowsT_mark {h wd : Nat} {g : Nat → Nat → Nat} {i j : Nat} (hi : i < h) (hj : j < wd) (hg : g i j < 26) : markN (rowsT h wd g) i j = g i j := by
  rw [← markC_at, byteAt_rows hi hj]
  unfold markC
  rw [UInt8.toNat_ofNat', Nat.mod_eq_of_lt (by omega)]
  omega

theorem rowsT_grid {h wd : Nat} {g : Nat → Nat → Nat} (h1 : 1 ≤ h) (h6 : h ≤ 6) (w1 : 1 ≤ wd) (w6 : wd ≤ 6) (hg : ∀ i j, i < h → j < wd → g i j < 26) : GridP (rowsT h wd g) := by
  have hw := rowsT_wide (wd := wd) (g := g) h1
  refine ⟨by rw [rowsT_len]; exact h1, by rw [rowsT_len]; exact h6, by rw [hw]; exact w1, by rw [hw]; exact w6, fun i hi => ?_, fun i hi => ?_⟩
  · rw [rowsT_len] at hi
    rw [hw, rowsT_row hi, ← size_list]
    exact rowT_len _ _ _
  · rw [rowsT_len] at hi
    rw [rowsT_row hi]
    unfold smallB rowT
    rw [List.all_eq_true]
    intro c hc
    simp only [List.mem_map, List.mem_range] at hc
    obtain ⟨j, hj, rfl⟩ := hc
    have := hg i j hi hj
    rw [UInt8.toNat_ofNat', Nat.mod_eq_of_lt (by omega), decide_eq_true_eq]
    omega

theorem gridG_rows {h wd : Nat} {g : Nat → Nat → Nat} (h1 : 1 ≤ h) (hg : ∀ i j, i < h → j < wd → g i j < 26) : gridG (rowsT h wd g) = renG h wd g := by
  unfold gridG
  rw [rowsT_len, rowsT_wide h1]
  exact renG_congr fun i j hi hj => rowsT_mark hi hj (hg i j hi hj)

theorem names_rows {h wd : Nat} {g : Nat → Nat → Nat} (h1 : 1 ≤ h) (h6 : h ≤ 6) (w1 : 1 ≤ wd) (w6 : wd ≤ 6) (hg : ∀ i j, i < h → j < wd → g i j < 26) : namesB (rowsT h wd g) = rowsT h wd (renG h wd g) := by
  have := rows_names (rowsT_grid h1 h6 w1 w6 hg)
  rw [rowsT_len, rowsT_wide h1, gridG_rows h1 hg] at this
  exact this.symm

theorem nameDraw_rows {h wd : Nat} {g : Nat → Nat → Nat} (h1 : 1 ≤ h) (h6 : h ≤ 6) (w1 : 1 ≤ wd) (w6 : wd ≤ 6) (hg : ∀ i j, i < h → j < wd → g i j < 26) : nameDraw (rowsT h wd g) = drawOk h wd g := by
  unfold nameDraw
  rw [(rowsT_grid h1 h6 w1 w6 hg).nameOk, Bool.true_and, rowsT_len, rowsT_wide h1]
  exact drawOk_congr fun i j hi hj => rowsT_mark hi hj (hg i j hi hj)

/-- a grid's rows are a plan just if it can be drawn, where its numbers are given in the order of first cells -/
theorem planB_rows {h wd : Nat} {m : Nat → Nat → Nat} (h1 : 1 ≤ h) (h6 : h ≤ 6) (w1 : 1 ≤ wd) (w6 : wd ≤ 6) (hg : ∀ i j, i < h → j < wd → renG h wd m i j < 26) : planB (rowsT h wd (renG h wd m)) = drawOk h wd m := by
  rw [← readOk_eq]
  unfold readOk
  rw [gridG_rows h1 hg, rowsT_len, rowsT_wide h1, renG_ren, nameDraw_rows h1 h6 w1 w6 hg, drawOk_pattern (ren_pattern h wd m)]
  simp [eqS]

theorem ren_lt {h wd : Nat} {m : Nat → Nat → Nat} {n : Nat} (hm : ∀ i j, i < h → j < wd → m i j < n) {i j : Nat} (hi : i < h) (hj : j < wd) : renG h wd m i j < n := by
  rw [renG_in hi hj]
  exact Nat.lt_of_lt_of_le (List.idxOf_lt_length_of_mem (markF_mem hi hj)) (markF_few hm)

/-! ### what a plan is -/

structure PlanP (p : List ByteArray) : Prop where
  grid : GridP p
  names : namesB p = p
  few : gridR p ≤ 9
  rect : RectG p.length (wideB p) (markN p)
  mark : ∀ i j, i < p.length → j < wideB p → markN p i j = gridG p i j
  rooms : roomsB p = (gridR p : Nat)

theorem planP_of {p : List ByteArray} (h : planB p = true) : PlanP p := by
  rw [← readOk_eq] at h
  have h0 := h
  unfold readOk at h
  rw [Bool.and_eq_true] at h
  obtain ⟨a, b, c, d, e⟩ := nameDraw_dims h.1
  have hp := gridP_of_name a b.2 c.1 c.2
  have hn : namesB p = p := by rw [← rows_names hp]; exact eqS_iff.1 h.2
  exact ⟨hp, hn, d, (filled_ren hp.h6 hp.w6).1 e, fun i j hi hj => marks_rooms hp hn hi hj, rooms_grid hp hn⟩

theorem PlanP.lt {p : List ByteArray} (hp : PlanP p) {i j : Nat} (hi : i < p.length) (hj : j < wideB p) : markN p i j < gridR p := by
  rw [hp.mark i j hi hj]; exact gridG_lt hi hj
theorem PlanP.canon {p : List ByteArray} (hp : PlanP p) : CanonG p.length (wideB p) (markN p) := fun i j hi hj r hr => by
  have := canon_ren p.length (wideB p) (markN p) i j hi hj r (by rw [show renG p.length (wideB p) (markN p) i j = gridG p i j from rfl, ← hp.mark i j hi hj]; exact hr)
  obtain ⟨i', j', a, b, c, d⟩ := this
  exact ⟨i', j', a, b, c, (hp.mark i' j' a b).trans d⟩

/-! ### rectangles that are turned, spread, joined -/

/-- a map of rows or columns under which what comes from an interval is one -/
def Pull (n h : Nat) (f : Nat → Nat) : Prop := (∀ i, i < n → f i < h) ∧ ∀ a k, a + k ≤ h → ∃ a' k', a' + k' ≤ n ∧ ∀ i, i < n → (a ≤ f i ∧ f i < a + k ↔ a' ≤ i ∧ i < a' + k')

theorem RectG.pull {h wd n n' : Nat} {m : Nat → Nat → Nat} (hr : RectG h wd m) {f f' : Nat → Nat} (hf : Pull n h f) (hf' : Pull n' wd f') : RectG n n' (fun i j => m (f i) (f' j)) := by
  intro i j hi hj
  obtain ⟨row, col, hh, wi, h1, h2, h3⟩ := hr (f i) (f' j) (hf.1 i hi) (hf'.1 j hj)
  obtain ⟨a, k, hak, ha⟩ := hf.2 row hh h1
  obtain ⟨a', k', hak', ha'⟩ := hf'.2 col wi h2
  refine ⟨a, a', k, k', hak, hak', fun i' j' hi' hj' => ?_⟩
  rw [h3 _ _ (hf.1 i' hi') (hf'.1 j' hj')]
  have e1 := ha i' hi'
  have e2 := ha' j' hj'
  unfold InR
  constructor
  · rintro ⟨x, y, z, u⟩
    have := e1.1 ⟨x, y⟩; have := e2.1 ⟨z, u⟩; omega
  · rintro ⟨x, y, z, u⟩
    have := e1.2 ⟨x, y⟩; have := e2.2 ⟨z, u⟩; omega

theorem RectG.swap {h wd : Nat} {m : Nat → Nat → Nat} (hr : RectG h wd m) : RectG wd h (fun i j => m j i) := by
  intro i j hi hj
  obtain ⟨row, col, hh, wi, h1, h2, h3⟩ := hr j i hj hi
  refine ⟨col, row, wi, hh, h2, h1, fun i' j' hi' hj' => ?_⟩
  rw [h3 j' i' hj' hi']
  unfold InR
  omega

theorem pull_id (n : Nat) : Pull n n (fun i => i) := ⟨fun _ h => h, fun a k h => ⟨a, k, h, fun _ _ => Iff.rfl⟩⟩
theorem pull_back (n : Nat) : Pull n n (fun i => n - 1 - i) := ⟨fun i h => by show n - 1 - i < n; omega, fun a k h => ⟨n - (a + k), k, by omega, fun i hi => by show (a ≤ n - 1 - i ∧ n - 1 - i < a + k) ↔ _; omega⟩⟩

end Go.Proofs.Ytpgcpmfemcfoaaa
