
/-
  Plain mathematics: what the model's folds over the cells of a list of texts tell.
-/
import Derived.Test.YtieieokkaomkaaaMathB
import Derived.Test.YtieieokkaomkaaaImplH
import Derived.Test.YtieieokkaomkaaaSpecD
namespace Go.Proofs.Ytieieokkaomkaaa

section
variable {σ : Type}
def foldN (n : Nat) (f : Nat → σ → σ) (st : σ) : σ := match n with
  | 0 => st
  | n + 1 => f n (foldN n f st)

theorem foldN_front (n : Nat) (f : Nat → σ → σ) (st : σ) : foldN (n + 1) f st = foldN n (fun j => f (j + 1)) (f 0 st) := by
  induction n with
  | zero => rfl
  | succ n ih => rw [foldN, ih]; rfl

theorem foldN_ind {n : Nat} {f : Nat → σ → σ} {st : σ} {P : Nat → σ → Prop} (h0 : P 0 st) (hs : ∀ k, k < n → ∀ s, P k s → P (k + 1) (f k s)) : P n (foldN n f st) := by
  induction n with
  | zero => exact h0
  | succ n ih => exact hs n (by omega) _ (ih fun k hk => hs k (by omega))

theorem rowFold_foldN (f : Nat → Nat → UInt8 → σ → σ) (i : Nat) : ∀ (l : List UInt8) (k : Nat) (st : σ), rowFold f i k l st = foldN l.length (fun j => f i (k + j) (l.getD j 0)) st
  | [], _, _ => rfl
  | c :: t, k, st => by
    rw [rowFold, rowFold_foldN f i t (k + 1), List.length_cons, foldN_front]
    congr 1
    funext j
    rw [List.getD_cons_succ, show k + 1 + j = k + (j + 1) from by omega]

theorem gridFold_foldN (f : Nat → Nat → UInt8 → σ → σ) : ∀ (p : List ByteArray) (i : Nat) (st : σ), gridFold f i p st = foldN p.length (fun a => rowFold f (i + a) 0 (p.getD a ByteArray.empty).data.toList) st
  | [], _, _ => rfl
  | s :: t, i, st => by
    rw [gridFold, gridFold_foldN f t (i + 1), List.length_cons, foldN_front]
    congr 1
    funext j
    rw [List.getD_cons_succ, show i + 1 + j = i + (j + 1) from by omega]

/-- the byte of a cell -/
def byteAt (p : List ByteArray) (i j : Nat) : UInt8 := (p.getD i ByteArray.empty).data.toList.getD j 0

/-- all texts are as long as the first one -/
def Even (p : List ByteArray) : Prop := ∀ i, i < p.length → (p.getD i ByteArray.empty).size = wideB p

theorem grid_ind {p : List ByteArray} (hp : Even p) {f : Nat → Nat → UInt8 → σ → σ} {st : σ} {P : Nat → σ → Prop} (h0 : P 0 st)
    (hs : ∀ i j, i < p.length → j < wideB p → ∀ s, P (i * wideB p + j) s → P (i * wideB p + j + 1) (f i j (byteAt p i j) s)) : P (p.length * wideB p) (gridFold f 0 p st) := by
  rw [gridFold_foldN]
  refine foldN_ind (P := fun i s => P (i * wideB p) s) (by rw [Nat.zero_mul]; exact h0) fun i hi s hPs => ?_
  rw [rowFold_foldN, size_list, hp i hi, Nat.succ_mul]
  refine foldN_ind (P := fun j s => P (i * wideB p + j) s) hPs fun j hj s hPs => ?_
  rw [Nat.zero_add, Nat.zero_add]
  exact hs i j hi hj s hPs

theorem grid_ind2 {p : List ByteArray} (hp : Even p) {f : Nat → Nat → UInt8 → σ → σ} {st : σ} {P : Nat → σ → Prop} {Q : Nat → Nat → σ → Prop} (h0 : P 0 st)
    (h1 : ∀ i, i < p.length → ∀ s, P i s → Q i 0 s)
    (hs : ∀ i j, i < p.length → j < wideB p → ∀ s, Q i j s → Q i (j + 1) (f i j (byteAt p i j) s)) (h2 : ∀ i, i < p.length → ∀ s, Q i (wideB p) s → P (i + 1) s) : P p.length (gridFold f 0 p st) := by
  rw [gridFold_foldN]
  refine foldN_ind (P := P) h0 fun i hi s hPs => h2 i hi _ ?_
  rw [rowFold_foldN, size_list, hp i hi]
  refine foldN_ind (P := Q i) (h1 i hi s hPs) fun j hj s hPs => ?_
  rw [Nat.zero_add, Nat.zero_add]
  exact hs i j hi hj s hPs
end

/-- a list of texts of small letters, all as long, at most six rows and columns -/
structure GridP (p : List ByteArray) : Prop where
  h1 : 1 ≤ p.length
  h6 : p.length ≤ 6
  w1 : 1 ≤ wideB p
  w6 : wideB p ≤ 6
  even : Even p
  small : ∀ i, i < p.length → smallB (p.getD i ByteArray.empty).data.toList = true

theorem GridP.byte {p : List ByteArray} (hp : GridP p) {i j : Nat} (hi : i < p.length) (hj : j < wideB p) : (byteAt p i j).toNat = 97 + markN p i j ∧ markN p i j < 26 := by
  have h1 := smallB_at (hp.small i hi) (k := j) (by rw [size_list, hp.even i hi]; exact hj)
  have h2 := markN_lt p i j
  unfold markN at h2 ⊢
  unfold byteAt
  omega

theorem gridP_of {p : List ByteArray} (h : gridB p = true) : GridP p := by
  have h1 := gridB_len h
  have h2 := gridB_row h
  have h3 := h2 _ (getD_mem ByteArray.empty (show 0 < p.length by omega))
  exact ⟨h1.1, h1.2, h3.2.1, h3.2.2.1, fun i hi => (h2 _ (getD_mem _ hi)).1, fun i hi => (h2 _ (getD_mem _ hi)).2.2.2⟩

theorem gridB_of {p : List ByteArray} (h : GridP p) : gridB p = true := by
  unfold gridB
  rw [l6B_true (by have := h.h1; omega) (by have := h.h6; omega), Bool.and_true, List.all_eq_true]
  intro s hs
  obtain ⟨i, hi, rfl⟩ := List.getElem_of_mem hs
  have h1 := h.even i hi
  have h2 := h.small i hi
  have he : p.getD i ByteArray.empty = p[i] := by simp [hi]
  rw [he] at h1 h2
  refine rowB_ok h1 ?_ h2
  rw [h1]
  exact l6B_true (by have := h.w1; omega) (by have := h.w6; omega)

theorem GridP.nameOk {p : List ByteArray} (h : GridP p) : nameOkB p = true := nameOkB_yes h.h1 fun k hk => nrowB_ok (h.even k hk) (h.small k hk)
theorem gridP_of_name {p : List ByteArray} (h : nameOkB p = true) (h6 : p.length ≤ 6) (w1 : 1 ≤ wideB p) (w6 : wideB p ≤ 6) : GridP p := by
  have hlen : 1 ≤ p.length := by
    by_cases h1 : 1 ≤ p.length
    · exact h1
    · rw [nameOkB_none h1] at h; cases h
  have hrow : ∀ i, i < p.length → nrowB (wideB p) (p.getD i ByteArray.empty) = true := fun i hi => by
    cases hb : nrowB (wideB p) (p.getD i ByteArray.empty)
    · rw [nameOkB_no hi hb] at h; cases h
    · rfl
  exact ⟨hlen, h6, w1, w6, fun i hi => (nrowB_spec (hrow i hi)).1, fun i hi => (nrowB_spec (hrow i hi)).2⟩

/-! ### the model's counts -/

theorem cellsB_eq {p : List ByteArray} (hp : GridP p) (r : Nat) : cellsB p (r : Int) = ((cntG p.length (wideB p) (fun i j => markN p i j == r) : Nat) : Int) := by
  unfold cellsB cntG
  refine grid_ind2 hp.even (P := fun i (s : Int) => s = ((sumN i fun i => sumN (wideB p) fun j => if (markN p i j == r) = true then 1 else 0 : Nat) : Int))
    (Q := fun i j (s : Int) => s = (((sumN i fun i => sumN (wideB p) fun j => if (markN p i j == r) = true then 1 else 0) + sumN j fun j => if (markN p i j == r) = true then 1 else 0 : Nat) : Int)) rfl
    (fun i hi s hs => hs) (fun i j hi hj s hs => ?_) (fun i hi s hs => hs)
  rw [hs]
  have hb := hp.byte hi hj
  rw [show sumN (j + 1) (fun j => if (markN p i j == r) = true then 1 else 0) = sumN j (fun j => if (markN p i j == r) = true then 1 else 0) + if (markN p i j == r) = true then 1 else 0 from rfl]
  unfold cellsF
  by_cases he : markN p i j = r
  · rw [if_pos (by omega), if_pos (by simpa using he)]; omega
  · rw [if_neg (by omega), if_neg (by simpa using he)]; omega

theorem seen_succ {wd i j i' j' : Nat} (hj : j < wd) (hj' : j' < wd) (h : i' * wd + j' < i * wd + j + 1) : i' * wd + j' < i * wd + j ∨ i' = i ∧ j' = j := by
  rcases Nat.lt_or_ge (i' * wd + j') (i * wd + j) with h1 | h1
  · exact .inl h1
  · right
    have he : i' * wd + j' = i * wd + j := by omega
    have e1 := cell_div i' j' wd hj'
    have e2 := cell_div i j wd hj
    rw [he] at e1
    exact ⟨e1.1.symm.trans e2.1, e1.2.symm.trans e2.2⟩

theorem roomsB_eq {p : List ByteArray} (hp : GridP p) :
    (∀ i j, i < p.length → j < wideB p → ((markN p i j : Nat) : Int) + 1 ≤ roomsB p) ∧ ∃ i j, i < p.length ∧ j < wideB p ∧ ((markN p i j : Nat) : Int) + 1 = roomsB p := by
  have h := grid_ind hp.even (f := roomsF) (st := 0) (P := fun t (s : Int) => (∀ i j, i < p.length → j < wideB p → i * wideB p + j < t → ((markN p i j : Nat) : Int) + 1 ≤ s) ∧
    (t = 0 ∧ s = 0 ∨ ∃ i j, i < p.length ∧ j < wideB p ∧ ((markN p i j : Nat) : Int) + 1 = s)) ⟨fun i j _ _ h0 => by omega, .inl ⟨rfl, rfl⟩⟩ (fun i j hi hj s hs => by
      obtain ⟨h1, h2⟩ := hs
      have hb := hp.byte hi hj
      unfold roomsF
      by_cases hlt : s < ((byteAt p i j).toNat : Int) - 97 + 1
      · rw [if_pos hlt]
        refine ⟨fun i' j' hi' hj' ht => ?_, .inr ⟨i, j, hi, hj, by omega⟩⟩
        rcases seen_succ hj hj' ht with h' | ⟨rfl, rfl⟩
        · have := h1 i' j' hi' hj' h'; omega
        · omega
      · rw [if_neg hlt]
        refine ⟨fun i' j' hi' hj' ht => ?_, ?_⟩
        · rcases seen_succ hj hj' ht with h' | ⟨rfl, rfl⟩
          · exact h1 i' j' hi' hj' h'
          · omega
        · right
          rcases h2 with ⟨_, h2⟩ | h2
          · exfalso; omega
          · exact h2)
  refine ⟨fun i j hi hj => h.1 i j hi hj (cell_lt hi hj), ?_⟩
  rcases h.2 with ⟨h0, _⟩ | h2
  · exfalso
    have := Nat.mul_le_mul hp.h1 hp.w1
    omega
  · exact h2

theorem boxB_eq {p : List ByteArray} (hp : GridP p) (r : Nat) (hr : ∃ i j, i < p.length ∧ j < wideB p ∧ markN p i j = r) :
    (∀ i j, i < p.length → j < wideB p → markN p i j = r → (boxB p r).top ≤ i ∧ (i : Int) ≤ (boxB p r).low ∧ (boxB p r).left ≤ j ∧ (j : Int) ≤ (boxB p r).right) ∧
    (∃ i j, i < p.length ∧ j < wideB p ∧ markN p i j = r ∧ (i : Int) = (boxB p r).top) ∧ (∃ i j, i < p.length ∧ j < wideB p ∧ markN p i j = r ∧ (i : Int) = (boxB p r).low) ∧
    (∃ i j, i < p.length ∧ j < wideB p ∧ markN p i j = r ∧ (j : Int) = (boxB p r).left) ∧ (∃ i j, i < p.length ∧ j < wideB p ∧ markN p i j = r ∧ (j : Int) = (boxB p r).right) := by
  have h := grid_ind hp.even (f := boxF (r : Int)) (st := ⟨p.length, (p.getD 0 ByteArray.empty).size, -1, -1⟩) (P := fun t (s : Box4) =>
    (∀ i j, i < p.length → j < wideB p → i * wideB p + j < t → markN p i j = r → s.top ≤ i ∧ (i : Int) ≤ s.low ∧ s.left ≤ j ∧ (j : Int) ≤ s.right) ∧
    ((∀ i j, i < p.length → j < wideB p → i * wideB p + j < t → markN p i j ≠ r) ∧ s = ⟨p.length, wideB p, -1, -1⟩ ∨
    (∃ i j, i < p.length ∧ j < wideB p ∧ markN p i j = r ∧ (i : Int) = s.top) ∧ (∃ i j, i < p.length ∧ j < wideB p ∧ markN p i j = r ∧ (i : Int) = s.low) ∧
    (∃ i j, i < p.length ∧ j < wideB p ∧ markN p i j = r ∧ (j : Int) = s.left) ∧ (∃ i j, i < p.length ∧ j < wideB p ∧ markN p i j = r ∧ (j : Int) = s.right)))
    ⟨fun i j _ _ h0 => by omega, .inl ⟨fun i j _ _ h0 => by omega, rfl⟩⟩ (fun i j hi hj s hs => by
      obtain ⟨h1, h2⟩ := hs
      obtain ⟨t, l, lo, ri⟩ := s
      have hb := hp.byte hi hj
      by_cases he : markN p i j = r
      · rw [boxF_yes (by omega)]
        simp only at h1 h2 ⊢
        refine ⟨fun i' j' hi' hj' ht hm => ?_, .inr ?_⟩
        · rcases seen_succ hj hj' ht with h' | ⟨rfl, rfl⟩
          · have := h1 i' j' hi' hj' h' hm
            refine ⟨?_, ?_, ?_, ?_⟩ <;> split <;> omega
          · refine ⟨?_, ?_, ?_, ?_⟩ <;> split <;> omega
        · rcases h2 with ⟨_, h2⟩ | ⟨a, b, c, d⟩
          · simp only [Box4.mk.injEq] at h2
            obtain ⟨rfl, rfl, rfl, rfl⟩ := h2
            rw [if_pos (by omega), if_pos (by omega), if_pos (by omega), if_pos (by omega)]
            exact ⟨⟨i, j, hi, hj, he, rfl⟩, ⟨i, j, hi, hj, he, rfl⟩, ⟨i, j, hi, hj, he, rfl⟩, ⟨i, j, hi, hj, he, rfl⟩⟩
          · refine ⟨?_, ?_, ?_, ?_⟩
            · split
              · exact ⟨i, j, hi, hj, he, rfl⟩
              · exact a
            · split
              · exact ⟨i, j, hi, hj, he, rfl⟩
              · exact b
            · split
              · exact ⟨i, j, hi, hj, he, rfl⟩
              · exact c
            · split
              · exact ⟨i, j, hi, hj, he, rfl⟩
              · exact d
      · rw [boxF_no (by omega)]
        refine ⟨fun i' j' hi' hj' ht hm => ?_, ?_⟩
        · rcases seen_succ hj hj' ht with h' | ⟨rfl, rfl⟩
          · exact h1 i' j' hi' hj' h' hm
          · exact absurd hm he
        · rcases h2 with ⟨h2, h3⟩ | h2
          · left
            refine ⟨fun i' j' hi' hj' ht => ?_, h3⟩
            rcases seen_succ hj hj' ht with h' | ⟨rfl, rfl⟩
            · exact h2 i' j' hi' hj' h'
            · exact he
          · exact .inr h2)
  refine ⟨fun i j hi hj hm => h.1 i j hi hj (cell_lt hi hj) hm, ?_⟩
  rcases h.2 with ⟨h0, _⟩ | h2
  · exfalso
    obtain ⟨i, j, hi, hj, hm⟩ := hr
    exact h0 i j hi hj (cell_lt hi hj) hm
  · exact h2

end Go.Proofs.Ytieieokkaomkaaa
