
/-
  How many permutations are fair, and loose: counted. (Plain mathematics: no function is named.)
-/
import Derived.Test.YtnkfopnkgingpaaCntM
import Derived.Test.YtnkfopnkgingpaaSevS
namespace Go.Proofs.Ytnkfopnkgingpaa

/-! # a count that asks of the last number alone -/
def nth : List Nat → Nat → Nat
  | [], _ => 0
  | a :: _, 0 => a
  | _ :: t, i + 1 => nth t i
def up (l : List Nat) : List Int := l.map fun (i : Nat) => (i : Int)
theorem up_at : ∀ (l : List Nat) (i : Nat), (up l).getD i 0 = ((nth l i : Nat) : Int)
  | [], i => by simp [up, nth]
  | a :: t, 0 => by simp [up, nth]
  | a :: t, i + 1 => by have := up_at t i; simp only [up, List.map_cons, List.getD_cons_succ, nth] at this ⊢; exact this
theorem up_len (l : List Nat) : (up l).length = l.length := by simp [up]
theorem up_snoc (l : List Nat) (x : Nat) : up (l ++ [x]) = up l ++ [(x : Int)] := by simp [up]
def hasN : List Nat → Nat → Bool
  | [], _ => false
  | a :: t, x => Nat.beq a x || hasN t x
theorem hasN_iff (x : Nat) : ∀ l : List Nat, hasN l x = true ↔ (x : Int) ∈ up l
  | [] => by simp [up, hasN]
  | a :: t => by
    have := hasN_iff x t
    unfold hasN
    rw [Bool.or_eq_true, this, Nat.beq_eq]
    unfold up
    rw [List.map_cons, List.mem_cons]
    constructor
    · rintro (h | h)
      · left; omega
      · right; exact h
    · rintro (h | h)
      · left; omega
      · right; exact h
def sumN (f : Nat → Nat) : Nat → Nat
  | 0 => 0
  | m + 1 => sumN f m + f m
def fastC (bad : List Nat → Nat → Nat → Bool) (n : Nat) : Nat → Nat → List Nat → Nat
  | 0, _, _ => 1
  | k + 1, len, l => sumN (fun x => bif hasN l x || bad l len x then 0 else fastC bad n k (len + 1) (l ++ [x])) n
theorem none_ask {ask : List Int → Bool} (hp : ∀ l x, ask (l ++ [x]) = true → ask l = true) (n : Nat) : ∀ (k : Nat) (l : List Int), ask l = false → cntK ask (permK n k l) = 0
  | 0, l, h => by simp [cntK, permK, h]
  | k + 1, l, h => by
    rw [permK_succ]
    suffices H : ∀ m, cntK ask (permU n k l m) = 0 from H n
    intro m
    induction m with
    | zero => rfl
    | succ m ih =>
      by_cases hm : (m : Int) ∈ l
      · rw [permU_skip hm, ih]
      · rw [permU_step hm, cntK_add, ih, none_ask hp n k _ (by
          cases hx : ask (l ++ [(m : Int)])
          · rfl
          · rw [hp _ _ hx] at h; cases h)]
theorem fastC_eq {ask : List Int → Bool} {bad : List Nat → Nat → Nat → Bool} (hp : ∀ l x, ask (l ++ [x]) = true → ask l = true)
    (hs : ∀ l x, ask (up l) = true → ask (up (l ++ [x])) = !bad l l.length x) (n : Nat) : ∀ (k len : Nat) (l : List Nat), l.length = len → ask (up l) = true → fastC bad n k len l = cntK ask (permK n k (up l))
  | 0, len, l, _, h => by simp [cntK, permK, h, fastC]
  | k + 1, len, l, hl, h => by
    rw [permK_succ]
    unfold fastC
    suffices H : ∀ m, sumN (fun x => bif hasN l x || bad l len x then 0 else fastC bad n k (len + 1) (l ++ [x])) m = cntK ask (permU n k (up l) m) from H n
    intro m
    induction m with
    | zero => rfl
    | succ m ih =>
      unfold sumN
      rw [ih]
      by_cases hm : (m : Int) ∈ up l
      · rw [permU_skip hm, (hasN_iff m l).2 hm]
        simp
      · have hf : hasN l m = false := by
          cases hx : hasN l m
          · rfl
          · exact absurd ((hasN_iff m l).1 hx) hm
        rw [permU_step hm, cntK_add, hf, Bool.false_or, ← up_snoc]
        have h1 := hs l m h
        rw [hl] at h1
        cases hb : bad l len m
        · rw [hb] at h1
          rw [cond_false, fastC_eq hp hs n k (len + 1) (l ++ [m]) (by simp [hl]) (by rw [h1]; rfl)]
        · rw [hb] at h1
          rw [cond_true, none_ask hp n k _ (by rw [h1]; rfl)]

/-! # the last number ends a twist -/
def twN (x vb vc va : Nat) : Bool := (Nat.ble (vc + 1) va && (Nat.ble (va + 1) x && Nat.ble (x + 1) vb)) || (Nat.ble (vb + 1) x && (Nat.ble (x + 1) va && Nat.ble (va + 1) vc))
def someN (p : Nat → Bool) : Nat → Bool
  | 0 => false
  | m + 1 => p m || someN p m
theorem someN_iff (p : Nat → Bool) : ∀ m, someN p m = true ↔ ∃ i, i < m ∧ p i = true
  | 0 => by simp [someN]
  | m + 1 => by
    unfold someN
    rw [Bool.or_eq_true, someN_iff p m]
    constructor
    · rintro (h | ⟨i, h1, h2⟩)
      · exact ⟨m, by omega, h⟩
      · exact ⟨i, by omega, h2⟩
    · rintro ⟨i, h1, h2⟩
      by_cases e : i = m
      · rw [← e]; exact .inl h2
      · exact .inr ⟨i, by omega, h2⟩
/-- x lies between b and c -/
def btN (x vb vc : Nat) : Bool := (Nat.ble (vc + 1) x && Nat.ble (x + 1) vb) || (Nat.ble (vb + 1) x && Nat.ble (x + 1) vc)
def pairN (l : List Nat) (x b vb vc : Nat) : Bool := btN x vb vc && someN (fun a => twN x vb vc (nth l a)) b
def badF (l : List Nat) (len x : Nat) : Bool := someN (fun b => pairN l x b (nth l b) (nth l (b + 1))) (len - 1)
def badL (l : List Nat) (len x : Nat) : Bool := someN (fun c => someN (fun b => pairN l x b (nth l b) (nth l c)) c) len
theorem twN_iff {x vb vc va : Nat} : twN x vb vc va = true ↔ ((vc < va ∧ va < x ∧ x < vb) ∨ (vb < x ∧ x < va ∧ va < vc)) := by
  unfold twN
  simp only [Bool.or_eq_true, Bool.and_eq_true, Nat.ble_eq]
  omega
theorem btN_of {x vb vc va : Nat} (h : twN x vb vc va = true) : btN x vb vc = true := by
  rw [twN_iff] at h
  unfold btN
  simp only [Bool.or_eq_true, Bool.and_eq_true, Nat.ble_eq]
  omega
theorem pairN_iff {l : List Nat} {x b vb vc : Nat} : pairN l x b vb vc = true ↔ ∃ a, a < b ∧ twN x vb vc (nth l a) = true := by
  unfold pairN
  rw [Bool.and_eq_true, someN_iff]
  exact ⟨fun h => h.2, fun h => ⟨by obtain ⟨a, _, h⟩ := h; exact btN_of h, h⟩⟩
theorem getD_fst {α : Type} {l m : List α} {i : Nat} {d : α} (h : i < l.length) : (l ++ m).getD i d = l.getD i d := by
  rw [List.getD_eq_getElem?_getD, List.getElem?_append_left h, ← List.getD_eq_getElem?_getD]
theorem getD_end {α : Type} {l : List α} {x d : α} : (l ++ [x]).getD l.length d = x := by
  rw [List.getD_eq_getElem?_getD, List.getElem?_append_right (Nat.le_refl _), Nat.sub_self]; rfl
theorem nth_fst {l : List Nat} {x i : Nat} (h : i < l.length) : nth (l ++ [x]) i = nth l i := by
  have h1 := up_at (l ++ [x]) i
  have h2 := up_at l i
  rw [up_snoc, getD_fst (by rw [up_len]; exact h)] at h1
  rw [h2] at h1
  omega
theorem nth_last (l : List Nat) (x : Nat) : nth (l ++ [x]) l.length = x := by
  have h1 := up_at (l ++ [x]) l.length
  rw [up_snoc, ← up_len l, getD_end] at h1
  rw [up_len] at h1
  omega
theorem twi_last {l : List Nat} {x a b c : Nat} (ha : a < l.length) (hb : b < l.length) (hc : c < l.length) : twiP (up (l ++ [x])) a b c l.length ↔ twN x (nth l b) (nth l c) (nth l a) = true := by
  unfold twiP
  rw [up_at, up_at, up_at, up_at, nth_fst ha, nth_fst hb, nth_fst hc, nth_last, twN_iff]
  omega
theorem twi_before {l : List Int} {x : Int} {a b c d : Nat} (h1 : a < l.length) (h2 : b < l.length) (h3 : c < l.length) (h4 : d < l.length) : twiP (l ++ [x]) a b c d ↔ twiP l a b c d := by
  unfold twiP
  rw [getD_fst h1, getD_fst h2, getD_fst h3, getD_fst h4]
theorem loose_pre (l : List Int) (x : Int) (h : looseB (l ++ [x]) = true) : looseB l = true := by
  rw [looseB_iff] at h ⊢
  intro a b c d h1 h2 h3 h4 ht
  exact h a b c d h1 h2 h3 (by simp; omega) ((twi_before (by omega) (by omega) (by omega) h4).2 ht)
theorem fair_pre (l : List Int) (x : Int) (h : fairB (l ++ [x]) = true) : fairB l = true := by
  rw [fairB_iff] at h ⊢
  intro a b d h1 h2 h4 ht
  exact h a b d h1 h2 (by simp; omega) ((twi_before (by omega) (by omega) (by omega) h4).2 ht)
theorem eq_not {a b : Bool} (h : a = true ↔ ¬ b = true) : a = !b := by cases a <;> cases b <;> simp_all
theorem loose_step (l : List Nat) (x : Nat) (h : looseB (up l) = true) : looseB (up (l ++ [x])) = !badL l l.length x := by
  refine eq_not ?_
  unfold badL
  rw [someN_iff, looseB_iff]
  rw [looseB_iff] at h
  constructor
  · rintro hl ⟨c, hc, h2⟩
    rw [someN_iff] at h2
    obtain ⟨b, hb, h2⟩ := h2
    obtain ⟨a, ha, h2⟩ := pairN_iff.1 h2
    exact hl a b c l.length ha hb hc (by rw [up_len]; simp) ((twi_last (by omega) (by omega) hc).2 h2)
  · intro hn a b c d h1 h2 h3 h4 ht
    rw [up_len, List.length_append, List.length_singleton] at h4
    by_cases hd : d < l.length
    · rw [up_snoc] at ht
      exact h a b c d h1 h2 h3 (by rw [up_len]; exact hd) ((twi_before (by rw [up_len]; omega) (by rw [up_len]; omega) (by rw [up_len]; omega) (by rw [up_len]; exact hd)).1 ht)
    · obtain rfl : d = l.length := by omega
      refine hn ⟨c, h3, ?_⟩
      rw [someN_iff]
      exact ⟨b, h2, pairN_iff.2 ⟨a, h1, (twi_last (by omega) (by omega) h3).1 ht⟩⟩
theorem fair_step (l : List Nat) (x : Nat) (h : fairB (up l) = true) : fairB (up (l ++ [x])) = !badF l l.length x := by
  refine eq_not ?_
  unfold badF
  rw [someN_iff, fairB_iff]
  rw [fairB_iff] at h
  constructor
  · rintro hl ⟨b, hb, h2⟩
    obtain ⟨a, ha, h2⟩ := pairN_iff.1 h2
    exact hl a b l.length ha (by omega) (by rw [up_len]; simp) ((twi_last (by omega) (by omega) (by omega)).2 h2)
  · intro hn a b d h1 h2 h4 ht
    rw [up_len, List.length_append, List.length_singleton] at h4
    by_cases hd : d < l.length
    · rw [up_snoc] at ht
      exact h a b d h1 h2 (by rw [up_len]; exact hd) ((twi_before (by rw [up_len]; omega) (by rw [up_len]; omega) (by rw [up_len]; omega) (by rw [up_len]; exact hd)).1 ht)
    · obtain rfl : d = l.length := by omega
      exact hn ⟨b, by omega, pairN_iff.2 ⟨a, h1, (twi_last (by omega) (by omega) (by omega)).1 ht⟩⟩
theorem fair_count (n : Nat) : cntK fairB (permK n n []) = fastC badF n n 0 [] := (fastC_eq fair_pre fair_step n n 0 [] rfl rfl).symm
theorem loose_count (n : Nat) : cntK looseB (permK n n []) = fastC badL n n 0 [] := (fastC_eq loose_pre loose_step n n 0 [] rfl rfl).symm

set_option maxRecDepth 100000 in
theorem fair7 : fastC badF 7 7 0 [] = 2074 := by kernel_rfl
set_option maxRecDepth 100000 in
theorem loose7 : fastC badL 7 7 0 [] = 1806 := by kernel_rfl
set_option maxRecDepth 100000 in
theorem fair6 : fastC badF 6 6 0 [] = 422 := by kernel_rfl
set_option maxRecDepth 100000 in
theorem loose6 : fastC badL 6 6 0 [] = 394 := by kernel_rfl
set_option maxRecDepth 100000 in
theorem small5 : ∀ n, n < 6 → fastC badF n n 0 [] = [1, 1, 2, 6, 22, 92].getD n 0 ∧ fastC badL n n 0 [] = [1, 1, 2, 6, 22, 90].getD n 0 := by decide +kernel
set_option maxRecDepth 100000 in
theorem sums_are : ∀ n, n < 8 → 0 < n → fairN n = [1, 1, 2, 6, 22, 92, 422, 2074].getD n 0 ∧ looN n = [1, 1, 2, 6, 22, 90, 394, 1806].getD n 0 := by decide +kernel
theorem counts_are {n : Nat} (h1 : 1 ≤ n) (h7 : n ≤ 7) : cntK fairB (permK n n []) = fairN n ∧ cntK looseB (permK n n []) = looN n ∧ looN n ≤ fairN n := by
  rw [fair_count, loose_count]
  obtain ⟨e1, e2⟩ := sums_are n (by omega) (by omega)
  rw [e1, e2]
  by_cases h : n < 6
  · obtain ⟨a, b⟩ := small5 n h
    rw [a, b]
    have hn : n = 1 ∨ n = 2 ∨ n = 3 ∨ n = 4 ∨ n = 5 := by omega
    rcases hn with rfl | rfl | rfl | rfl | rfl <;> decide
  · have hn : n = 6 ∨ n = 7 := by omega
    rcases hn with rfl | rfl
    · rw [fair6, loose6]; decide
    · rw [fair7, loose7]; decide

end Go.Proofs.Ytnkfopnkgingpaa
