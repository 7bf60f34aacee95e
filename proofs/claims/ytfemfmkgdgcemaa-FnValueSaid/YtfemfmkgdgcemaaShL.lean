
/-
  Mathematics of kinds of pieces.
-/
import Derived.Test.YtfemfmkgdgcemaaShN
import Derived.Test.YtfemfmkgdgcemaaShA
namespace Go.Proofs.Ytfemfmkgdgcemaa
open Go.RowKit

def kdV (k : Nat × Nat × Nat) : List Value := [.int .i64 (k.1 : Int), .int .i64 (k.2.1 : Int), .int .i64 (k.2.2 : Int)]
def kdC (K : List (Nat × Nat × Nat)) : List Value := K.flatMap kdV
theorem kdC_snoc (K : List (Nat × Nat × Nat)) (k : Nat × Nat × Nat) : kdC (K ++ [k]) = kdC K ++ kdV k := by simp [kdC]
theorem kdC_len (K : List (Nat × Nat × Nat)) : (kdC K).length = K.length * 3 := by
  induction K with
  | nil => rfl
  | cons k K ih => unfold kdC at ih ⊢; rw [List.flatMap_cons, List.length_append, ih, List.length_cons, Nat.succ_mul]; simp [kdV]; omega
theorem kdC_at (K : List (Nat × Nat × Nat)) (i j : Nat) (hi : i < K.length) (hj : j < 3) : (kdC K)[i * 3 + j]? = (kdV (K.getD i (0, 0, 0)))[j]? := by
  induction K generalizing i with
  | nil => simp at hi
  | cons k K ih =>
    unfold kdC at ih ⊢
    rw [List.flatMap_cons]
    cases i with
    | zero =>
      rw [List.getElem?_append_left (by simp [kdV]; omega)]
      simp
    | succ i =>
      rw [List.getElem?_append_right (by simp [kdV]; omega), show (i + 1) * 3 + j - (kdV k).length = i * 3 + j by simp [kdV]; omega]
      simp only [List.length_cons, Nat.add_lt_add_iff_right] at hi
      rw [ih i hi]
      simp
/-- what a kind adds to what a sheet is worth -/
def addV (x y : Nat) (acc : Int) (k : Nat × Nat × Nat) : Int := if (x = k.1 ∧ y = k.2.1) ∨ (x = k.2.1 ∧ y = k.1) then (if acc < (k.2.2 : Int) then (k.2.2 : Int) else acc) else acc
def worthV (K : List (Nat × Nat × Nat)) (x y : Nat) : Int := K.foldl (addV x y) 0
theorem worthV_snoc (K : List (Nat × Nat × Nat)) (k : Nat × Nat × Nat) (x y : Nat) : worthV (K ++ [k]) x y = addV x y (worthV K x y) k := by
  unfold worthV; rw [List.foldl_append]; rfl
def kdOk (k : Nat × Nat × Nat) : Prop := 1 ≤ k.1 ∧ k.1 ≤ 12 ∧ 1 ≤ k.2.1 ∧ k.2.1 ≤ 12 ∧ k.2.2 ≤ 99
theorem addV_bd {x y : Nat} {acc : Int} {k : Nat × Nat × Nat} (h : 0 ≤ acc ∧ acc ≤ 99) (hk : kdOk k) : 0 ≤ addV x y acc k ∧ addV x y acc k ≤ 99 := by
  obtain ⟨_, _, _, _, h5⟩ := hk
  unfold addV
  split
  · split <;> omega
  · exact h
theorem foldV_bd (x y : Nat) : ∀ (K : List (Nat × Nat × Nat)) (acc : Int), (∀ k ∈ K, kdOk k) → 0 ≤ acc ∧ acc ≤ 99 → 0 ≤ K.foldl (addV x y) acc ∧ K.foldl (addV x y) acc ≤ 99 := by
  intro K
  induction K with
  | nil => intro acc _ h; exact h
  | cons k K ih => intro acc hK h; exact ih _ (fun j hj => hK j (List.mem_cons_of_mem _ hj)) (addV_bd h (hK k List.mem_cons_self))
theorem worthV_bd {K : List (Nat × Nat × Nat)} (hK : ∀ k ∈ K, kdOk k) (x y : Nat) : 0 ≤ worthV K x y ∧ worthV K x y ≤ 99 := foldV_bd x y K 0 hK ⟨Int.le_refl _, by omega⟩
theorem foldV_none {x y : Nat} (hz : x = 0 ∨ y = 0) : ∀ (K : List (Nat × Nat × Nat)) (acc : Int), (∀ k ∈ K, kdOk k) → K.foldl (addV x y) acc = acc := by
  intro K
  induction K with
  | nil => intro acc _; rfl
  | cons k K ih =>
    intro acc hK
    obtain ⟨h1, _, h3, _⟩ := hK k List.mem_cons_self
    rw [List.foldl_cons, show addV x y acc k = acc by unfold addV; rw [if_neg (by omega)]]
    exact ih acc (fun j hj => hK j (List.mem_cons_of_mem _ hj))
theorem worthV_none {K : List (Nat × Nat × Nat)} (hK : ∀ k ∈ K, kdOk k) {x y : Nat} (hz : x = 0 ∨ y = 0) : worthV K x y = 0 := foldV_none hz K 0 hK
theorem valT_le {K : List (Nat × Nat × Nat)} (hK : ∀ k ∈ K, kdOk k) (x y : Nat) (hx : 1 ≤ x) (hy : 1 ≤ y) : tabC opG (worthV K) x y ≤ ((99 * (x * y) : Nat) : Int) := by
  refine (tabG_least (worthV K)).least (fun x y => ((99 * (x * y) : Nat) : Int)) ⟨fun w h h1 h2 => ?_, fun a b h _ _ _ => ?_, fun w a b _ _ _ => ?_⟩ x y hx hy
  · have h3 := (worthV_bd hK w h).2
    have h4 : 1 ≤ w * h := Nat.mul_pos h1 h2
    show worthV K w h ≤ ((99 * (w * h) : Nat) : Int)
    omega
  · show ((99 * (a * h) : Nat) : Int) + ((99 * (b * h) : Nat) : Int) ≤ ((99 * ((a + b) * h) : Nat) : Int)
    rw [Nat.add_mul]; omega
  · show ((99 * (w * a) : Nat) : Int) + ((99 * (w * b) : Nat) : Int) ≤ ((99 * (w * (a + b)) : Nat) : Int)
    rw [Nat.mul_add]; omega
theorem valT_bd {K : List (Nat × Nat × Nat)} (hK : ∀ k ∈ K, kdOk k) (x y : Nat) (hx : x ≤ 12) (hy : y ≤ 12) (hx1 : 1 ≤ x) (hy1 : 1 ≤ y) : -400000 ≤ tabC opG (worthV K) x y ∧ tabC opG (worthV K) x y ≤ 400000 := by
  have h1 := valT_le hK x y hx1 hy1
  have h2 : x * y ≤ 12 * 12 := Nat.mul_le_mul hx hy
  have h3 : 0 ≤ tabC opG (worthV K) x y := (tabG_least (worthV K)).sup.nonneg (fun w h _ _ => (worthV_bd hK w h).1) hx1 hy1
  omega
theorem valH_bd {K : List (Nat × Nat × Nat)} (hK : ∀ k ∈ K, kdOk k) (x y : Nat) (hx : x ≤ 12) (hy : y ≤ 12) : -400000 ≤ hlf (worthV K) x y ∧ hlf (worthV K) x y ≤ 400000 := by
  refine hlf_bd (fun w h => by have := (worthV_bd hK w h).1; omega) (fun h => ?_) (fun w => ?_) (fun w h h1 h2 h3 h4 => (valT_bd hK w h h2 h4 h1 h3).2) x y hx hy
  · rw [worthV_none hK (.inl rfl)]; exact Int.le_refl _
  · rw [worthV_none hK (.inr rfl)]; exact Int.le_refl _

/-- the kinds of three lists -/
def kindN (ws hs vs : List Int) (i : Nat) : Nat × Nat × Nat := ((ws.getD i 0).toNat, (hs.getD i 0).toNat, (vs.getD i 0).toNat)
def kindsN (ws hs vs : List Int) (n : Nat) : List (Nat × Nat × Nat) := (List.range n).map (kindN ws hs vs)
theorem kindsN_len (ws hs vs : List Int) (n : Nat) : (kindsN ws hs vs n).length = n := by simp [kindsN]
theorem kindsN_succ (ws hs vs : List Int) (n : Nat) : kindsN ws hs vs (n + 1) = kindsN ws hs vs n ++ [kindN ws hs vs n] := by unfold kindsN; rw [List.range_succ, List.map_append]; rfl
def kindB (ws hs vs : List Int) (i : Nat) : Bool := shB (ws.getD i 0) (hs.getD i 0) && decide (0 ≤ vs.getD i 0 ∧ vs.getD i 0 ≤ 99)
def kindsL (ws hs vs : List Int) : Bool := decide (1 ≤ ws.length ∧ ws.length ≤ 4 ∧ hs.length = ws.length ∧ vs.length = ws.length)
def kindsB (ws hs vs : List Int) : Bool := kindsL ws hs vs && (List.range ws.length).all (kindB ws hs vs)
theorem kindsB_no {ws hs vs : List Int} {i : Nat} (hi : i < ws.length) (h : kindB ws hs vs i = false) : kindsB ws hs vs = false := by
  unfold kindsB
  rw [Bool.and_eq_false_iff]
  right
  rw [List.all_eq_false]
  exact ⟨i, List.mem_range.2 hi, by rw [h]; simp⟩
theorem kindsB_yes {ws hs vs : List Int} (hl : kindsL ws hs vs = true) (h : ∀ i, i < ws.length → kindB ws hs vs i = true) : kindsB ws hs vs = true := by
  unfold kindsB
  rw [hl, Bool.true_and, List.all_eq_true]
  exact fun i hi => h i (List.mem_range.1 hi)
theorem kindsB_all {ws hs vs : List Int} (h : kindsB ws hs vs = true) : (1 ≤ ws.length ∧ ws.length ≤ 4 ∧ hs.length = ws.length ∧ vs.length = ws.length) ∧ ∀ i, i < ws.length → kindB ws hs vs i = true := by
  unfold kindsB kindsL at h
  rw [Bool.and_eq_true, decide_eq_true_eq, List.all_eq_true] at h
  exact ⟨h.1, fun i hi => h.2 i (List.mem_range.2 hi)⟩
theorem kindB_ok {ws hs vs : List Int} {i : Nat} (h : kindB ws hs vs i = true) : kdOk (kindN ws hs vs i) ∧ ws.getD i 0 = ((kindN ws hs vs i).1 : Int) ∧ hs.getD i 0 = ((kindN ws hs vs i).2.1 : Int) ∧ vs.getD i 0 = ((kindN ws hs vs i).2.2 : Int) := by
  unfold kindB shB at h
  rw [Bool.and_eq_true, decide_eq_true_eq, decide_eq_true_eq] at h
  obtain ⟨⟨h1, h2, h3, h4⟩, h5, h6⟩ := h
  unfold kdOk kindN
  refine ⟨⟨?_, ?_, ?_, ?_, ?_⟩, ?_, ?_, ?_⟩ <;> simp only <;> omega
theorem kindsN_ok {ws hs vs : List Int} {n : Nat} (h : ∀ i, i < n → kindB ws hs vs i = true) : ∀ k ∈ kindsN ws hs vs n, kdOk k := by
  intro k hk
  unfold kindsN at hk
  obtain ⟨i, hi, rfl⟩ := List.mem_map.1 hk
  exact (kindB_ok (h i (List.mem_range.1 hi))).1
def valO (w h : Int) (ws hs vs : List Int) : Int := if shB w h && kindsB ws hs vs then tabC opG (worthV (kindsN ws hs vs ws.length)) w.toNat h.toNat else 0

end Go.Proofs.Ytfemfmkgdgcemaa
