
/-
  Merged texts: OrdV OrdA OrdB OrdD.
-/
import Derived.Test.YthlbekookpcacaaOrdST
import Derived.Test.YthlbekookpcacaaOrdPX
import Derived.Test.YthlbekookpcacaaPoint
import Derived.Test.YthlbekookpcacaaOrdYZ

/-
  The model's answers about two rooms: left, above, the kind. (Walks.)
-/
namespace Go.Proofs.Ythlbekookpcacaa
open Go.RowKit

theorem l5Plain_any (ao : Option Addr) (cap : Nat) (p : List ByteArray) (w : World) (hl : p.length ≤ 1048576) (hs : ∀ s ∈ p, s.size ≤ 1048576) (hc : CellsAt w ao (p.map Value.string)) :
    Calls Try.prog 73 #[.slice ao p.length cap] w fun e w' => e = .returned (.bool (plainB p)) ∧ Below w.heap.size w w' := by
  have HP := Lib.hid (fun w hc => specWallPlain_any ao cap p w hl hs hc)
  unfold plainB
  generalize (planB p && decide (meetN p 4 = 0)) = x at *
  go_enter Try.func73, Try.ntmps73
  go_wp2_with (go_at_call 98; refine (HP.out _ hc).mono ?_; rintro e w1 ⟨rfl, hb1⟩)
  go_ret
  exact ⟨rfl, hb1⟩
/-- a plain plan and two rooms -/
def twoRm (p : List ByteArray) (a b : Int) : Bool := plainB p && givenB p a && givenB p b
theorem twoRm_is (p : List ByteArray) (a b : Int) : twoRm p a b = (plainB p && oRm (gridR p) a && oRm (gridR p) b) := by
  unfold twoRm
  cases h : plainB p
  · rfl
  · rw [given_oRm (plainB_plan h), given_oRm (plainB_plan h)]

theorem block_in {w : World} {ao : Option Addr} {p : List ByteArray} (hp : planB p = true) (hc : CellsAt w ao (p.map Value.string)) : ∀ a, ao = some a → a.block < w.heap.size := fun a ha => by
  have h1 := (planP_of hp).grid.h1
  obtain ⟨b, off, he, hcell⟩ := hc 0 (.string (p.getD 0 ByteArray.empty)) (by rw [List.getElem?_map, List.getElem?_eq_getElem (by omega)]; simp [show 0 < p.length by omega])
  rw [ha] at he
  cases he
  exact World.block_lt_of_cell? w _ hcell
/-- the sets of a plain plan -/
theorem l5AllP_any (ao : Option Addr) (cap : Nat) (p : List ByteArray) (kind : Nat) (w : World) (hl : p.length ≤ 1048576) (hs : ∀ s ∈ p, s.size ≤ 1048576) (hp : planB p = true) (hc : CellsAt w ao (p.map Value.string)) :
    Calls Try.prog 48 #[.slice ao p.length cap, .int .i64 kind] w
      fun e w' => (∃ S, IsSets S (gridR p) (pL p kind) ∧ SetsRet w.heap.size S e w') ∧ Below w.heap.size w w' := l5All_any ao cap p kind w hl hs hp hc (block_in hp hc)

theorem kind_out {p : List ByteArray} {a b : Int} (h : ∀ way, way < 2 → ledP p way a b = false ∧ ledP p way b a = false) : kindV p a b = ⟨#[]⟩ ∧ kindB p a b = false := by
  unfold kindV kindB
  rw [(h 0 (by omega)).1, (h 0 (by omega)).2, (h 1 (by omega)).1, (h 1 (by omega)).2]
  exact ⟨rfl, rfl⟩

end Go.Proofs.Ythlbekookpcacaa

/-
  The model's lines of rooms. (Walks.)
-/
namespace Go.Proofs.Ythlbekookpcacaa
open Go.RowKit

theorem oR_yes {p : List ByteArray} (h : plainB p = true) : oR p = gridR p := by unfold oR; rw [if_pos h]
/-- where the model's line lies -/
def SoSt (w : World) (g5 g6 gp : Nat) (S T L : List Nat) (wr : World) : Prop := HeldB wr g5 3 (setsV S) ∧ HeldB wr g6 3 (setsV T) ∧ HeldB wr gp 3 (setsV L) ∧ Below w.heap.size w wr
theorem SoSt.put {w : World} {g5 g6 gp : Nat} {S T L M : List Nat} {wr : World} (h1 : g5 ≠ gp) (h2 : g6 ≠ gp) (h3 : w.heap.size ≤ gp) (h : SoSt w g5 g6 gp S T L wr) (x m : Nat) (hM : L.set x m = M) : SoSt w g5 g6 gp S T M (wr.setCell ⟨gp, x, none⟩ (.int .i64 (m : Nat))) := by
  subst hM
  exact ⟨h.1.other h1 _, h.2.1.other h2 _, (h.2.2.1.set x _).eq (setsV_put L x m), h.2.2.2.setCell (p := ⟨gp, x, none⟩) h3 _⟩

end Go.Proofs.Ythlbekookpcacaa

/-
  The model's first and second orders. (Walks.)
-/
namespace Go.Proofs.Ythlbekookpcacaa
open Go.RowKit

theorem oR_no {p : List ByteArray} (h : plainB p = false) : oR p = 0 := by unfold oR; rw [h]; rfl
theorem firstL_no {p : List ByteArray} (h : plainB p = false) : firstL p = [] := List.eq_nil_of_length_eq_zero (by rw [firstL_len, oR_no h])
theorem secondL_no {p : List ByteArray} (h : plainB p = false) : secondL p = [] := List.eq_nil_of_length_eq_zero (by rw [secondL_len, oR_no h])
theorem nums_none (w : World) : (w.alloc (.cells #[] 3)).ownsRow w.heap.size 3 1 (.slice (some ⟨w.heap.size, 0, none⟩) 0 0) 0 (([] : List Int).map (Value.int .i64)) := World.ownsRow_made w #[] 0 (Nat.le_refl _) (Nat.zero_le _) rfl
end Go.Proofs.Ythlbekookpcacaa

/-
  The permutation of an order: the model's. (Plain mathematics, and walks.)
-/
namespace Go.Proofs.Ythlbekookpcacaa
open Go.RowKit

/-- both orders of a plain plan are lines -/
theorem first_lin {p : List ByteArray} (h : plainB p = true) : Lin (firstQ (pL p)) (gridR p) := by
  have or4 : ∀ a b : Nat, firstQ (pL p) a b = true ↔ pL p 0 a b = true ∨ pL p 1 a b = true := fun a b => by unfold firstQ; rw [Bool.or_eq_true]
  refine ⟨fun a ha => ?_, fun a b ha hb hne => ?_, fun a b c ha hb hc h1 h2 => ?_⟩
  · have := firstQ_irr p a (by rw [oR_yes h]; exact ha); rwa [oF_yes h] at this
  · rw [or4, or4]
    rcases pL_some (plainB_plan h) ha hb hne with e | e | e | e
    · exact .inl (.inl e)
    · exact .inr (.inl e)
    · exact .inl (.inr e)
    · exact .inr (.inr e)
  · rw [or4] at h1 h2
    rw [or4]
    by_cases hac : a = c
    · subst hac
      exfalso
      rcases h1 with h1 | h1 <;> rcases h2 with h2 | h2
      · rw [(pL_one h ha hb h1).1] at h2; cases h2
      · rw [(pL_one h ha hb h1).2.2] at h2; cases h2
      · rw [(pL_over h ha hb h1).2.2] at h2; cases h2
      · rw [(pL_over h ha hb h1).1] at h2; cases h2
    · rcases pL_some (plainB_plan h) ha hc hac with e | e | e | e
      · exact .inl e
      · exfalso
        -- c is left of a
        rcases h1 with h1 | h1
        · have hcb := pL_trans (by omega) e h1
          rcases h2 with h2 | h2
          · rw [(pL_one h hc hb hcb).1] at h2; cases h2
          · rw [(pL_one h hc hb hcb).2.2] at h2; cases h2
        · rcases h2 with h2 | h2
          · have hba := pL_trans (by omega) h2 e
            rw [(pL_one h hb ha hba).2.2] at h1; cases h1
          · have hca := pL_trans (by omega) h1 h2
            rw [(pL_over h ha hc hca).2.2] at e; cases e
      · exact .inr e
      · exfalso
        rcases h1 with h1 | h1
        · rcases h2 with h2 | h2
          · have hca := pL_trans (by omega) h1 h2
            rw [(pL_one h ha hc hca).2.2] at e; cases e
          · have hba := pL_trans (by omega) h2 e
            rw [(pL_over h hb ha hba).2.2] at h1; cases h1
        · have hcb := pL_trans (by omega) e h1
          rcases h2 with h2 | h2
          · rw [(pL_over h hc hb hcb).2.2] at h2; cases h2
          · rw [(pL_over h hc hb hcb).1] at h2; cases h2
theorem second_lin {p : List ByteArray} (h : plainB p = true) : Lin (secondQ (pL p)) (gridR p) := by
  have or4 : ∀ a b : Nat, secondQ (pL p) a b = true ↔ pL p 0 a b = true ∨ pL p 1 b a = true := fun a b => by unfold secondQ; rw [Bool.or_eq_true]
  refine ⟨fun a ha => ?_, fun a b ha hb hne => ?_, fun a b c ha hb hc h1 h2 => ?_⟩
  · have := secondQ_irr p a (by rw [oR_yes h]; exact ha); rwa [oF_yes h] at this
  · rw [or4, or4]
    rcases pL_some (plainB_plan h) ha hb hne with e | e | e | e
    · exact .inl (.inl e)
    · exact .inr (.inl e)
    · exact .inr (.inr e)
    · exact .inl (.inr e)
  · rw [or4] at h1 h2
    rw [or4]
    by_cases hac : a = c
    · subst hac
      exfalso
      rcases h1 with h1 | h1 <;> rcases h2 with h2 | h2
      · rw [(pL_one h ha hb h1).1] at h2; cases h2
      · rw [(pL_one h ha hb h1).2.1] at h2; cases h2
      · rw [(pL_over h hb ha h1).2.1] at h2; cases h2
      · rw [(pL_over h hb ha h1).1] at h2; cases h2
    · rcases pL_some (plainB_plan h) ha hc hac with e | e | e | e
      · exact .inl e
      · exfalso
        rcases h1 with h1 | h1
        · have hcb := pL_trans (by omega) e h1
          rcases h2 with h2 | h2
          · rw [(pL_one h hc hb hcb).1] at h2; cases h2
          · rw [(pL_one h hc hb hcb).2.1] at h2; cases h2
        · rcases h2 with h2 | h2
          · have hba := pL_trans (by omega) h2 e
            rw [(pL_one h hb ha hba).2.1] at h1; cases h1
          · have hca := pL_trans (by omega) h2 h1
            rw [(pL_over h hc ha hca).2.1] at e; cases e
      · exfalso
        -- a is above c
        rcases h1 with h1 | h1
        · rcases h2 with h2 | h2
          · have hca := pL_trans (by omega) h1 h2
            rw [(pL_one h ha hc hca).2.1] at e; cases e
          · have hab := pL_trans (by omega) e h2
            rw [(pL_one h ha hb h1).2.1] at hab; cases hab
        · have hbc := pL_trans (by omega) h1 e
          rcases h2 with h2 | h2
          · rw [(pL_one h hb hc h2).2.1] at hbc; cases hbc
          · rw [(pL_over h hb hc hbc).1] at h2; cases h2
      · exact .inr e

/-- the model's places: each place told to the room there -/
def placK (q : Nat → Nat → Bool) (r : Nat) : Nat → List Nat
  | 0 => List.replicate r 0
  | k + 1 => (placK q r k).set ((lineN q r r).getD k 0) k
theorem placK_len (q : Nat → Nat → Bool) (r : Nat) : ∀ k, (placK q r k).length = r
  | 0 => List.length_replicate
  | k + 1 => by rw [placK, List.length_set]; exact placK_len q r k
theorem placK_at {q : Nat → Nat → Bool} {r : Nat} (L : Lin q r) : ∀ k, k ≤ r → ∀ x, x < r → placeN q r x < k → (placK q r k).getD x 0 = placeN q r x
  | 0, _, x, _, h => by omega
  | k + 1, hk, x, hx, h => by
    obtain ⟨b1, b2⟩ := L.back (k := k) (by omega)
    rw [placK, getD_set _ _ _ _ (by rw [placK_len]; exact b2)]
    by_cases he : x = (lineN q r r).getD k 0
    · rw [if_pos he]; rw [← he] at b1; exact b1.symm
    · rw [if_neg he]
      refine placK_at L k (by omega) x hx ?_
      rcases Nat.lt_or_ge (placeN q r x) k with h1 | h1
      · exact h1
      · exfalso
        exact he (L.inj hx b2 (by omega))

theorem permQ_at {q1 q2 : Nat → Nat → Bool} {r i : Nat} (hi : i < r) : (permQ q1 q2 r).getD i 0 = placeN q1 r ((lineN q2 r r).getD i 0) := by simp [permQ, hi]
theorem ints_push (L : List Int) (i : Nat) (h : i < L.length) : L.take (i + 1) = L.take i ++ [L.getD i 0] := by
  rw [List.take_succ_eq_append_getElem h]; simp [h]

theorem permL_no {p : List ByteArray} (h : plainB p = false) : permL p = [] := List.eq_nil_of_length_eq_zero (by rw [permL_len, oR_no h])
end Go.Proofs.Ythlbekookpcacaa
