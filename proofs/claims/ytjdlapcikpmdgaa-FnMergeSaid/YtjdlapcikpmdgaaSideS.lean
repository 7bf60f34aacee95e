
/-
  The rooms of both sides of a wall: the model's answer. (Walks.)
-/
import Derived.Test.YtjdlapcikpmdgaaOutl
import Derived.Test.YtjdlapcikpmdgaaLong
import Derived.StillTailTactics
namespace Go.Proofs.Ytjdlapcikpmdgaa
open Go.RowKit

theorem PlanP.room {p : List ByteArray} (hp : PlanP p) {i j : Nat} (hi : i < p.length) (hj : j < wideB p) : ((byteAt p i j).toNat : Int) - 97 = ((gridG p i j : Nat) : Int) := by
  have h1 := hp.grid.letter hi hj
  have h2 := markN_lt p i j
  rw [h1, UInt8.toNat_ofNat', ← hp.mark i j hi hj]
  omega

theorem putL_no {l : List Int} {x : Int} (h : ¬ l.getLast? = some x) : putL l x = l ++ [x] := if_neg h
theorem putL_yes {l : List Int} {x : Int} (h : l.getLast? = some x) : putL l x = l := if_pos h
theorem last_getD {l : List Int} (h : 0 < l.length) : l.getLast? = some (l.getD (l.length - 1) 0) := by
  rw [List.getLast?_eq_getElem?, List.getD_eq_getElem?_getD, List.getElem?_eq_getElem (by omega)]; rfl

set_option maxRecDepth 100000 in
set_option maxHeartbeats 1000000 in
theorem l2Put_any (base : Nat) (ao : Option Addr) (c n : Nat) (l : List Int) (x : Int) (w : World) (hn : l.length = n) (hl : n ≤ 1000) (hb : base ≤ w.heap.size) (hown : w.ownsRow base 3 1 (.slice ao n c) n (l.map (Value.int .i64))) :
    Calls Try.prog 35 #[.slice ao n c, .int .i64 x] w
      fun e w' => ∃ ao' c', e = .returned (.slice ao' (putL l x).length c') ∧ w'.ownsRow base 3 1 (.slice ao' (putL l x).length c') (putL l x).length ((putL l x).map (Value.int .i64)) ∧ Below base w w' ∧
        (∀ {bo : Option Addr} {m k : Nat} {zs : List Value}, w.ownsRow base 3 1 (.slice bo m k) m zs → Apart ao bo → w'.ownsRow base 3 1 (.slice bo m k) m zs ∧ Apart ao' bo) := by
  obtain ⟨im, hmi, hmz, hm1, hm2⟩ := info_parts Try.infoNum
  subst hn
  have h63 : l.length + 1 ≤ maxLen := by unfold maxLen; omega
  have h64 : (l.length + 1) * 8 ≤ 140737488355328 := by omega
  have hlt := owns_lt hown
  by_cases h0 : 0 < l.length
  · have hd : decide (0 < (l.length : Int)) = true := by rw [decide_eq_true_eq]; omega
    obtain ⟨b, off, rfl, k0⟩ := (owns_cells hown).int (l.length - 1) (by omega)
    have hl1 : (l.length : Int) - 1 = ((l.length - 1 : Nat) : Int) := by omega
    have hl2 : ((l.length - 1 : Nat) : Int) < (l.length : Int) := by omega
    have hla := last_getD h0
    generalize l.getD (l.length - 1) 0 = y at *
    by_cases hxy : y = x
    · have hb2 : (y == x) = true := by rw [hxy]; simp
      rw [putL_yes (by rw [hla, hxy])]
      clear hxy hla
      go_enter Try.func35, Try.ntmps35
      go_wp2
      go_ret
      exact ⟨_, c, rfl, hown, Below.refl _ _, fun h1 h2 => ⟨h1, h2⟩⟩
    · have hb2 : (y == x) = false := by rw [beq_eq_false_iff_ne]; exact hxy
      have HP := Lib.hid (putL_no (l := l) (x := x) (by rw [hla]; intro h; exact hxy (Option.some.inj h)))
      rw [HP.out]
      clear hxy hla
      go_enter Try.func35, Try.ntmps35
      go_wp2_with (at_builtin; refine wpList_push _ rfl _ _ 35 rfl base 3 im (.int .i64 0) 8 Try.underlying35 hmi hmz hm1 hm2 rfl (some ⟨b, off, none⟩) l.length c _ rfl (hown.alloc _) _ _ _ rfl (cell_new _ _ _) rfl h63 h64 (by simp; omega) ?_; intro ao2 c2 w2 ho2 hg2 hnew2)
      go_ret
      exact ⟨ao2, c2, by rw [List.length_append]; rfl, by rw [List.length_append, List.map_append]; exact ho2, below_push (Below.refl _ _) hb hg2 (fun a ha => (hlt a ha).1), fun h1 h2 => ⟨owns_push_other h1 hg2 h2.symm, h2.push hnew2 (fun a ha => by have := (owns_lt h1 a ha).2; simp; omega)⟩⟩
  · have hd : decide (0 < (l.length : Int)) = false := by rw [decide_eq_false_iff_not]; omega
    have hl0 : l = [] := List.eq_nil_of_length_eq_zero (by omega)
    have HP := Lib.hid (putL_no (l := l) (x := x) (by rw [hl0]; simp))
    rw [HP.out]
    clear hl0
    go_enter Try.func35, Try.ntmps35
    go_wp2_with (at_builtin; refine wpList_push _ rfl _ _ 35 rfl base 3 im (.int .i64 0) 8 Try.underlying35 hmi hmz hm1 hm2 rfl ao l.length c _ rfl (hown.alloc _) _ _ _ rfl (cell_new _ _ _) rfl h63 h64 (by simp; omega) ?_; intro ao2 c2 w2 ho2 hg2 hnew2)
    go_ret
    exact ⟨ao2, c2, by rw [List.length_append]; rfl, by rw [List.length_append, List.map_append]; exact ho2, below_push (Below.refl _ _) hb hg2 (fun a ha => (hlt a ha).1), fun h1 h2 => ⟨owns_push_other h1 hg2 h2.symm, h2.push hnew2 (fun a ha => by have := (owns_lt h1 a ha).2; simp; omega)⟩⟩

theorem wallIn_plan {p : List ByteArray} {n : Int} (h : wallIn p n = true) : planB p = true := by
  cases hp : planB p
  · unfold wallIn at h; rw [wallsP_no hp] at h; simp only [Bool.and_eq_true, decide_eq_true_eq, List.length_nil] at h; omega
  · rfl
theorem planG_yes {p : List ByteArray} (h : planB p = true) : planG p = gridG p := by unfold planG; rw [if_pos h]

end Go.Proofs.Ytjdlapcikpmdgaa
