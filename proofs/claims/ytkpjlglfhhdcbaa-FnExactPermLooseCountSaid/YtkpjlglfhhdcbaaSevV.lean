
/-
  The program's permutations backwards. (Walks.)
-/
import Derived.Test.YtkpjlglfhhdcbaaSevI
namespace Go.Proofs.Ytkpjlglfhhdcbaa
open Go.RowKit

/-! # a row turned round -/
/-- the first n numbers, so many of them at both ends exchanged -/
def swL (P : List Int) (n i : Nat) : List Int := (List.range P.length).map fun k => if k < n ∧ (k < i ∨ n - 1 - k < i) then P.getD (n - 1 - k) 0 else P.getD k 0
theorem swL_len (P : List Int) (n i : Nat) : (swL P n i).length = P.length := by simp [swL]
theorem swL_at {P : List Int} {n i k : Nat} (h : k < P.length) : (swL P n i).getD k 0 = if k < n ∧ (k < i ∨ n - 1 - k < i) then P.getD (n - 1 - k) 0 else P.getD k 0 := by simp [swL, h]
theorem swL_zero (P : List Int) (n : Nat) : swL P n 0 = P := by
  refine list_ext (swL_len _ _ _) fun k hk => ?_
  rw [swL_len] at hk
  rw [swL_at hk, if_neg (by omega)]
theorem swL_step {P : List Int} {n i j : Nat} (hn : n ≤ P.length) (hij : i < j) (he : i + j + 1 = n) : ((swL P n i).set i ((swL P n i).getD j 0)).set j ((swL P n i).getD i 0) = swL P n (i + 1) := by
  refine list_ext (by rw [List.length_set, List.length_set, swL_len, swL_len]) fun k hk => ?_
  rw [List.length_set, List.length_set, swL_len] at hk
  rw [set_getD _ _ _ _ (by rw [List.length_set, swL_len]; omega), set_getD _ _ _ _ (by rw [swL_len]; omega), swL_at hk, swL_at hk, swL_at (show i < P.length by omega), swL_at (show j < P.length by omega)]
  by_cases h1 : k = j
  · subst h1
    rw [if_pos rfl, if_neg (by omega), if_pos (by omega), show n - 1 - k = i by omega]
  · rw [if_neg h1]
    by_cases h2 : k = i
    · subst h2
      rw [if_pos rfl, if_neg (by omega), if_pos (by omega), show n - 1 - k = j by omega]
    · rw [if_neg h2]
      by_cases h3 : k < n ∧ (k < i ∨ n - 1 - k < i)
      · rw [if_pos h3, if_pos (by omega)]
      · rw [if_neg h3, if_neg (by omega)]
theorem swL_pad {l : List Int} (h7 : l.length ≤ 7) {i : Nat} (h : l.length ≤ 2 * i + 1) : swL (padL l) l.length i = padL l.reverse := by
  refine padL_ext (by rw [List.length_reverse]; exact h7) (by rw [swL_len, padL_len h7]) (fun k hk => ?_) (fun k hk h7' => ?_)
  · rw [List.length_reverse] at hk
    rw [rev_at hk, swL_at (by rw [padL_len h7]; omega)]
    by_cases h3 : k < l.length ∧ (k < i ∨ l.length - 1 - k < i)
    · rw [if_pos h3, padL_lt (by omega)]
    · rw [if_neg h3, padL_lt hk, show l.length - 1 - k = k by omega]
  · rw [List.length_reverse] at hk
    rw [swL_at (by rw [padL_len h7]; omega), if_neg (by omega), padL_ge hk]

/-- one block alone is written -/
structure OneBk (B : Nat) (w w' : World) : Prop where
  below : Below B w w'
  size : w'.heap.size = w.heap.size
  other : ∀ k, k ≠ B → w'.heap[k]? = w.heap[k]?
theorem OneBk.refl (B : Nat) (w : World) : OneBk B w w := ⟨Below.refl _ _, rfl, fun _ _ => rfl⟩
theorem OneBk.put {B : Nat} {w w1 : World} (h : OneBk B w w1) (k : Nat) (v : Value) : OneBk B w (w1.setCell ⟨B, k, none⟩ v) :=
  ⟨h.below.setCell (p := ⟨B, k, none⟩) (Nat.le_refl _) _, by rw [World.size_setCell]; exact h.size, fun j hj => (Below.heap_setCell w1 ⟨B, k, none⟩ v j hj).trans (h.other j hj)⟩
theorem OneBk.drew {B : Nat} {w w1 : World} (h : OneBk B w w1) : OneBk B w w1.drew := ⟨h.below.trans (below_drewN _ _ 1), h.size, h.other⟩
theorem OneBk.held {B B' : Nat} {w w1 : World} (h : OneBk B w w1) {t : TypeId} {cs : Array Value} (hh : HeldB w B' t cs) (hne : B' ≠ B) : HeldB w1 B' t cs := (h.other B' hne).trans hh

set_option maxRecDepth 100000 in
set_option maxHeartbeats 2000000 in
theorem reverse_any (B cap n : Nat) (t : TypeId) (P : List Int) (w : World) (hn : n ≤ P.length) (h7 : P.length ≤ 1000) (hH : HeldB w B t (numC P)) :
    Calls Try.prog 61 #[.slice (some ⟨B, 0, none⟩) n cap] w fun e w' => e = .returned (.tuple #[]) ∧ ∃ i, n ≤ 2 * i + 1 ∧ HeldB w' B t (numC (swL P n i)) ∧ OneBk B w w' := by
  go_enter Try.func61, Try.ntmps61
  go_wp2
  go_loopw [2, 3] (fun vi vj wr => ∃ i : Nat, 2 * i ≤ n + 1 ∧ vi = .int .i64 i ∧ vj = .int .i64 ((n : Int) - 1 - (i : Int)) ∧ HeldB wr B t (numC (swL P n i)) ∧ OneBk B w wr) (fun vi _ _ => n + 1 - (intOf vi).toNat)
  case atStart => exact ⟨0, by omega, rfl, by simp, by rw [swL_zero]; exact hH, OneBk.refl _ _⟩
  case round =>
    clear hH
    obtain ⟨i, hi, rfl, rfl, hH, hO⟩ := hrel
    by_cases hlt : (i : Int) < (n : Int) - 1 - (i : Int)
    · obtain ⟨j, hj⟩ : ∃ j : Nat, i + j + 1 = n := ⟨n - 1 - i, by omega⟩
      have hje : (n : Int) - 1 - (i : Int) = (j : Int) := by omega
      have hij : i < j := by omega
      have ci := (hH.cell i).trans (numC_at (by rw [swL_len]; omega))
      have cj := (hH.cell j).trans (numC_at (by rw [swL_len]; omega))
      have fi := hH.frozen i
      have fj := hH.frozen j
      have HS := Lib.hid (swL_step hn hij hj)
      rw [hje] at *
      clear hje
      have hin : (i : Int) < (n : Int) := by omega
      have hjn : (j : Int) < (n : Int) := by omega
      have hlt' : i < n := by omega
      have hlt2 : j < n := by omega
      have HJ := Lib.hid hj; clear hj
      obtain ⟨x, hx⟩ : ∃ x, (swL P n i).getD i 0 = x := ⟨_, rfl⟩
      obtain ⟨y, hy⟩ : ∃ y, (swL P n i).getD j 0 = y := ⟨_, rfl⟩
      rw [hx, hy] at HS
      rw [hx] at ci
      rw [hy] at cj
      clear hx hy
      have hH2 := ((hH.set i (.int .i64 y)).set j (.int .i64 x)).eq (show _ = numC (swL P n (i + 1)) by rw [numC_set, numC_set, HS.out])
      have hO2 := (hO.put i (.int .i64 y)).put j (.int .i64 x)
      clear hH hO
      go_wp2_with fail
      go_region
      all_goals
        go_wp2
        go_roundw
        case rel => exact ⟨i + 1, by have := HJ.out; omega, by go_num, by have := HJ.out; rw [show ((n : Int) - 1 - ((i + 1 : Nat) : Int)) = (j : Int) - 1 by omega], hH2.drew, hO2.drew⟩
        case measure => simp [intOf]; omega
    · have hlf : decide ((i : Int) < (n : Int) - 1 - (i : Int)) = false := decide_eq_false hlt
      go_wp2
      exact bodyPost_end (v := .tuple #[]) (by simp [results, Try.results61, go_sem]) rfl ⟨rfl, i, by omega, hH, hO⟩

theorem reverse_pad {l : List Int} (B : Nat) (w : World) (h7 : l.length ≤ 7) (hH : HeldB w B 35 (numC (padL l))) :
    Calls Try.prog 61 #[.slice (some ⟨B, 0, none⟩) l.length 7] w fun e w' => e = .returned (.tuple #[]) ∧ HeldB w' B 35 (numC (padL l.reverse)) ∧ OneBk B w w' :=
  (reverse_any B 7 l.length 35 (padL l) w (by rw [padL_len h7]; exact h7) (by rw [padL_len h7]; decide) hH).mono fun _ _ ⟨he, _, hi, hH', hO⟩ => ⟨he, by rw [← swL_pad h7 hi]; exact hH', hO⟩
set_option maxRecDepth 100000 in
set_option maxHeartbeats 2000000 in
theorem back_any {l : List Int} (h : Low l) (w : World) :
    Calls Try.prog 46 #[.agg (numC (padL l))] w fun e w' => e = .returned (.agg (numC (padL l.reverse))) ∧ Below w.heap.size w w' := by
  have hlen := h.len
  have HM := Lib.hid (fun w => many_any h w)
  have hpl := padL_len hlen
  have HREV := Lib.hid (fun (w1 : World) (hH : HeldB w1 w.heap.size 35 (numC (padL l))) => reverse_pad w.heap.size w1 hlen hH)
  have hH0 : HeldB ((w.alloc (.cells (numC (padL l)) 35)).alloc (.cells #[.int .i64 0, .int .i64 0, .int .i64 0, .int .i64 0, .int .i64 0, .int .i64 0, .int .i64 0] 35)) w.heap.size 35 (numC (padL l)) := (HeldB.new w _ _).alloc _
  have hR0 : HeldB ((w.alloc (.cells (numC (padL l)) 35)).alloc (.cells #[.int .i64 0, .int .i64 0, .int .i64 0, .int .i64 0, .int .i64 0, .int .i64 0, .int .i64 0] 35)) (w.heap.size + 1) 35 #[.int .i64 0, .int .i64 0, .int .i64 0, .int .i64 0, .int .i64 0, .int .i64 0, .int .i64 0] := by
    have := HeldB.new (w.alloc (.cells (numC (padL l)) 35)) 35 #[.int .i64 0, .int .i64 0, .int .i64 0, .int .i64 0, .int .i64 0, .int .i64 0, .int .i64 0]
    rwa [World.size_alloc] at this
  have hb0 : Below w.heap.size w ((w.alloc (.cells (numC (padL l)) 35)).alloc (.cells #[.int .i64 0, .int .i64 0, .int .i64 0, .int .i64 0, .int .i64 0, .int .i64 0, .int .i64 0] 35)) := ((Below.refl _ w).alloc (Nat.le_refl _) _).alloc (by simp) _
  have HS := Lib.hid (perm_size hpl)
  have hpr := padL_len (l := l.reverse) (by rw [List.length_reverse]; exact hlen)
  have HS2 := Lib.hid (perm_size hpr)
  have HN := Lib.hid (numC_one (padL l.reverse))
  have HZ := Lib.hid (show (#[.int .i64 0, .int .i64 0, .int .i64 0, .int .i64 0, .int .i64 0, .int .i64 0, .int .i64 0] : Array Value).size = (numC (padL l.reverse)).size by rw [numC_size, hpr]; rfl)
  have HPR := Lib.hid hpr
  clear hpl hpr
  have hl7 : (l.length : Int) ≤ 7 := by omega
  generalize numC (padL l) = C at *
  have hW1 : ((w.alloc (.cells C 35)).alloc (.cells #[.int .i64 0, .int .i64 0, .int .i64 0, .int .i64 0, .int .i64 0, .int .i64 0, .int .i64 0] 35)).heap[w.heap.size]? = some (.cells C 35 (0, 0)) := hH0
  go_enter Try.func46, Try.ntmps46
  go_wp2_with (first
    | (refine wpList_load_row rfl 35 _ rfl w.heap.size rfl 35 C (0, 0) _ hW1 Try.underlying35 rfl HS.out ?_)
    | (go_at_call 62; refine (HM.out _).mono ?_; rintro e w1 ⟨rfl, hb1⟩; clear HM)
    | (go_at_call 61; refine (HREV.out _ (hH0.below hb1)).mono ?_; rintro e w2 ⟨rfl, hH2, hO2⟩; have hR2 := hO2.held (hR0.below hb1) (by omega); have hb2 := (below_step hb0 hb0.size hb1).trans hO2.below; clear HREV)
    | (refine wpList_load_row rfl 35 _ rfl w.heap.size rfl 35 _ (0, 0) _ hH2 Try.underlying35 rfl HS2.out ?_)
    | (refine wpList_store_row rfl 35 _ _ rfl (w.heap.size + 1) _ rfl rfl 35 _ hR2 HS2.out HZ.out HN.out ?_))
  exact bodyPost_ret (v := .agg (numC (padL l.reverse))) (results_perm Try.results46 rfl (hR2.setRow _) HPR.out) rfl ⟨rfl, below_setRowB hb2 (by omega) _⟩

end Go.Proofs.Ytkpjlglfhhdcbaa
