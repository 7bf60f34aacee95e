
/-
  The sum for loose permutations, the model's and the program's. (Walks.)
-/
import Derived.Test.YtnkfopnkgingpaaSevT
import Derived.Test.YtnkfopnkgingpaaSevN
namespace Go.Proofs.Ytnkfopnkgingpaa
open Go.RowKit

theorem owns_cut (w : World) (base : Nat) (e : TypeId) (l : List Value) (hb : base ≤ w.heap.size) (hm : l.length ≤ maxLen) : (w.alloc (.cells l.toArray e)).ownsRow base e 1 (.slice (some ⟨w.heap.size, 0, none⟩) l.length l.length) l.length l :=
  ⟨by simp, .inr ⟨w.heap.size, l.length, l.toArray, rfl, hb, HeldB.new _ _ _, Nat.le_refl _, hm, by simp, by simp⟩⟩
theorem info_num : (Try.prog.info? 3).map (fun i => (i.zero, i.size, i.bytes)) = some (some (.int .i64 0), 1, 8) := by kernel_rfl
theorem owns_num {w : World} {base : Nat} {ro : Option Addr} {n rc : Nat} {l : List Int} (h : w.ownsRow base 3 1 (.slice ro n rc) n (l.map (Value.int .i64))) {i : Nat} (hi : i < l.length) :
    ∃ g, ro = some ⟨g, 0, none⟩ ∧ base ≤ g ∧ g < w.heap.size ∧ w.cell? ⟨g, i, none⟩ = some (.int .i64 (l.getD i 0)) := by
  have hn : l.length = n := by have := ownsRow_len h; simpa using this
  obtain ⟨g, cap', hv, h1, h2⟩ := ownsRow_some h (by omega)
  simp only [Value.slice.injEq, true_and] at hv
  obtain ⟨rfl, _⟩ := hv
  obtain ⟨b, off, e, hc⟩ := (owns_cells h).int i hi
  simp only [Option.some.injEq, Addr.mk.injEq, and_true] at e
  obtain ⟨rfl, rfl⟩ := e
  rw [Nat.zero_add] at hc
  exact ⟨_, rfl, h1, h2, hc⟩


theorem inn_step {m i : Nat} (hm : m < 8) (hi : i + 1 < m) : wrap64 (((innN m i : Nat) : Int) + wrap64 (((looN (i + 1) : Nat) : Int) * ((looN (m - (i + 1)) : Nat) : Int))) = ((innN m (i + 1) : Nat) : Int) := by
  have h1 := innN_le m hm i (by omega)
  have h2 := innN_le m hm (i + 1) (by omega)
  have e : innN m (i + 1) = innN m i + looN (i + 1) * looN (m - (i + 1)) := rfl
  have k1 := looN_le (i + 1) (by omega)
  have k2 := looN_le (m - (i + 1)) (by omega)
  have k3 := Nat.mul_le_mul k1 k2
  rw [← Int.natCast_mul]
  generalize looN (i + 1) * looN (m - (i + 1)) = q at *
  rw [show wrap64 (q : Int) = q from IntWalk.wrap64_in _ ⟨by omega, by omega⟩, ← Int.natCast_add, ← e]
  exact IntWalk.wrap64_in _ ⟨by omega, by omega⟩
set_option maxRecDepth 100000 in
set_option maxHeartbeats 2000000 in
theorem specPermLooseSum_any (n : Int) (w : World) :
    Calls Try.prog 48 #[.int .i64 n] w fun e w' => e = .returned (.tuple #[.int .i64 (looSum n), .bool (isN n)]) ∧ Below w.heap.size w w' := by
  obtain ⟨it, hti, htz, ht1, ht2⟩ := info_parts info_num
  cases hb : isN n
  · have HF := Lib.hid (looSum_no (bool_not hb))
    have HB := Lib.hid hb; clear hb
    have HI := Lib.hid (in17_any n); rw [HB.out] at HI
    go_enter Try.func48, Try.ntmps48
    go_wp2_with (go_at_call 52; refine (HI.out _).mono ?_; rintro e w' ⟨rfl, rfl⟩)
    go_ret2
    exact ⟨by rw [HF.out]; rfl, Below.refl _ _⟩
  · obtain ⟨m, rfl, h1, h7⟩ := bool_num hb
    have HF := Lib.hid (looSum_yes h1 h7)
    have HB := Lib.hid hb; clear hb
    have HI := Lib.hid (in17_any m); rw [HB.out] at HI
    have hown := owns_cut w w.heap.size 3 [.int .i64 0, .int .i64 1] (Nat.le_refl _) (by simp [maxLen])
    have hb0 := below_alloc w (.cells #[.int .i64 0, .int .i64 1] 3)
    go_enter Try.func48, Try.ntmps48
    go_wp2_with (go_at_call 52; refine (HI.out _).mono ?_; rintro e w' ⟨rfl, rfl⟩)
    go_loopw [4, 5] (fun vl vk wr => ∃ (j : Nat) (ro : Option Addr) (rc : Nat), j < m ∧ vk = .int .i64 ((j : Int) + 2) ∧ vl = .slice ro (j + 2) rc ∧ wr.ownsRow w'.heap.size 3 1 (.slice ro (j + 2) rc) (j + 2) ((looL (j + 2)).map (Value.int .i64)) ∧ Below w'.heap.size w' wr) (fun _ vk _ => m + 2 - (intOf vk).toNat)
    case atStart => exact ⟨0, _, _, by omega, rfl, rfl, hown, hb0⟩
    case round =>
      clear hown hb0
      obtain ⟨j, ro, rc, hj, rfl, rfl, hrow, hb⟩ := hrel
      have hlen := looL_len (j + 2)
      have HLEN := Lib.hid hlen; clear hlen
      by_cases hlt : j + 1 < m
      · obtain ⟨g, rfl, hg1, hg2, hc1⟩ := owns_num hrow (i := j + 1) (by rw [HLEN.out]; omega)
        rw [looL_at (by omega)] at hc1
        go_wp2_with fail
        clear hc1
        have h63 : j + 2 + 1 ≤ maxLen := by unfold maxLen; omega
        have h64 : (j + 2 + 1) * 8 ≤ 140737488355328 := by omega
        go_loopw [6, 7] (fun vs vi wq => ∃ i : Nat, i ≤ j + 1 ∧ vi = .int .i64 ((i : Int) + 1) ∧ vs = .int .i64 ((innN (j + 2) i : Nat) : Int) ∧ wq.ownsRow w'.heap.size 3 1 (.slice (some ⟨g, 0, none⟩) (j + 2) rc) (j + 2) ((looL (j + 2)).map (Value.int .i64)) ∧ Below w'.heap.size w' wq) (fun _ vi _ => j + 2 - (intOf vi).toNat)
        case atStart => exact ⟨0, Nat.zero_le _, rfl, rfl, hrow, hb⟩
        case round =>
          clear hrow hb
          rename_i wq _ _ _ _ _ _ _ _ _ _ _ _ _ _ _ _ _ _
          obtain ⟨i, hi, rfl, rfl, hrow, hb⟩ := hrel
          by_cases hil : i < j + 1
          · obtain ⟨b, hbe⟩ : ∃ b, j + 2 - (i + 1) = b := ⟨_, rfl⟩
            obtain ⟨_, e1, _, _, hcA⟩ := owns_num hrow (i := i + 1) (by rw [HLEN.out]; omega)
            obtain ⟨_, e2, _, _, hcB⟩ := owns_num hrow (i := b) (by rw [HLEN.out]; omega)
            rw [looL_at (by omega)] at hcA hcB
            cases e1; cases e2
            have HX := Lib.hid (inn_step (m := j + 2) (i := i) (by omega) (by omega))
            rw [hbe] at HX
            have hw : IntKind.i64.wrap ((j : Int) + 2 - ((i : Int) + 1)) = (b : Int) := by rw [IntWalk.i64_in _ (by omega)]; omega
            have hbl : (b : Int) < (j : Int) + 2 := by omega
            have hbl2 : b < j + 2 := by omega
            clear hbe
            go_wp2
            go_quiet (fail)
            clear hw
            go_wp2
            go_roundw
            case rel => exact ⟨i + 1, by omega, by go_num, by rw [HX.out], ownsRow_below hrow (below_drewN _ _ _), hb.trans (below_drewN _ _ _)⟩
            case measure => simp [intOf]; omega
          · obtain rfl : i = j + 1 := by omega
            have HE := Lib.hid (innN_eq (j + 2) (by omega) (by omega))
            have HS := Lib.hid (looL_succ (j + 2))
            have hbs := hb.size
            go_wp2_with (at_builtin; refine wpList_push _ rfl _ _ 23 rfl w'.heap.size 3 it (.int .i64 0) 8 Try.underlying23 hti htz ht1 ht2 rfl (some ⟨g, 0, none⟩) (j + 2) rc _ rfl (ownsRow_below hrow (below_alloc _ _)) (.int .i64 ((innN (j + 2) (j + 1) : Nat) : Int)) _ _ rfl (cell_new _ _ _) rfl h63 h64 (by simp; omega) ?_; intro ro2 rc2 w4 hrow2 hg2 hnew2)
            go_roundw
            case rel => exact ⟨j + 1, ro2, rc2, by omega, by go_num, rfl, owns_eq hrow2 (by rw [HS.out, List.map_append]; simp only [List.map_cons, List.map_nil]; rw [← HE.out]; rfl), below_push hb hbs hg2 (fun a ha => (owns_lt hrow a ha).1)⟩
            case measure => simp [intOf]; omega
      · obtain rfl : m = j + 1 := by omega
        obtain ⟨g, rfl, hg1, hg2, hc1⟩ := owns_num hrow (i := j + 1) (by rw [HLEN.out]; omega)
        rw [looL_at (by omega)] at hc1
        have hjl : (j : Int) + 1 < (j : Int) + 2 := by omega
        go_wp2
        go_ret2
        exact ⟨by rw [HF.out]; rfl, hb⟩


/-! # the program's -/
/-- eight numbers: the first k of them, and one more in the making -/
def looA (k : Nat) (x : Int) : List Int := (List.range 8).map fun (i : Nat) => if i < k then ((looN i : Nat) : Int) else if i = k then x else 0
theorem looA_len (k : Nat) (x : Int) : (looA k x).length = 8 := by simp [looA]
theorem looA_at {k i : Nat} {x : Int} (h : i < 8) : (looA k x).getD i 0 = if i < k then ((looN i : Nat) : Int) else if i = k then x else 0 := by simp [looA, h]
theorem list_at_ext {l m : List Int} (hl : l.length = m.length) (h : ∀ i, i < l.length → l.getD i 0 = m.getD i 0) : l = m := by
  refine List.ext_getElem hl fun i h1 h2 => ?_
  have := h i h1
  rw [List.getD_eq_getElem?_getD, List.getD_eq_getElem?_getD, List.getElem?_eq_getElem h1, List.getElem?_eq_getElem h2] at this
  exact this
theorem at_set (L : List Int) (i : Nat) (x : Int) (j : Nat) (hi : i < L.length) : (L.set i x).getD j 0 = if j = i then x else L.getD j 0 := by
  rw [List.getD_eq_getElem?_getD, List.getElem?_set]
  by_cases h : i = j
  · subst h; simp [hi]
  · rw [if_neg h, if_neg (fun e => h e.symm), List.getD_eq_getElem?_getD]
theorem looA_put {k : Nat} (x y : Int) (hk : k < 8) : (looA k x).set k y = looA k y := by
  refine list_at_ext (by rw [List.length_set, looA_len, looA_len]) fun i hi => ?_
  rw [List.length_set, looA_len] at hi
  rw [at_set _ _ _ _ (by rw [looA_len]; exact hk), looA_at hi, looA_at hi]
  by_cases h : i = k
  · subst h; simp
  · rw [if_neg h, if_neg h, if_neg h]
theorem looA_done (k : Nat) : looA k ((looN k : Nat) : Int) = looA (k + 1) 0 := by
  refine list_at_ext (by rw [looA_len, looA_len]) fun i hi => ?_
  rw [looA_len] at hi
  rw [looA_at hi, looA_at hi]
  by_cases h : i < k
  · rw [if_pos h, if_pos (by omega)]
  · by_cases h' : i = k
    · subst h'; rw [if_neg h, if_pos rfl, if_pos (by omega)]
    · rw [if_neg h, if_neg h', if_neg (by omega)]; split <;> rfl
set_option maxRecDepth 100000 in
set_option maxHeartbeats 2000000 in
theorem implPermLooseSum_any (n : Int) (w : World) :
    Calls Try.prog 46 #[.int .i64 n] w fun e w' => e = .returned (.tuple #[.int .i64 (looSum n), .bool (isN n)]) ∧ Below w.heap.size w w' := by
  cases hb : isN n
  · have HF := Lib.hid (looSum_no (bool_not hb))
    have HB := Lib.hid hb; clear hb
    have HI := Lib.hid (isLength_any n); rw [HB.out] at HI
    go_enter Try.func46, Try.ntmps46
    go_wp2_with (go_at_call 70; refine (HI.out _).mono ?_; rintro e w' ⟨rfl, rfl⟩)
    go_ret2
    exact ⟨by rw [HF.out]; rfl, Below.refl _ _⟩
  · obtain ⟨m, rfl, h1, h7⟩ := bool_num hb
    have HF := Lib.hid (looSum_yes h1 h7)
    have HB := Lib.hid hb; clear hb
    have HI := Lib.hid (isLength_any m); rw [HB.out] at HI
    go_enter Try.func46, Try.ntmps46
    go_wp2_with (go_at_call 70; refine (HI.out _).mono ?_; rintro e w' ⟨rfl, rfl⟩)
    have hH : HeldB (w'.alloc (.cells #[.int .i64 0, .int .i64 1, .int .i64 0, .int .i64 0, .int .i64 0, .int .i64 0, .int .i64 0, .int .i64 0] 57)) w'.heap.size 57 (numC (looA 2 0)) := (HeldB.new _ _ _).eq (by kernel_rfl)
    have hb0 := below_alloc w' (.cells #[.int .i64 0, .int .i64 1, .int .i64 0, .int .i64 0, .int .i64 0, .int .i64 0, .int .i64 0, .int .i64 0] 57)
    go_loopw [5] (fun vk wr => ∃ (j : Nat), j < m ∧ vk = .int .i64 ((j : Int) + 2) ∧ HeldB wr w'.heap.size 57 (numC (looA (j + 2) 0)) ∧ Below w'.heap.size w' wr) (fun vk _ => m + 2 - (intOf vk).toNat)
    case atStart => exact ⟨0, by omega, rfl, hH, hb0⟩
    case round =>
      clear hH hb0
      obtain ⟨j, hj, rfl, hH, hb⟩ := hrel
      by_cases hlt : j + 1 < m
      · have c1 := (hH.cell (j + 1)).trans (numC_at (by rw [looA_len]; omega))
        have c2 := (hH.cell (j + 2)).trans (numC_at (by rw [looA_len]; omega))
        have f2 := hH.frozen (j + 2)
        rw [looA_at (by omega), if_pos (by omega)] at c1
        have hj8 : (j : Int) + 2 < 8 := by omega
        have hj1 : (j : Int) + 1 < 8 := by omega
        have hH2 := (hH.set (j + 2) (.int .i64 ((looN (j + 1) : Nat) : Int))).eq ((numC_set _ _ _).trans (by rw [looA_put _ _ (by omega)]))
        have hb2 := hb.setCell (p := ⟨w'.heap.size, j + 2, none⟩) (Nat.le_refl _) (.int .i64 ((looN (j + 1) : Nat) : Int))
        clear hH hb
        go_wp2_with fail
        have HE := Lib.hid (show innN (j + 2) (j + 1) = looN (j + 2) from innN_eq (j + 2) (by omega) (by omega))
        rw [show looN (j + 1) = innN (j + 2) 0 from rfl] at hH2 hb2 ⊢
        generalize hW : wr.setCell ⟨w'.heap.size, j + 2, none⟩ (.int .i64 ((innN (j + 2) 0 : Nat) : Int)) = W2 at *
        clear hW c1 c2 f2
        go_loopw [6] (fun vi wq => ∃ i : Nat, i ≤ j + 1 ∧ vi = .int .i64 ((i : Int) + 1) ∧ HeldB wq w'.heap.size 57 (numC (looA (j + 2) ((innN (j + 2) i : Nat) : Int))) ∧ Below w'.heap.size w' wq) (fun vi _ => j + 2 - (intOf vi).toNat)
        case atStart => exact ⟨0, Nat.zero_le _, rfl, hH2, hb2⟩
        case round =>
          clear hH2 hb2
          obtain ⟨i, hi, rfl, hH, hb⟩ := hrel
          by_cases hil : i < j + 1
          · obtain ⟨b, hbe⟩ : ∃ b, j + 2 - (i + 1) = b := ⟨_, rfl⟩
            have cA := (hH.cell (i + 1)).trans (numC_at (by rw [looA_len]; omega))
            have cB := (hH.cell b).trans (numC_at (by rw [looA_len]; omega))
            have cS := (hH.cell (j + 2)).trans (numC_at (by rw [looA_len]; omega))
            have fS := hH.frozen (j + 2)
            rw [looA_at (by omega), if_pos (by omega)] at cA cB
            rw [looA_at (by omega), if_neg (by omega), if_pos rfl] at cS
            have hX := inn_step (m := j + 2) (i := i) (by omega) (by omega)
            rw [hbe] at hX
            have HX := Lib.hid hX; clear hX
            have hH2 := (hH.set (j + 2) (.int .i64 ((innN (j + 2) (i + 1) : Nat) : Int))).eq ((numC_set _ _ _).trans (by rw [looA_put _ _ (by omega)]))
            have hb2 := hb.setCell (p := ⟨w'.heap.size, j + 2, none⟩) (Nat.le_refl _) (.int .i64 ((innN (j + 2) (i + 1) : Nat) : Int))
            have hw : IntKind.i64.wrap ((j : Int) + 2 - ((i : Int) + 1)) = (b : Int) := by rw [IntWalk.i64_in _ (by omega)]; omega
            have hb8 : (b : Int) < 8 := by omega
            have hj8 : (j : Int) + 2 < 8 := by omega
            have hi8 : (i : Int) + 1 < 8 := by omega
            clear hbe hH hb
            go_wp2
            go_region
            all_goals
              go_wp2
              go_roundw
              case rel => exact ⟨i + 1, by omega, by go_num, by rw [HX.out]; exact hH2.drew, by rw [HX.out]; exact hb2.trans (below_drewN _ _ 1)⟩
              case measure => simp [intOf]; omega
          · obtain rfl : i = j + 1 := by omega
            rw [HE.out, looA_done] at hH
            go_wp2
            go_roundw
            case rel => exact ⟨j + 1, by omega, by go_num, hH, hb⟩
            case measure => simp [intOf]; omega
      · obtain rfl : m = j + 1 := by omega
        have c1 := (hH.cell (j + 1)).trans (numC_at (by rw [looA_len]; omega))
        rw [looA_at (by omega), if_pos (by omega)] at c1
        have hj1 : (j : Int) + 1 < 8 := by omega
        go_wp2
        go_ret2
        exact ⟨by rw [HF.out]; rfl, hb⟩

end Go.Proofs.Ytnkfopnkgingpaa
