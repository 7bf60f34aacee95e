/-
  The longest wall: the model's answer. (Walk.)
-/
import Derived.Test.YtdipcemiepmanaaLongA
namespace Go.Proofs.Ytdipcemiepmanaa
open Go.RowKit

theorem wlN_getD {L : List Wl} {i : Nat} (hi : i < L.length) : (L.map wlN).getD i [] = wlN (L.getD i zeroWl) := by simp [hi]
/-- a wall's four numbers, read out of a slice of slices -/
theorem rows_wl {w : World} {base : Nat} {uo : Option Addr} {uc : Nat} {L : List Wl} {us : List Value} (h : RowsAt w base uo uc (L.map wlN) us) {i : Nat} (hi : i < L.length) :
    ∃ bb off g c, uo = some ⟨bb, off, none⟩ ∧ w.cell? ⟨bb, off + i, none⟩ = some (.slice (some ⟨g, 0, none⟩) 4 c) ∧ w.cell? ⟨g, 0, none⟩ = some (.int .i64 ((L.getD i zeroWl).way : Nat)) ∧
      w.cell? ⟨g, 1, none⟩ = some (.int .i64 ((L.getD i zeroWl).line : Nat)) ∧ w.cell? ⟨g, 2, none⟩ = some (.int .i64 ((L.getD i zeroWl).first : Nat)) ∧ w.cell? ⟨g, 3, none⟩ = some (.int .i64 ((L.getD i zeroWl).long : Nat)) := by
  have hl : i < (L.map wlN).length := by rw [List.length_map]; exact hi
  obtain ⟨bb, off, g, c, h1, h2, h3, _⟩ := h.row hl (by rw [wlN_getD hi]; exact Nat.succ_pos _)
  rw [wlN_getD hi] at h2 h3
  have key : ∀ j v, (wlN (L.getD i zeroWl))[j]? = some v → w.cell? ⟨g, j, none⟩ = some (.int .i64 v) := fun j v hv => by
    obtain ⟨b', o', he, hc⟩ := h3 j (.int .i64 v) (by rw [List.getElem?_map, hv]; rfl)
    simp only [Option.some.injEq, Addr.mk.injEq, and_true] at he
    obtain ⟨rfl, rfl⟩ := he
    rwa [Nat.zero_add] at hc
  exact ⟨bb, off, g, c, h1, h2, key 0 _ rfl, key 1 _ rfl, key 2 _ rfl, key 3 _ rfl⟩

theorem planB_walls {p : List ByteArray} (h : longOk p = true) : planB p = true := by
  cases hp : planB p
  · unfold longOk at h; rw [wallsP_no hp] at h; simp at h
  · rfl

set_option maxRecDepth 100000 in
set_option maxHeartbeats 2000000 in
theorem specWallLongest_any (ao : Option Addr) (cap : Nat) (p : List ByteArray) (w : World) (hl : p.length ≤ 1048576) (hs : ∀ s ∈ p, s.size ≤ 1048576) (hc : CellsAt w ao (p.map Value.string)) :
    Calls Try.prog 35 #[.slice ao p.length cap] w fun e w' => e = .returned (.tuple #[.int .i64 (longI p : Nat), .int .i64 (longN p : Nat), .bool (longOk p)]) ∧ Below w.heap.size w w' := by
  cases hp : planB p
  · have h0 : longOk p = false := by cases h : longOk p; rfl; rw [planB_walls h] at hp; cases hp
    unfold longI longN
    rw [h0, if_neg (by decide), if_neg (by decide)]
    go_enter Try.func35, Try.ntmps35
    go_wp2_with (go_at_call 37; refine (specPlanIn_any _ _ _ _ hl hs hc).mono ?_; rw [hp]; rintro e w1 ⟨rfl, hb1⟩)
    refine bodyPost_ret (v := .tuple #[.int .i64 0, .int .i64 0, .bool false]) (by simp [results, Try.results35, go_sem]) rfl ⟨rfl, hb1⟩
  · have HW := Lib.hid (fun (w : World) (hc : CellsAt w ao (p.map Value.string)) => l2Walls_any ao cap p w hp hc)
    have hWL := wallsL_walls hp
    rw [hWL] at HW
    have hle := wallsP_len p
    unfold longI longN longOk
    generalize wallsP p = L at *
    by_cases h0 : 0 < L.length
    · rw [decide_eq_true h0, if_pos rfl, if_pos rfl]
      have hz : ((L.length : Int) == 0) = false := by rw [beq_eq_false_iff_ne]; omega
      have hLL : (L.map wlN).length = L.length := List.length_map _
      have HLL := Lib.hid hLL
      rw [hLL] at HW
      clear hLL hWL
      go_enter Try.func35, Try.ntmps35
      go_wp2_with (first
        | (go_at_call 37; refine (specPlanIn_any _ _ _ _ hl hs hc).mono ?_; rw [hp]; rintro e w1 ⟨rfl, hb1⟩; have hc1 := hc.below hb1)
        | (go_at_call 42; refine (HW.out _ hc2).mono ?_; rintro e w3 ⟨ro3, rc3, rfl, hrow3, hb3⟩)
        | (go_at_call 42; refine (HW.out _ hc1).mono ?_; rintro e w2 ⟨ro2, rc2, rfl, _, hb2⟩; have hc2 := hc1.below hb2))
      obtain ⟨us, hus⟩ := hrow3
      have hB3 := below_step hb1 hb1.size (below_step hb2 hb2.size hb3)
      clear hb1 hb2 hb3
      obtain ⟨W3, hW3⟩ : ∃ W3, W3 = w3 := ⟨_, rfl⟩
      have HUS := Lib.hid hus
      clear hus
      go_loopw [6, 7] (fun va vi wr => ∃ i : Nat, 1 ≤ i ∧ i ≤ L.length ∧ vi = .int .i64 i ∧ va = .int .i64 (lngAt L i : Nat) ∧ Quiet w3 wr) (fun _ vi _ => L.length - (intOf vi).toNat)
      case atStart => exact ⟨1, Nat.le_refl _, h0, rfl, by rw [lngAt_one]; rfl, Quiet.refl _⟩
      case round =>
        obtain ⟨i, hi1, hi, rfl, rfl, hq⟩ := hrel
        have hus := HUS.out.below (hq.below _)
        have hat := lngAt_lt L i (by omega)
        have HYES := Lib.hid (@lngAt_yes L i)
        have HNO := Lib.hid (@lngAt_no L i)
        obtain ⟨t, ht⟩ : ∃ t, lngAt L i = t := ⟨_, rfl⟩
        rw [ht] at HYES HNO hat
        have HT := Lib.hid ht
        by_cases hlt : i < L.length
        · have hlt' : decide ((i : Int) < (L.length : Int)) = true := by rw [decide_eq_true_eq]; omega
          obtain ⟨bb, off, g, c, rfl, k0, _, _, _, k3⟩ := rows_wl hus hlt
          obtain ⟨bb2, off2, g2, c2, he, m0, _, _, _, m3⟩ := rows_wl hus (show t < L.length by omega)
          simp only [Option.some.injEq, Addr.mk.injEq, and_true] at he
          obtain ⟨rfl, rfl⟩ := he
          have htl : t < L.length := by omega
          generalize L.getD i zeroWl = X at *
          generalize L.getD t zeroWl = M at *
          clear hus
          by_cases hx : M.long < X.long
          · have hx' : decide ((M.long : Int) < (X.long : Int)) = true := by rw [decide_eq_true_eq]; omega
            have e1 := HYES.out hx
            have HE1 := Lib.hid e1; clear e1
            rw [ht]
            clear ht
            go_wp2
            go_quiet (fail)
            go_wp2
            go_roundw
            case rel => exact ⟨i + 1, by omega, by omega, by go_num, by rw [HE1.out], hq.then nq⟩
            case measure => simp [intOf]; omega
          · have hx' : decide ((M.long : Int) < (X.long : Int)) = false := by rw [decide_eq_false_iff_not]; omega
            have e1 := HNO.out hx
            have HE1 := Lib.hid e1; clear e1
            rw [ht]
            clear ht
            go_wp2
            go_quiet (fail)
            go_wp2
            go_roundw
            case rel => exact ⟨i + 1, by omega, by omega, by go_num, by rw [HE1.out], hq.then nq⟩
            case measure => simp [intOf]; omega
        · obtain rfl : i = L.length := by omega
          have hlt' : decide ((L.length : Int) < (L.length : Int)) = false := by rw [decide_eq_false_iff_not]; omega
          obtain ⟨bb2, off2, g2, c2, rfl, m0, _, _, _, m3⟩ := rows_wl hus (show t < L.length by omega)
          rw [ht]
          obtain ⟨M, hM⟩ : ∃ M, L.getD t zeroWl = M := ⟨_, rfl⟩
          rw [hM] at m3
          have HM := Lib.hid hM
          clear hus ht hM
          go_wp2
          go_quiet (fail)
          go_wp2
          refine bodyPost_ret (v := .tuple #[.int .i64 (t : Nat), .int .i64 (M.long : Nat), .bool true]) (by simp [results, Try.results35, go_sem]) rfl ⟨?_, hB3.trans (((hq.then nq).below _).mono hB3.size)⟩
          rw [HT.out, HM.out]
    · rw [decide_eq_false h0, if_neg (by decide), if_neg (by decide)]
      have hz : ((L.length : Int) == 0) = true := by rw [beq_iff_eq]; omega
      have hLL : (L.map wlN).length = L.length := List.length_map _
      rw [hLL] at HW
      clear hLL hWL
      go_enter Try.func35, Try.ntmps35
      go_wp2_with (first
        | (go_at_call 37; refine (specPlanIn_any _ _ _ _ hl hs hc).mono ?_; rw [hp]; rintro e w1 ⟨rfl, hb1⟩; have hc1 := hc.below hb1)
        | (go_at_call 42; refine (HW.out _ hc1).mono ?_; rintro e w2 ⟨ro2, rc2, rfl, _, hb2⟩))
      refine bodyPost_ret (v := .tuple #[.int .i64 0, .int .i64 0, .bool false]) (by simp [results, Try.results35, go_sem]) rfl ⟨rfl, below_step hb1 hb1.size hb2⟩

end Go.Proofs.Ytdipcemiepmanaa
