
/-
  The rooms at a side of a plan: the model's answer. (Walks.)
-/
import Derived.Test.YtjdlapcikpmdgaaOutI
import Derived.Test.YtjdlapcikpmdgaaSideS
namespace Go.Proofs.Ytjdlapcikpmdgaa
open Go.RowKit

theorem cellsR_row (g : Nat → Nat → Nat) (r0 c0 wi : Nat) : cellsR g r0 c0 wi 1 = (List.range wi).map fun j => ((g r0 (c0 + j) : Nat) : Int) := by
  rw [cellsR_succ]; rfl
theorem cellsR_col (g : Nat → Nat → Nat) (r0 c0 : Nat) : ∀ hi, cellsR g r0 c0 1 hi = (List.range hi).map fun k => ((g (r0 + k) c0 : Nat) : Int)
  | 0 => rfl
  | hi + 1 => by rw [cellsR_succ, cellsR_col g r0 c0 hi, List.range_succ (n := hi), List.map_append]; rfl
theorem edgeL_at (p : List ByteArray) : (∀ k, k < wideB p → (edgeL p 0).getD k 0 = ((gridG p 0 k : Nat) : Int)) ∧ (∀ k, k < p.length → (edgeL p 1).getD k 0 = ((gridG p k (wideB p - 1) : Nat) : Int)) ∧
    (∀ k, k < wideB p → (edgeL p 2).getD k 0 = ((gridG p (p.length - 1) k : Nat) : Int)) ∧ (∀ k, k < p.length → (edgeL p 3).getD k 0 = ((gridG p k 0 : Nat) : Int)) ∧
    (edgeL p 0).length = wideB p ∧ (edgeL p 1).length = p.length ∧ (edgeL p 2).length = wideB p ∧ (edgeL p 3).length = p.length := by
  have e0 : edgeL p 0 = (List.range (wideB p)).map fun j => ((gridG p 0 (0 + j) : Nat) : Int) := cellsR_row _ _ _ _
  have e1 : edgeL p 1 = (List.range p.length).map fun k => ((gridG p (0 + k) (wideB p - 1) : Nat) : Int) := cellsR_col _ _ _ _
  have e2 : edgeL p 2 = (List.range (wideB p)).map fun j => ((gridG p (p.length - 1) (0 + j) : Nat) : Int) := cellsR_row _ _ _ _
  have e3 : edgeL p 3 = (List.range p.length).map fun k => ((gridG p (0 + k) 0 : Nat) : Int) := cellsR_col _ _ _ _
  refine ⟨fun k hk => ?_, fun k hk => ?_, fun k hk => ?_, fun k hk => ?_, ?_, ?_, ?_, ?_⟩
  · rw [e0]; simp [hk]
  · rw [e1]; simp [hk]
  · rw [e2]; simp [hk]
  · rw [e3]; simp [hk]
  · rw [e0]; simp
  · rw [e1]; simp
  · rw [e2]; simp
  · rw [e3]; simp

set_option maxRecDepth 100000 in
set_option maxHeartbeats 1000000 in
theorem l2Put_grow (base : Nat) (ao : Option Addr) (c n : Nat) (l : List Int) (x : Int) (w : World) (hn : l.length = n) (hl : n ≤ 1000) (hb : base ≤ w.heap.size) (hown : w.ownsRow base 3 1 (.slice ao n c) n (l.map (Value.int .i64))) :
    Calls Try.prog 35 #[.slice ao n c, .int .i64 x] w
      fun e w' => ∃ ao' c', e = .returned (.slice ao' (putL l x).length c') ∧ w'.ownsRow base 3 1 (.slice ao' (putL l x).length c') (putL l x).length ((putL l x).map (Value.int .i64)) ∧ w.grownBy w' (Value.ownBlock (.slice ao n c)) ∧ NewOr w ao ao' := by
  obtain ⟨im, hmi, hmz, hm1, hm2⟩ := info_parts Try.infoNum
  subst hn
  have h63 : l.length + 1 ≤ maxLen := by unfold maxLen; omega
  have h64 : (l.length + 1) * 8 ≤ 140737488355328 := by omega
  have hlt := owns_lt hown
  by_cases h0 : 0 < l.length
  · have hd : decide (0 < (l.length : Int)) = true := by rw [decide_eq_true_eq]; omega
    obtain ⟨b, off, rfl, k0⟩ := (owns_cells hown).int (l.length - 1) (by omega)
    have hl1 : (l.length : Int) - 1 = ((l.length - 1 : Nat) : Int) := by omega
    have hl2 : ((l.length - 1 : Nat) : Int) < (l.length : Int) := by omega
    have hla := last_getD h0
    generalize l.getD (l.length - 1) 0 = y at *
    by_cases hxy : y = x
    · have hb2 : (y == x) = true := by rw [hxy]; simp
      rw [putL_yes (by rw [hla, hxy])]
      clear hxy hla
      go_enter Try.func35, Try.ntmps35
      go_wp2
      go_ret
      exact ⟨_, c, rfl, hown, ⟨rfl, rfl, rfl, Nat.le_refl _, fun _ _ _ => rfl⟩, fun a ha => .inl ha⟩
    · have hb2 : (y == x) = false := by rw [beq_eq_false_iff_ne]; exact hxy
      have HP := Lib.hid (putL_no (l := l) (x := x) (by rw [hla]; intro h; exact hxy (Option.some.inj h)))
      rw [HP.out]
      clear hxy hla
      go_enter Try.func35, Try.ntmps35
      go_wp2_with (at_builtin; refine wpList_push _ rfl _ _ 35 rfl base 3 im (.int .i64 0) 8 Try.underlying35 hmi hmz hm1 hm2 rfl (some ⟨b, off, none⟩) l.length c _ rfl (hown.alloc _) _ _ _ rfl (cell_new _ _ _) rfl h63 h64 (by simp; omega) ?_; intro ao2 c2 w2 ho2 hg2 hnew2)
      go_ret
      exact ⟨ao2, c2, by rw [List.length_append]; rfl, by rw [List.length_append, List.map_append]; exact ho2, grownBy_trans (World.grownBy_alloc w _ _) hg2, fun a ha => by rcases hnew2 a ha with h | h; exact .inl h; exact .inr (by simp at h; omega)⟩
  · have hd : decide (0 < (l.length : Int)) = false := by rw [decide_eq_false_iff_not]; omega
    have hl0 : l = [] := List.eq_nil_of_length_eq_zero (by omega)
    have HP := Lib.hid (putL_no (l := l) (x := x) (by rw [hl0]; simp))
    rw [HP.out]
    clear hl0
    go_enter Try.func35, Try.ntmps35
    go_wp2_with (at_builtin; refine wpList_push _ rfl _ _ 35 rfl base 3 im (.int .i64 0) 8 Try.underlying35 hmi hmz hm1 hm2 rfl ao l.length c _ rfl (hown.alloc _) _ _ _ rfl (cell_new _ _ _) rfl h63 h64 (by simp; omega) ?_; intro ao2 c2 w2 ho2 hg2 hnew2)
    go_ret
    exact ⟨ao2, c2, by rw [List.length_append]; rfl, by rw [List.length_append, List.map_append]; exact ho2, grownBy_trans (World.grownBy_alloc w _ _) hg2, fun a ha => by rcases hnew2 a ha with h | h; exact .inl h; exact .inr (by simp at h; omega)⟩

set_option maxRecDepth 100000 in
set_option maxHeartbeats 4000000 in
theorem specNearOut_any (ao : Option Addr) (cap : Nat) (p : List ByteArray) (s : Int) (w : World) (hl : p.length ≤ 1048576) (hs : ∀ s ∈ p, s.size ≤ 1048576) (hc : CellsAt w ao (p.map Value.string)) :
    Calls Try.prog 13 #[.slice ao p.length cap, .int .i64 s] w fun e w' => NumsRet w.heap.size (outL p s) (outOk p s) e w' ∧ Below w.heap.size w w' := by
  have hA0 : Below w.heap.size w (w.alloc (.cells #[] 3)) := below_alloc w _
  have hO0 : (w.alloc (.cells #[] 3)).ownsRow w.heap.size 3 1 (.slice (some ⟨w.heap.size, 0, none⟩) 0 0) 0 [] := World.ownsRow_made w #[] 0 (Nat.le_refl _) (Nat.zero_le _) rfl
  have hs0 : w.heap.size + 1 ≤ (w.alloc (.cells #[] 3)).heap.size := by simp
  have hca := hc.below (below_alloc w (.cells #[] 3))
  unfold outL outOk
  have HS1 := Lib.hid (show l6B s 0 3 = isSide s by
    unfold isSide
    by_cases h1 : 0 ≤ s
    · by_cases h2 : s ≤ 3
      · rw [l6B_true h1 h2]
        rcases (show s = 0 ∨ s = 1 ∨ s = 2 ∨ s = 3 by omega) with rfl | rfl | rfl | rfl <;> rfl
      · rw [l6B_hi (by omega)]
        rw [decide_eq_false (show ¬ s = 0 by omega), decide_eq_false (show ¬ s = 1 by omega), decide_eq_false (show ¬ s = 2 by omega), decide_eq_false (show ¬ s = 3 by omega)]; rfl
    · rw [l6B_lo (by omega)]
      rw [decide_eq_false (show ¬ s = 0 by omega), decide_eq_false (show ¬ s = 1 by omega), decide_eq_false (show ¬ s = 2 by omega), decide_eq_false (show ¬ s = 3 by omega)]; rfl)
  cases hp : planB p
  · rw [Bool.false_and, if_neg (by decide)]
    go_enter Try.func13, Try.ntmps13
    go_wp2_with (go_at_call 32; refine (specPlanIn_any _ _ _ _ hl hs hca).mono ?_; rw [hp]; rintro e w1 ⟨rfl, hb1⟩)
    go_ret2
    exact ⟨⟨_, 0, rfl, ownsRow_below hO0 hb1⟩, below_step hA0 hA0.size hb1⟩
  · rw [Bool.true_and]
    have hP := planP_of hp
    have h1 := hP.grid.h1; have h6 := hP.grid.h6; have w1 := hP.grid.w1; have w6 := hP.grid.w6
    have HSZ := Lib.hid (show ∀ i, i < p.length → (p.getD i ByteArray.empty).size = wideB p from hP.grid.even)
    have HRM := Lib.hid (fun i j (hi : i < p.length) (hj : j < wideB p) => hP.room hi hj)
    obtain ⟨l0, l1, l2, l3, n0, n1, n2, n3⟩ := edgeL_at p
    have HTL := Lib.hid (trans_len p); have HTW := Lib.hid (trans_wide w1)
    have HTS := Lib.hid (show ∀ i, i < wideB p → ((transB p).getD i ByteArray.empty).size = p.length from fun i hi => by rw [← HTW.out]; exact trans_even w1 i (by rw [HTL.out]; exact hi))
    have HTB := Lib.hid (fun k i (hk : k < wideB p) (hi : i < p.length) => trans_byte (p := p) hk hi)
    have HTR := Lib.hid (fun (w : World) (hc : CellsAt w ao (p.map Value.string)) => l1Trans_any ao cap _ p w rfl h1 hl (by omega) hP.grid.even hc)
    have HC0 := Lib.hid hc
    by_cases h0 : s = 0
    · subst h0
      have hsd : isSide 0 = true := rfl
      rw [hsd] at HS1
      rw [hsd, if_pos rfl]
      have HL := Lib.hid l0; have HN := Lib.hid n0
      clear l0 l1 l2 l3 n0 n1 n2 n3
      generalize edgeL p 0 = E at *
      have HLI := Lib.hid (fun (h : l6B 0 0 3 = true) (w : World) => (by have := l6In_any 0 0 3 w; rw [h] at this; exact this : Calls Try.prog 33 #[.int .i64 0, .int .i64 0, .int .i64 3] w fun e w' => e = .returned (.bool true) ∧ w' = w))
      go_enter Try.func13, Try.ntmps13
      go_wp2_with (first
        | (go_at_call 32; refine (specPlanIn_any _ _ _ _ hl hs hca).mono ?_; rw [hp]; rintro e w2 ⟨rfl, hb3⟩)
        | (go_at_call 33; refine (HLI.out HS1.out _).mono ?_; rintro e w3 ⟨rfl, rfl⟩))
      have hB3 := below_step hA0 hA0.size hb3
      have hO3 := ownsRow_below hO0 hb3
      have HQ := Lib.hid (hca.below hb3)
      obtain ⟨W3, hW3⟩ : ∃ W3, W3 = w3 := ⟨_, rfl⟩
      clear hW3 W3
      clear hb3
      clear hca hA0 hO0 hs0
      go_loopw [6, 9] (fun v6 v9 wr => ∃ (t : Nat) (ro : Option Addr) (rc : Nat), t ≤ E.length ∧ v9 = .int .i64 t ∧ v6 = .slice ro (compactL (E.take t)).length rc ∧ Hid (wr.ownsRow w.heap.size 3 1 (.slice ro (compactL (E.take t)).length rc) (compactL (E.take t)).length ((compactL (E.take t)).map (Value.int .i64))) ∧ Hid (CellsAt wr ao ((p).map Value.string)) ∧ Below w.heap.size w wr) (fun _ v9 _ => E.length - (intOf v9).toNat)
      case atStart => exact ⟨0, _, 0, Nat.zero_le _, rfl, rfl, Lib.hid hO3, HQ, hB3⟩
      case round =>
        clear hO3 HQ hB3
        obtain ⟨t, ro, rc, ht, rfl, rfl, HO, HQ, hB⟩ := hrel
        have hn := HN.out
        obtain ⟨b1, off1, hq0, kq⟩ := HQ.out.str 0 (by omega)
        subst hq0
        have hsz : ((p).getD 0 ByteArray.empty).size = E.length := by rw [HSZ.out _ (by omega), HN.out]
        rw [Nat.add_zero] at kq
        have hQi : ((0 : Nat) : Int) < ((p.length : Nat) : Int) := by omega
        have hQj : (0 : Int) ≤ ((0 : Nat) : Int) := by omega
        have hEl : E.length ≤ 6 := by omega
        have hcl : (compactL (E.take t)).length ≤ 6 := by have := compactL_len (E.take t); rw [List.length_take] at this; omega
        by_cases htl : t < E.length
        · have hr := HRM.out 0 t (by omega) (by omega)
          unfold byteAt at hr
          have hle := HL.out t (by omega)
          have HT := Lib.hid (show compactL (E.take (t + 1)) = putL (compactL (E.take t)) (E.getD t 0) by rw [take_snoc E t 0 htl, compactL_snoc])
          rw [hle] at HT
          have hts : t < ((p).getD 0 ByteArray.empty).size := by omega
          have i1 := at_list ((p).getD 0 ByteArray.empty) t hts
          generalize ((p).getD 0 ByteArray.empty).data.toList.getD t 0 = e1 at *
          generalize (p).getD 0 ByteArray.empty = s1 at *
          generalize compactL (E.take t) = S at *
          generalize gridG p 0 t = v1 at *
          have hcl1 := UInt8.toNat_lt e1
          have q1 : IntKind.i64.wrap ((e1.toNat : Nat) : Int) = ((e1.toNat : Nat) : Int) := IntWalk.i64_in _ (by omega)
          have q3 : IntKind.i64.wrap (((e1.toNat : Nat) : Int) - 97) = ((e1.toNat : Nat) : Int) - 97 := IntWalk.i64_in _ (by omega)
          have R1 := Lib.hid hr
          have hlt' : decide ((t : Int) < (s1.size : Int)) = true := by rw [decide_eq_true_eq]; omega
          have hwr := hB.size
          clear hr hle hsz hn
          go_wp2_with (go_at_call 35; rw [R1.out]; refine (l2Put_grow w.heap.size ro rc S.length S (v1 : Nat) _ rfl (by omega) hwr HO.out).mono ?_; rintro e w5 ⟨a5, c5, rfl, ho5, hg5, hn5⟩)
          have hB5 := below_of_grownBy' hB hg5 (fun a ha => (owns_lt HO.out a ha).1)
          have HQ5 := Lib.hid (HC0.out.below hB5)
          go_roundw
          case rel => exact ⟨t + 1, a5, c5, by omega, by go_num, by rw [HT.out], Lib.hid (by rw [HT.out]; exact ho5), HQ5, hB5⟩
          case measure => simp [intOf]; omega
        · obtain rfl : t = E.length := by omega
          have hlt' : decide ((E.length : Int) < ((((p).getD 0 ByteArray.empty).size : Nat) : Int)) = false := by rw [decide_eq_false_iff_not]; omega
          rw [List.take_length] at HO ⊢
          have hge : ((p).getD 0 ByteArray.empty).size ≤ E.length := by omega
          have hgi : ((((p).getD 0 ByteArray.empty).size : Nat) : Int) ≤ (E.length : Int) := by omega
          generalize (p).getD 0 ByteArray.empty = s1 at *
          clear hsz hn
          go_wp2
          go_ret2
          exact ⟨⟨ro, rc, rfl, HO.out⟩, hB⟩
    by_cases h1' : s = 1
    · subst h1'
      clear h0
      have hsd : isSide 1 = true := rfl
      rw [hsd] at HS1
      rw [hsd, if_pos rfl]
      have HL := Lib.hid l1; have HN := Lib.hid n1
      clear l0 l1 l2 l3 n0 n1 n2 n3
      generalize edgeL p 1 = E at *
      have HLI := Lib.hid (fun (h : l6B 1 0 3 = true) (w : World) => (by have := l6In_any 1 0 3 w; rw [h] at this; exact this : Calls Try.prog 33 #[.int .i64 1, .int .i64 0, .int .i64 3] w fun e w' => e = .returned (.bool true) ∧ w' = w))
      have hw1 : (wideB p : Int) - 1 = ((wideB p - 1 : Nat) : Int) := by omega
      go_enter Try.func13, Try.ntmps13
      go_wp2_with (first
        | (go_at_call 32; refine (specPlanIn_any _ _ _ _ hl hs hca).mono ?_; rw [hp]; rintro e w1 ⟨rfl, hb2⟩; have hc2 := hca.below hb2)
        | (go_at_call 33; refine (HLI.out HS1.out _).mono ?_; rintro e w2 ⟨rfl, rfl⟩)
        | (go_at_call 34; refine (HTR.out _ hc2).mono ?_; rintro e w3 ⟨to, tc, rfl, hown3, hb3⟩))
      have hB3 := below_step (below_step hA0 hA0.size hb2) (below_step hA0 hA0.size hb2).size hb3
      have hO3 := ownsRow_below (ownsRow_below hO0 hb2) hb3
      have HQ := Lib.hid (owns_cells hown3)
      have HAP := Lib.hid (show Apart (some ⟨w.heap.size, 0, none⟩) to from fun a b ha hb => by simp only [Option.some.injEq] at ha; subst ha; show w.heap.size ≠ b.block; have := (owns_lt hown3 b hb).1; have := hb2.size; simp at this; omega)
      obtain ⟨W3, hW3⟩ : ∃ W3, W3 = w3 := ⟨_, rfl⟩
      clear hW3 W3
      clear hb2 hb3 hc2 hown3
      clear hca hA0 hO0 hs0
      go_loopw [6, 9] (fun v6 v9 wr => ∃ (t : Nat) (ro : Option Addr) (rc : Nat), t ≤ E.length ∧ v9 = .int .i64 t ∧ v6 = .slice ro (compactL (E.take t)).length rc ∧ Hid (wr.ownsRow w.heap.size 3 1 (.slice ro (compactL (E.take t)).length rc) (compactL (E.take t)).length ((compactL (E.take t)).map (Value.int .i64))) ∧ Hid (CellsAt wr to ((transB p).map Value.string)) ∧ Hid (Apart ro to) ∧ Below w.heap.size w wr) (fun _ v9 _ => E.length - (intOf v9).toNat)
      case atStart => exact ⟨0, _, 0, Nat.zero_le _, rfl, rfl, Lib.hid hO3, HQ, HAP, hB3⟩
      case round =>
        clear hO3 HQ hB3 HAP
        obtain ⟨t, ro, rc, ht, rfl, rfl, HO, HQ, HAP, hB⟩ := hrel
        have hn := HN.out
        obtain ⟨b1, off1, hq0, kq⟩ := HQ.out.str (wideB p - 1) (by rw [HTL.out]; omega)
        subst hq0
        have hsz : ((transB p).getD (wideB p - 1) ByteArray.empty).size = E.length := by rw [HTS.out _ (by omega), HN.out]
        have hQi : (((wideB p - 1) : Nat) : Int) < ((wideB p : Nat) : Int) := by omega
        have hQj : (0 : Int) ≤ (((wideB p - 1) : Nat) : Int) := by omega
        have hEl : E.length ≤ 6 := by omega
        have hcl : (compactL (E.take t)).length ≤ 6 := by have := compactL_len (E.take t); rw [List.length_take] at this; omega
        by_cases htl : t < E.length
        · have hr := HRM.out t (wideB p - 1) (by omega) (by omega)
          rw [← HTB.out (wideB p - 1) t (by omega) (by omega)] at hr
          unfold byteAt at hr
          have hle := HL.out t (by omega)
          have HT := Lib.hid (show compactL (E.take (t + 1)) = putL (compactL (E.take t)) (E.getD t 0) by rw [take_snoc E t 0 htl, compactL_snoc])
          rw [hle] at HT
          have hts : t < ((transB p).getD (wideB p - 1) ByteArray.empty).size := by omega
          have i1 := at_list ((transB p).getD (wideB p - 1) ByteArray.empty) t hts
          generalize ((transB p).getD (wideB p - 1) ByteArray.empty).data.toList.getD t 0 = e1 at *
          generalize (transB p).getD (wideB p - 1) ByteArray.empty = s1 at *
          generalize compactL (E.take t) = S at *
          generalize gridG p t (wideB p - 1) = v1 at *
          have hcl1 := UInt8.toNat_lt e1
          have q1 : IntKind.i64.wrap ((e1.toNat : Nat) : Int) = ((e1.toNat : Nat) : Int) := IntWalk.i64_in _ (by omega)
          have q3 : IntKind.i64.wrap (((e1.toNat : Nat) : Int) - 97) = ((e1.toNat : Nat) : Int) - 97 := IntWalk.i64_in _ (by omega)
          have R1 := Lib.hid hr
          have hlt' : decide ((t : Int) < (s1.size : Int)) = true := by rw [decide_eq_true_eq]; omega
          have hwr := hB.size
          clear hr hle hsz hn
          go_wp2_with (go_at_call 35; rw [R1.out]; refine (l2Put_grow w.heap.size ro rc S.length S (v1 : Nat) _ rfl (by omega) hwr HO.out).mono ?_; rintro e w5 ⟨a5, c5, rfl, ho5, hg5, hn5⟩)
          have hB5 := below_of_grownBy' hB hg5 (fun a ha => (owns_lt HO.out a ha).1)
          have HQ5 := Lib.hid (HQ.out.grown hg5 (fun a ha hx => by obtain ⟨a2, ha2, hx2⟩ := ownBlock_is hx.symm; have := HAP.out a2 a ha2 ha; exact this hx2))
          have HAP5 := Lib.hid (HAP.out.push hn5 (fun a ha => by simp only [Option.some.injEq] at ha; subst ha; have hk := World.block_lt_of_cell? _ _ kq; exact hk))
          go_roundw
          case rel => exact ⟨t + 1, a5, c5, by omega, by go_num, by rw [HT.out], Lib.hid (by rw [HT.out]; exact ho5), HQ5, HAP5, hB5⟩
          case measure => simp [intOf]; omega
        · obtain rfl : t = E.length := by omega
          have hlt' : decide ((E.length : Int) < ((((transB p).getD (wideB p - 1) ByteArray.empty).size : Nat) : Int)) = false := by rw [decide_eq_false_iff_not]; omega
          rw [List.take_length] at HO ⊢
          have hge : ((transB p).getD (wideB p - 1) ByteArray.empty).size ≤ E.length := by omega
          have hgi : ((((transB p).getD (wideB p - 1) ByteArray.empty).size : Nat) : Int) ≤ (E.length : Int) := by omega
          generalize (transB p).getD (wideB p - 1) ByteArray.empty = s1 at *
          clear hsz hn
          go_wp2
          go_ret2
          exact ⟨⟨ro, rc, rfl, HO.out⟩, hB⟩
    by_cases h2 : s = 2
    · subst h2
      clear h0 h1'
      have hsd : isSide 2 = true := rfl
      rw [hsd] at HS1
      rw [hsd, if_pos rfl]
      have HL := Lib.hid l2; have HN := Lib.hid n2
      clear l0 l1 l2 l3 n0 n1 n2 n3
      generalize edgeL p 2 = E at *
      have HLI := Lib.hid (fun (h : l6B 2 0 3 = true) (w : World) => (by have := l6In_any 2 0 3 w; rw [h] at this; exact this : Calls Try.prog 33 #[.int .i64 2, .int .i64 0, .int .i64 3] w fun e w' => e = .returned (.bool true) ∧ w' = w))
      have hw1 : (p.length : Int) - 1 = ((p.length - 1 : Nat) : Int) := by omega
      go_enter Try.func13, Try.ntmps13
      go_wp2_with (first
        | (go_at_call 32; refine (specPlanIn_any _ _ _ _ hl hs hca).mono ?_; rw [hp]; rintro e w2 ⟨rfl, hb3⟩)
        | (go_at_call 33; refine (HLI.out HS1.out _).mono ?_; rintro e w3 ⟨rfl, rfl⟩))
      have hB3 := below_step hA0 hA0.size hb3
      have hO3 := ownsRow_below hO0 hb3
      have HQ := Lib.hid (hca.below hb3)
      obtain ⟨W3, hW3⟩ : ∃ W3, W3 = w3 := ⟨_, rfl⟩
      clear hW3 W3
      clear hb3
      clear hca hA0 hO0 hs0
      go_loopw [6, 9] (fun v6 v9 wr => ∃ (t : Nat) (ro : Option Addr) (rc : Nat), t ≤ E.length ∧ v9 = .int .i64 t ∧ v6 = .slice ro (compactL (E.take t)).length rc ∧ Hid (wr.ownsRow w.heap.size 3 1 (.slice ro (compactL (E.take t)).length rc) (compactL (E.take t)).length ((compactL (E.take t)).map (Value.int .i64))) ∧ Hid (CellsAt wr ao ((p).map Value.string)) ∧ Below w.heap.size w wr) (fun _ v9 _ => E.length - (intOf v9).toNat)
      case atStart => exact ⟨0, _, 0, Nat.zero_le _, rfl, rfl, Lib.hid hO3, HQ, hB3⟩
      case round =>
        clear hO3 HQ hB3
        obtain ⟨t, ro, rc, ht, rfl, rfl, HO, HQ, hB⟩ := hrel
        have hn := HN.out
        obtain ⟨b1, off1, hq0, kq⟩ := HQ.out.str (p.length - 1) (by omega)
        subst hq0
        have hsz : ((p).getD (p.length - 1) ByteArray.empty).size = E.length := by rw [HSZ.out _ (by omega), HN.out]
        have hQi : (((p.length - 1) : Nat) : Int) < ((p.length : Nat) : Int) := by omega
        have hQj : (0 : Int) ≤ (((p.length - 1) : Nat) : Int) := by omega
        have hEl : E.length ≤ 6 := by omega
        have hcl : (compactL (E.take t)).length ≤ 6 := by have := compactL_len (E.take t); rw [List.length_take] at this; omega
        by_cases htl : t < E.length
        · have hr := HRM.out (p.length - 1) t (by omega) (by omega)
          unfold byteAt at hr
          have hle := HL.out t (by omega)
          have HT := Lib.hid (show compactL (E.take (t + 1)) = putL (compactL (E.take t)) (E.getD t 0) by rw [take_snoc E t 0 htl, compactL_snoc])
          rw [hle] at HT
          have hts : t < ((p).getD (p.length - 1) ByteArray.empty).size := by omega
          have i1 := at_list ((p).getD (p.length - 1) ByteArray.empty) t hts
          generalize ((p).getD (p.length - 1) ByteArray.empty).data.toList.getD t 0 = e1 at *
          generalize (p).getD (p.length - 1) ByteArray.empty = s1 at *
          generalize compactL (E.take t) = S at *
          generalize gridG p (p.length - 1) t = v1 at *
          have hcl1 := UInt8.toNat_lt e1
          have q1 : IntKind.i64.wrap ((e1.toNat : Nat) : Int) = ((e1.toNat : Nat) : Int) := IntWalk.i64_in _ (by omega)
          have q3 : IntKind.i64.wrap (((e1.toNat : Nat) : Int) - 97) = ((e1.toNat : Nat) : Int) - 97 := IntWalk.i64_in _ (by omega)
          have R1 := Lib.hid hr
          have hlt' : decide ((t : Int) < (s1.size : Int)) = true := by rw [decide_eq_true_eq]; omega
          have hwr := hB.size
          clear hr hle hsz hn
          go_wp2_with (go_at_call 35; rw [R1.out]; refine (l2Put_grow w.heap.size ro rc S.length S (v1 : Nat) _ rfl (by omega) hwr HO.out).mono ?_; rintro e w5 ⟨a5, c5, rfl, ho5, hg5, hn5⟩)
          have hB5 := below_of_grownBy' hB hg5 (fun a ha => (owns_lt HO.out a ha).1)
          have HQ5 := Lib.hid (HC0.out.below hB5)
          go_roundw
          case rel => exact ⟨t + 1, a5, c5, by omega, by go_num, by rw [HT.out], Lib.hid (by rw [HT.out]; exact ho5), HQ5, hB5⟩
          case measure => simp [intOf]; omega
        · obtain rfl : t = E.length := by omega
          have hlt' : decide ((E.length : Int) < ((((p).getD (p.length - 1) ByteArray.empty).size : Nat) : Int)) = false := by rw [decide_eq_false_iff_not]; omega
          rw [List.take_length] at HO ⊢
          have hge : ((p).getD (p.length - 1) ByteArray.empty).size ≤ E.length := by omega
          have hgi : ((((p).getD (p.length - 1) ByteArray.empty).size : Nat) : Int) ≤ (E.length : Int) := by omega
          generalize (p).getD (p.length - 1) ByteArray.empty = s1 at *
          clear hsz hn
          go_wp2
          go_ret2
          exact ⟨⟨ro, rc, rfl, HO.out⟩, hB⟩
    by_cases h3 : s = 3
    · subst h3
      clear h0 h1' h2
      have hsd : isSide 3 = true := rfl
      rw [hsd] at HS1
      rw [hsd, if_pos rfl]
      have HL := Lib.hid l3; have HN := Lib.hid n3
      clear l0 l1 l2 l3 n0 n1 n2 n3
      generalize edgeL p 3 = E at *
      have HLI := Lib.hid (fun (h : l6B 3 0 3 = true) (w : World) => (by have := l6In_any 3 0 3 w; rw [h] at this; exact this : Calls Try.prog 33 #[.int .i64 3, .int .i64 0, .int .i64 3] w fun e w' => e = .returned (.bool true) ∧ w' = w))
      go_enter Try.func13, Try.ntmps13
      go_wp2_with (first
        | (go_at_call 32; refine (specPlanIn_any _ _ _ _ hl hs hca).mono ?_; rw [hp]; rintro e w1 ⟨rfl, hb2⟩; have hc2 := hca.below hb2)
        | (go_at_call 33; refine (HLI.out HS1.out _).mono ?_; rintro e w2 ⟨rfl, rfl⟩)
        | (go_at_call 34; refine (HTR.out _ hc2).mono ?_; rintro e w3 ⟨to, tc, rfl, hown3, hb3⟩))
      have hB3 := below_step (below_step hA0 hA0.size hb2) (below_step hA0 hA0.size hb2).size hb3
      have hO3 := ownsRow_below (ownsRow_below hO0 hb2) hb3
      have HQ := Lib.hid (owns_cells hown3)
      have HAP := Lib.hid (show Apart (some ⟨w.heap.size, 0, none⟩) to from fun a b ha hb => by simp only [Option.some.injEq] at ha; subst ha; show w.heap.size ≠ b.block; have := (owns_lt hown3 b hb).1; have := hb2.size; simp at this; omega)
      obtain ⟨W3, hW3⟩ : ∃ W3, W3 = w3 := ⟨_, rfl⟩
      clear hW3 W3
      clear hb2 hb3 hc2 hown3
      clear hca hA0 hO0 hs0
      go_loopw [6, 9] (fun v6 v9 wr => ∃ (t : Nat) (ro : Option Addr) (rc : Nat), t ≤ E.length ∧ v9 = .int .i64 t ∧ v6 = .slice ro (compactL (E.take t)).length rc ∧ Hid (wr.ownsRow w.heap.size 3 1 (.slice ro (compactL (E.take t)).length rc) (compactL (E.take t)).length ((compactL (E.take t)).map (Value.int .i64))) ∧ Hid (CellsAt wr to ((transB p).map Value.string)) ∧ Hid (Apart ro to) ∧ Below w.heap.size w wr) (fun _ v9 _ => E.length - (intOf v9).toNat)
      case atStart => exact ⟨0, _, 0, Nat.zero_le _, rfl, rfl, Lib.hid hO3, HQ, HAP, hB3⟩
      case round =>
        clear hO3 HQ hB3 HAP
        obtain ⟨t, ro, rc, ht, rfl, rfl, HO, HQ, HAP, hB⟩ := hrel
        have hn := HN.out
        obtain ⟨b1, off1, hq0, kq⟩ := HQ.out.str 0 (by rw [HTL.out]; omega)
        subst hq0
        have hsz : ((transB p).getD 0 ByteArray.empty).size = E.length := by rw [HTS.out _ (by omega), HN.out]
        rw [Nat.add_zero] at kq
        have hQi : ((0 : Nat) : Int) < ((wideB p : Nat) : Int) := by omega
        have hQj : (0 : Int) ≤ ((0 : Nat) : Int) := by omega
        have hEl : E.length ≤ 6 := by omega
        have hcl : (compactL (E.take t)).length ≤ 6 := by have := compactL_len (E.take t); rw [List.length_take] at this; omega
        by_cases htl : t < E.length
        · have hr := HRM.out t 0 (by omega) (by omega)
          rw [← HTB.out 0 t (by omega) (by omega)] at hr
          unfold byteAt at hr
          have hle := HL.out t (by omega)
          have HT := Lib.hid (show compactL (E.take (t + 1)) = putL (compactL (E.take t)) (E.getD t 0) by rw [take_snoc E t 0 htl, compactL_snoc])
          rw [hle] at HT
          have hts : t < ((transB p).getD 0 ByteArray.empty).size := by omega
          have i1 := at_list ((transB p).getD 0 ByteArray.empty) t hts
          generalize ((transB p).getD 0 ByteArray.empty).data.toList.getD t 0 = e1 at *
          generalize (transB p).getD 0 ByteArray.empty = s1 at *
          generalize compactL (E.take t) = S at *
          generalize gridG p t 0 = v1 at *
          have hcl1 := UInt8.toNat_lt e1
          have q1 : IntKind.i64.wrap ((e1.toNat : Nat) : Int) = ((e1.toNat : Nat) : Int) := IntWalk.i64_in _ (by omega)
          have q3 : IntKind.i64.wrap (((e1.toNat : Nat) : Int) - 97) = ((e1.toNat : Nat) : Int) - 97 := IntWalk.i64_in _ (by omega)
          have R1 := Lib.hid hr
          have hlt' : decide ((t : Int) < (s1.size : Int)) = true := by rw [decide_eq_true_eq]; omega
          have hwr := hB.size
          clear hr hle hsz hn
          go_wp2_with (go_at_call 35; rw [R1.out]; refine (l2Put_grow w.heap.size ro rc S.length S (v1 : Nat) _ rfl (by omega) hwr HO.out).mono ?_; rintro e w5 ⟨a5, c5, rfl, ho5, hg5, hn5⟩)
          have hB5 := below_of_grownBy' hB hg5 (fun a ha => (owns_lt HO.out a ha).1)
          have HQ5 := Lib.hid (HQ.out.grown hg5 (fun a ha hx => by obtain ⟨a2, ha2, hx2⟩ := ownBlock_is hx.symm; have := HAP.out a2 a ha2 ha; exact this hx2))
          have HAP5 := Lib.hid (HAP.out.push hn5 (fun a ha => by simp only [Option.some.injEq] at ha; subst ha; have hk := World.block_lt_of_cell? _ _ kq; exact hk))
          go_roundw
          case rel => exact ⟨t + 1, a5, c5, by omega, by go_num, by rw [HT.out], Lib.hid (by rw [HT.out]; exact ho5), HQ5, HAP5, hB5⟩
          case measure => simp [intOf]; omega
        · obtain rfl : t = E.length := by omega
          have hlt' : decide ((E.length : Int) < ((((transB p).getD 0 ByteArray.empty).size : Nat) : Int)) = false := by rw [decide_eq_false_iff_not]; omega
          rw [List.take_length] at HO ⊢
          have hge : ((transB p).getD 0 ByteArray.empty).size ≤ E.length := by omega
          have hgi : ((((transB p).getD 0 ByteArray.empty).size : Nat) : Int) ≤ (E.length : Int) := by omega
          generalize (transB p).getD 0 ByteArray.empty = s1 at *
          clear hsz hn
          go_wp2
          go_ret2
          exact ⟨⟨ro, rc, rfl, HO.out⟩, hB⟩
    have hsd : isSide s = false := by unfold isSide; rw [decide_eq_false h0, decide_eq_false h1', decide_eq_false h2, decide_eq_false h3]; rfl
    rw [hsd] at HS1
    rw [hsd, if_neg (by decide)]
    have HLI := Lib.hid (fun (h : l6B s 0 3 = false) (w : World) => (by have := l6In_any s 0 3 w; rw [h] at this; exact this : Calls Try.prog 33 #[.int .i64 s, .int .i64 0, .int .i64 3] w fun e w' => e = .returned (.bool false) ∧ w' = w))
    clear h0 h1' h2 h3 l0 l1 l2 l3 n0 n1 n2 n3
    go_enter Try.func13, Try.ntmps13
    go_wp2_with (first
      | (go_at_call 32; refine (specPlanIn_any _ _ _ _ hl hs hca).mono ?_; rw [hp]; rintro e w2 ⟨rfl, hb3⟩)
      | (go_at_call 33; refine (HLI.out HS1.out _).mono ?_; rintro e w3 ⟨rfl, rfl⟩))
    go_ret2
    exact ⟨⟨_, 0, rfl, ownsRow_below hO0 hb3⟩, below_step hA0 hA0.size hb3⟩

end Go.Proofs.Ytjdlapcikpmdgaa
