/-
  The rooms of both sides of a wall: the model's answer. (Walks.)
-/
import Derived.Test.YtpgcpmfemcfoaaaOutlO
import Derived.Test.YtpgcpmfemcfoaaaLongO
import Derived.StillTailTactics

namespace Go.Proofs.Ytpgcpmfemcfoaaa
open Go.RowKit

theorem PlanP.room {p : List ByteArray} (hp : PlanP p) {i j : Nat} (hi : i < p.length) (hj : j < wideB p) : ((byteAt p i j).toNat : Int) - 97 = ((gridG p i j : Nat) : Int) := by
  have h1 := hp.grid.letter hi hj
  have h2 := markN_lt p i j
  rw [h1, UInt8.toNat_ofNat', ← hp.mark i j hi hj]
  omega

theorem putL_no {l : List Int} {x : Int} (h : ¬ l.getLast? = some x) : putL l x = l ++ [x] := if_neg h
theorem putL_yes {l : List Int} {x : Int} (h : l.getLast? = some x) : putL l x = l := if_pos h
theorem last_getD {l : List Int} (h : 0 < l.length) : l.getLast? = some (l.getD (l.length - 1) 0) := by
  rw [List.getLast?_eq_getElem?, List.getD_eq_getElem?_getD, List.getElem?_eq_getElem (by omega)]; rfl

set_option maxRecDepth 100000 in
set_option maxHeartbeats 1000000 in
theorem l2Put_any (base : Nat) (ao : Option Addr) (c n : Nat) (l : List Int) (x : Int) (w : World) (hn : l.length = n) (hl : n ≤ 1000) (hb : base ≤ w.heap.size) (hown : w.ownsRow base 3 1 (.slice ao n c) n (l.map (Value.int .i64))) :
    Calls Try.prog 147 #[.slice ao n c, .int .i64 x] w
      fun e w' => ∃ ao' c', e = .returned (.slice ao' (putL l x).length c') ∧ w'.ownsRow base 3 1 (.slice ao' (putL l x).length c') (putL l x).length ((putL l x).map (Value.int .i64)) ∧ Below base w w' ∧
        (∀ {bo : Option Addr} {m k : Nat} {zs : List Value}, w.ownsRow base 3 1 (.slice bo m k) m zs → Apart ao bo → w'.ownsRow base 3 1 (.slice bo m k) m zs ∧ Apart ao' bo) := by
  obtain ⟨im, hmi, hmz, hm1, hm2⟩ := info_parts Try.infoNum
  subst hn
  have h63 : l.length + 1 ≤ maxLen := by unfold maxLen; omega
  have h64 : (l.length + 1) * 8 ≤ 140737488355328 := by omega
  have hlt := owns_lt hown
  by_cases h0 : 0 < l.length
  · have hd : decide (0 < (l.length : Int)) = true := by rw [decide_eq_true_eq]; omega
    obtain ⟨b, off, rfl, k0⟩ := (owns_cells hown).int (l.length - 1) (by omega)
    have hl1 : (l.length : Int) - 1 = ((l.length - 1 : Nat) : Int) := by omega
    have hl2 : ((l.length - 1 : Nat) : Int) < (l.length : Int) := by omega
    have hla := last_getD h0
    generalize l.getD (l.length - 1) 0 = y at *
    by_cases hxy : y = x
    · have hb2 : (y == x) = true := by rw [hxy]; simp
      rw [putL_yes (by rw [hla, hxy])]
      clear hxy hla
      go_enter Try.func147, Try.ntmps147
      go_wp2
      go_ret
      exact ⟨_, c, rfl, hown, Below.refl _ _, fun h1 h2 => ⟨h1, h2⟩⟩
    · have hb2 : (y == x) = false := by rw [beq_eq_false_iff_ne]; exact hxy
      have HP := Lib.hid (putL_no (l := l) (x := x) (by rw [hla]; intro h; exact hxy (Option.some.inj h)))
      rw [HP.out]
      clear hxy hla
      go_enter Try.func147, Try.ntmps147
      go_wp2_with (at_builtin; refine wpList_push _ rfl _ _ 32 rfl base 3 im (.int .i64 0) 8 Try.underlying32 hmi hmz hm1 hm2 rfl (some ⟨b, off, none⟩) l.length c _ rfl (hown.alloc _) _ _ _ rfl (cell_new _ _ _) rfl h63 h64 (by simp; omega) ?_; intro ao2 c2 w2 ho2 hg2 hnew2)
      go_ret
      exact ⟨ao2, c2, by rw [List.length_append]; rfl, by rw [List.length_append, List.map_append]; exact ho2, below_push (Below.refl _ _) hb hg2 (fun a ha => (hlt a ha).1), fun h1 h2 => ⟨owns_push_other h1 hg2 h2.symm, h2.push hnew2 (fun a ha => by have := (owns_lt h1 a ha).2; simp; omega)⟩⟩
  · have hd : decide (0 < (l.length : Int)) = false := by rw [decide_eq_false_iff_not]; omega
    have hl0 : l = [] := List.eq_nil_of_length_eq_zero (by omega)
    have HP := Lib.hid (putL_no (l := l) (x := x) (by rw [hl0]; simp))
    rw [HP.out]
    clear hl0
    go_enter Try.func147, Try.ntmps147
    go_wp2_with (at_builtin; refine wpList_push _ rfl _ _ 32 rfl base 3 im (.int .i64 0) 8 Try.underlying32 hmi hmz hm1 hm2 rfl ao l.length c _ rfl (hown.alloc _) _ _ _ rfl (cell_new _ _ _) rfl h63 h64 (by simp; omega) ?_; intro ao2 c2 w2 ho2 hg2 hnew2)
    go_ret
    exact ⟨ao2, c2, by rw [List.length_append]; rfl, by rw [List.length_append, List.map_append]; exact ho2, below_push (Below.refl _ _) hb hg2 (fun a ha => (hlt a ha).1), fun h1 h2 => ⟨owns_push_other h1 hg2 h2.symm, h2.push hnew2 (fun a ha => by have := (owns_lt h1 a ha).2; simp; omega)⟩⟩

set_option maxRecDepth 100000 in
set_option maxHeartbeats 4000000 in
theorem l2Sides_any (ao : Option Addr) (cap : Nat) (p : List ByteArray) (X : Wl) (gw cw : Nat) (w : World) (hp : planB p = true) (hX : X ∈ wallsP p) (hc : CellsAt w ao (p.map Value.string))
    (k0 : w.cell? ⟨gw, 0, none⟩ = some (.int .i64 (X.way : Nat))) (k1 : w.cell? ⟨gw, 1, none⟩ = some (.int .i64 (X.line : Nat))) (k2 : w.cell? ⟨gw, 2, none⟩ = some (.int .i64 (X.first : Nat))) (k3 : w.cell? ⟨gw, 3, none⟩ = some (.int .i64 (X.long : Nat))) :
    Calls Try.prog 139 #[.slice ao p.length cap, .slice (some ⟨gw, 0, none⟩) 4 cw] w
      fun e w' => TwoRet w.heap.size (compactL (cellsA (gridG p) X X.long)) (compactL (cellsB' (gridG p) X X.long)) e w' ∧ Below w.heap.size w w' := by
  have hP := planP_of hp
  obtain ⟨hl1, hl2, hl3, hway⟩ := wallsP_mem hX
  rw [wallsP_yes hp] at hX
  obtain ⟨_, _, hx1, _, hx2, _⟩ := wallsG_mem hX
  have hsz : ∀ i, i < p.length → (p.getD i ByteArray.empty).size = wideB p := hP.grid.even
  have h6 := hP.grid.h6; have w6 := hP.grid.w6
  have HSZ := Lib.hid hsz; clear hsz
  have HRM := Lib.hid (fun i j (hi : i < p.length) (hj : j < wideB p) => hP.room hi hj)
  have HA := Lib.hid (fun t => cellsA_succ (gridG p) X t); have HB := Lib.hid (fun t => cellsB_succ (gridG p) X t)
  have HAL := Lib.hid (fun t => Nat.le_trans (compactL_len (cellsA (gridG p) X t)) (Nat.le_of_eq (cellsA_len (gridG p) X t)))
  have HBL := Lib.hid (fun t => Nat.le_trans (compactL_len (cellsB' (gridG p) X t)) (Nat.le_of_eq (cellsB_len (gridG p) X t)))
  have HCA := Lib.hid (fun t => show compactL (cellsA (gridG p) X (t + 1)) = putL (compactL (cellsA (gridG p) X t)) ((sideA (gridG p) X.way X.line (X.first + t) : Nat) : Int) by rw [cellsA_succ, compactL_snoc])
  have HCB := Lib.hid (fun t => show compactL (cellsB' (gridG p) X (t + 1)) = putL (compactL (cellsB' (gridG p) X t)) ((sideB (gridG p) X.way X.line (X.first + t) : Nat) : Int) by rw [cellsB_succ, compactL_snoc])
  have HC := Lib.hid hc
  have HK0 := Lib.hid k0; have HK1 := Lib.hid k1; have HK2 := Lib.hid k2; have HK3 := Lib.hid k3
  clear hc hX
  have kk2 : ((w.alloc (.cells #[] 3)).alloc (.cells #[] 3)).cell? ⟨gw, 2, none⟩ = some (.int .i64 (X.first : Nat)) := cell_below (cell_below k2 (below_alloc _ _)) (below_alloc _ _)
  clear k0 k1 k2 k3
  have hB0 : Below w.heap.size w ((w.alloc (.cells #[] 3)).alloc (.cells #[] 3)) := ((Below.refl _ w).alloc (Nat.le_refl _) _).alloc (by simp) _
  have ho1 : ((w.alloc (.cells #[] 3)).alloc (.cells #[] 3)).ownsRow w.heap.size 3 1 (.slice (some ⟨w.heap.size, 0, none⟩) 0 0) 0 [] := (World.ownsRow_made w #[] 0 (Nat.le_refl _) (Nat.zero_le _) rfl).alloc _
  have ho2 : ((w.alloc (.cells #[] 3)).alloc (.cells #[] 3)).ownsRow w.heap.size 3 1 (.slice (some ⟨w.heap.size + 1, 0, none⟩) 0 0) 0 [] := by
    have := World.ownsRow_made (base := w.heap.size) (e := 3) (size := 1) (w.alloc (.cells #[] 3)) #[] 0 (by simp) (Nat.zero_le _) rfl
    simpa using this
  go_enter Try.func139, Try.ntmps139
  go_wp2
  go_loopw [6, 7, 8] (fun v6 v7 v8 wr => ∃ (t : Nat) (a1 a2 : Option Addr) (c1 c2 : Nat), t ≤ X.long ∧ v8 = .int .i64 ((X.first + t : Nat) : Int) ∧ v6 = .slice a1 (compactL (cellsA (gridG p) X t)).length c1 ∧ v7 = .slice a2 (compactL (cellsB' (gridG p) X t)).length c2 ∧
    wr.ownsRow w.heap.size 3 1 (.slice a1 (compactL (cellsA (gridG p) X t)).length c1) (compactL (cellsA (gridG p) X t)).length ((compactL (cellsA (gridG p) X t)).map (Value.int .i64)) ∧
    wr.ownsRow w.heap.size 3 1 (.slice a2 (compactL (cellsB' (gridG p) X t)).length c2) (compactL (cellsB' (gridG p) X t)).length ((compactL (cellsB' (gridG p) X t)).map (Value.int .i64)) ∧ Apart a1 a2 ∧ Below w.heap.size w wr) (fun _ _ v8 _ => X.first + X.long - (intOf v8).toNat)
  case atStart => exact ⟨0, _, _, 0, 0, Nat.zero_le _, rfl, rfl, rfl, ho1, ho2, (fun a b ha hb => by cases ha; cases hb; simp), hB0⟩
  case round =>
    clear ho1 ho2 hB0 kk2
    obtain ⟨t, a1, a2, c1, c2, ht, rfl, rfl, rfl, ho1, ho2, hap, hB⟩ := hrel
    have k0 := cell_below HK0.out hB; have k1 := cell_below HK1.out hB; have k2 := cell_below HK2.out hB; have k3 := cell_below HK3.out hB
    have hcr := HC.out.below hB
    have hwr := hB.size
    by_cases htl : t < X.long
    · have hlt' : decide (((X.first + t : Nat) : Int) < (X.first : Int) + (X.long : Int)) = true := by rw [decide_eq_true_eq]; omega
      have HCAt := Lib.hid (HCA.out t); have HCBt := Lib.hid (HCB.out t)
      have hal := HAL.out t; have hbl := HBL.out t
      obtain ⟨i, hii⟩ : ∃ i, X.first + t = i := ⟨_, rfl⟩
      rw [hii] at hlt' HCAt HCBt ⊢
      have HII := Lib.hid hii
      have hxi : i < 6 := by omega
      have hii1 : X.first ≤ i := by omega
      have hii2 : i < X.first + X.long := by omega
      clear hii
      rcases (show X.way = 0 ∨ X.way = 1 by omega) with hw | hw
      · have hi : i < p.length := by rw [hw] at hx2; exact Nat.lt_of_lt_of_le (by omega) hx2
        have hln : X.line < wideB p := by rw [hw] at hx1; exact hx1
        obtain ⟨b1, off1, rfl, hcs⟩ := HC.out.str i hi
        have hs1 : X.line < (p.getD i ByteArray.empty).size := by rw [HSZ.out _ hi]; exact hln
        have hs2 : X.line - 1 < (p.getD i ByteArray.empty).size := by omega
        have i1 := at_list (p.getD i ByteArray.empty) X.line hs1
        have i2 := at_list (p.getD i ByteArray.empty) (X.line - 1) hs2
        have r1 := HRM.out i X.line hi hln
        have r2 := HRM.out i (X.line - 1) hi (by omega)
        unfold byteAt at r1 r2
        have hSA : sideA (gridG p) X.way X.line i = gridG p i (X.line - 1) := by unfold sideA; rw [if_pos hw]
        have hSB : sideB (gridG p) X.way X.line i = gridG p i X.line := by unfold sideB; rw [if_pos hw]
        rw [hSA] at HCAt
        rw [hSB] at HCBt
        clear hSA hSB
        generalize (p.getD i ByteArray.empty).data.toList.getD X.line 0 = e1 at *
        generalize (p.getD i ByteArray.empty).data.toList.getD (X.line - 1) 0 = e2 at *
        generalize p.getD i ByteArray.empty = s at *
        generalize gridG p i (X.line - 1) = v2 at *
        generalize gridG p i X.line = v1 at *
        have hcl1 := UInt8.toNat_lt e1
        have hcl2 := UInt8.toNat_lt e2
        have HCS := Lib.hid hcs
        have kc := cell_below hcs hB
        have hl1' : (X.line : Int) - 1 = ((X.line - 1 : Nat) : Int) := by omega
        have hb0 : ((X.way : Int) == 0) = true := by rw [hw]; rfl
        have q0 : IntKind.i64.wrap ((X.line - 1 : Nat) : Int) = ((X.line - 1 : Nat) : Int) := IntWalk.i64_in _ (by omega)
        have q1 : IntKind.i64.wrap ((e1.toNat : Nat) : Int) = ((e1.toNat : Nat) : Int) := IntWalk.i64_in _ (by omega)
        have q2 : IntKind.i64.wrap ((e2.toNat : Nat) : Int) = ((e2.toNat : Nat) : Int) := IntWalk.i64_in _ (by omega)
        have q3 : IntKind.i64.wrap (((e1.toNat : Nat) : Int) - 97) = ((e1.toNat : Nat) : Int) - 97 := IntWalk.i64_in _ (by omega)
        have q4 : IntKind.i64.wrap (((e2.toNat : Nat) : Int) - 97) = ((e2.toNat : Nat) : Int) - 97 := IntWalk.i64_in _ (by omega)
        have R1 := Lib.hid r1; have R2 := Lib.hid r2
        clear r1 r2
        have hit : (i : Int) < (p.length : Int) := by omega
        clear hw hcs
        generalize compactL (cellsA (gridG p) X t) = S at *
        generalize compactL (cellsB' (gridG p) X t) = T at *
        go_wp2
        go_quiet (fail)
        have hB1 := hB.trans (below_drewN w.heap.size wr nq)
        have ho1' : (wr.drewN nq).ownsRow w.heap.size 3 1 (.slice a1 S.length c1) S.length (S.map (Value.int .i64)) := ho1
        have ho2' : (wr.drewN nq).ownsRow w.heap.size 3 1 (.slice a2 T.length c2) T.length (T.map (Value.int .i64)) := ho2
        have j0 : (wr.drewN nq).cell? ⟨gw, 0, none⟩ = some (.int .i64 (X.way : Nat)) := k0
        have j1 : (wr.drewN nq).cell? ⟨gw, 1, none⟩ = some (.int .i64 (X.line : Nat)) := k1
        have jc : (wr.drewN nq).cell? ⟨b1, off1 + i, none⟩ = some (.string s) := kc
        clear k0 k1 k2 k3 kc ho1 ho2 hB hwr hcr
        generalize wr.drewN nq = W5 at *
        go_wp2
        refine wp_region_still_tail 12 (by kernel_rfl) (by kernel_rfl) ?_
        replace hB1 : Below w.heap.size w ({ W5 with drawn := W5.drawn + 1 } : World) := hB1.trans (below_drewN w.heap.size W5 1)
        replace ho1' : World.ownsRow ({ W5 with drawn := W5.drawn + 1 } : World) w.heap.size 3 1 (.slice a1 S.length c1) S.length (S.map (Value.int .i64)) := ho1'
        replace ho2' : World.ownsRow ({ W5 with drawn := W5.drawn + 1 } : World) w.heap.size 3 1 (.slice a2 T.length c2) T.length (T.map (Value.int .i64)) := ho2'
        replace j1 : World.cell? ({ W5 with drawn := W5.drawn + 1 } : World) ⟨gw, 1, none⟩ = some (.int .i64 (X.line : Nat)) := j1
        replace jc : World.cell? ({ W5 with drawn := W5.drawn + 1 } : World) ⟨b1, off1 + i, none⟩ = some (.string s) := jc
        generalize ({ W5 with drawn := W5.drawn + 1 } : World) = W6 at *
        simp only [List.take_succ_cons, List.take_zero, List.drop_succ_cons, List.drop_zero]
        repeat still_step
        refine wpStill_nil ?_
        have hwr6 := hB1.size
        go_wp2_with (go_at_call 147; rw [R2.out]; refine (l2Put_any w.heap.size a1 c1 S.length S (v2 : Nat) _ rfl (by omega) hwr6 ho1').mono ?_; rintro e w3 ⟨a3, c3, rfl, ho3, hb3, hkeep3⟩)
        obtain ⟨ho4, hap4⟩ := hkeep3 ho2' hap
        have hB3 := hB1.trans hb3
        have m1 := cell_below HK1.out hB3
        have mc := cell_below HCS.out hB3
        clear hkeep3 ho1' ho2' j0 j1 jc hB1 hwr6 hb3
        refine wp_region_still_tail 11 (by kernel_rfl) (by kernel_rfl) ?_
        replace hB3 : Below w.heap.size w ({ w3 with drawn := w3.drawn + 1 } : World) := hB3.trans (below_drewN w.heap.size w3 1)
        replace ho3 : World.ownsRow ({ w3 with drawn := w3.drawn + 1 } : World) w.heap.size 3 1 (.slice a3 (putL S (v2 : Nat)).length c3) (putL S (v2 : Nat)).length ((putL S (v2 : Nat)).map (Value.int .i64)) := ho3
        replace ho4 : World.ownsRow ({ w3 with drawn := w3.drawn + 1 } : World) w.heap.size 3 1 (.slice a2 T.length c2) T.length (T.map (Value.int .i64)) := ho4
        replace m1 : World.cell? ({ w3 with drawn := w3.drawn + 1 } : World) ⟨gw, 1, none⟩ = some (.int .i64 (X.line : Nat)) := m1
        replace mc : World.cell? ({ w3 with drawn := w3.drawn + 1 } : World) ⟨b1, off1 + i, none⟩ = some (.string s) := mc
        generalize ({ w3 with drawn := w3.drawn + 1 } : World) = W7 at *
        simp only [List.take_succ_cons, List.take_zero, List.drop_succ_cons, List.drop_zero]
        repeat still_step
        refine wpStill_nil ?_
        have hwr7 := hB3.size
        go_wp2_with (go_at_call 147; rw [R1.out]; refine (l2Put_any w.heap.size a2 c2 T.length T (v1 : Nat) _ rfl (by omega) hwr7 ho4).mono ?_; rintro e w8 ⟨a5, c5, rfl, ho5, hb5, hkeep5⟩)
        obtain ⟨ho6, hap6⟩ := hkeep5 ho3 hap4.symm
        have hB5 := hB3.trans hb5
        go_roundw
        case rel => exact ⟨t + 1, a3, a5, c3, c5, by omega, by rw [show X.first + (t + 1) = i + 1 from by have := HII.out; omega]; go_num, by rw [HCAt.out], by rw [HCBt.out], by rw [HCAt.out]; exact ho6, by rw [HCBt.out]; exact ho5, hap6.symm, hB5⟩
        case measure => simp [intOf]; omega
      · have hi : i < wideB p := by rw [hw] at hx2; exact Nat.lt_of_lt_of_le (by omega) hx2
        have hln : X.line < p.length := by rw [hw] at hx1; exact hx1
        obtain ⟨b1, off1, rfl, hcs⟩ := HC.out.str X.line hln
        obtain ⟨b2, off2, he, hcs2⟩ := HC.out.str (X.line - 1) (by omega)
        simp only [Option.some.injEq, Addr.mk.injEq, and_true] at he
        obtain ⟨rfl, rfl⟩ := he
        have hs1 : i < (p.getD X.line ByteArray.empty).size := by rw [HSZ.out _ hln]; exact hi
        have hs2 : i < (p.getD (X.line - 1) ByteArray.empty).size := by rw [HSZ.out _ (by omega)]; exact hi
        have i1 := at_list (p.getD X.line ByteArray.empty) i hs1
        have i2 := at_list (p.getD (X.line - 1) ByteArray.empty) i hs2
        have r1 := HRM.out X.line i hln hi
        have r2 := HRM.out (X.line - 1) i (by omega) hi
        unfold byteAt at r1 r2
        have hSA : sideA (gridG p) X.way X.line i = gridG p (X.line - 1) i := by unfold sideA; rw [if_neg (by omega)]
        have hSB : sideB (gridG p) X.way X.line i = gridG p X.line i := by unfold sideB; rw [if_neg (by omega)]
        rw [hSA] at HCAt
        rw [hSB] at HCBt
        clear hSA hSB
        generalize (p.getD X.line ByteArray.empty).data.toList.getD i 0 = e1 at *
        generalize (p.getD (X.line - 1) ByteArray.empty).data.toList.getD i 0 = e2 at *
        generalize p.getD X.line ByteArray.empty = s1 at *
        generalize p.getD (X.line - 1) ByteArray.empty = s2 at *
        generalize gridG p (X.line - 1) i = v2 at *
        generalize gridG p X.line i = v1 at *
        have hcl1 := UInt8.toNat_lt e1
        have hcl2 := UInt8.toNat_lt e2
        have HCS := Lib.hid hcs; have HCS2 := Lib.hid hcs2
        have kc := cell_below hcs hB
        have kd := cell_below hcs2 hB
        have hl1' : (X.line : Int) - 1 = ((X.line - 1 : Nat) : Int) := by omega
        have hb0 : ((X.way : Int) == 0) = false := by rw [hw]; rfl
        have hit : ((X.line - 1 : Nat) : Int) < (p.length : Int) := by omega
        have hit2 : (X.line : Int) < (p.length : Int) := by omega
        have R1 := Lib.hid r1; have R2 := Lib.hid r2
        clear r1 r2
        clear hw hcs hcs2
        generalize compactL (cellsA (gridG p) X t) = S at *
        generalize compactL (cellsB' (gridG p) X t) = T at *
        go_wp2
        go_quiet (fail)
        have hB1 := hB.trans (below_drewN w.heap.size wr nq)
        have ho1' : (wr.drewN nq).ownsRow w.heap.size 3 1 (.slice a1 S.length c1) S.length (S.map (Value.int .i64)) := ho1
        have ho2' : (wr.drewN nq).ownsRow w.heap.size 3 1 (.slice a2 T.length c2) T.length (T.map (Value.int .i64)) := ho2
        have j0 : (wr.drewN nq).cell? ⟨gw, 0, none⟩ = some (.int .i64 (X.way : Nat)) := k0
        have j1 : (wr.drewN nq).cell? ⟨gw, 1, none⟩ = some (.int .i64 (X.line : Nat)) := k1
        have jc : (wr.drewN nq).cell? ⟨b1, off1 + X.line, none⟩ = some (.string s1) := kc
        have jd : (wr.drewN nq).cell? ⟨b1, off1 + (X.line - 1), none⟩ = some (.string s2) := kd
        clear k0 k1 k2 k3 kc kd ho1 ho2 hB hwr hcr
        generalize wr.drewN nq = W5 at *
        have hwr6 := hB1.size
        go_wp2_with (first
          | (go_at_call 147; rw [R1.out]; refine (l2Put_any w.heap.size a2 c2 T.length T (v1 : Nat) _ rfl (by omega) hwr7 ho4).mono ?_; rintro e w8 ⟨a5, c5, rfl, ho5, hb5, hkeep5⟩)
          | (go_at_call 147; rw [R2.out]; refine (l2Put_any w.heap.size a1 c1 S.length S (v2 : Nat) _ rfl (by omega) hwr6 ho1').mono ?_; rintro e w3 ⟨a3, c3, rfl, ho3, hb3, hkeep3⟩; obtain ⟨ho4, hap4⟩ := hkeep3 ho2' hap; have hB3 := hB1.trans hb3; have hwr7 := hB3.size; have m1 := cell_below HK1.out hB3; have mc := cell_below HCS.out hB3))
        obtain ⟨ho6, hap6⟩ := hkeep5 ho3 hap4.symm
        have hB5 := hB3.trans hb5
        go_roundw
        case rel => exact ⟨t + 1, a3, a5, c3, c5, by omega, by rw [show X.first + (t + 1) = i + 1 from by have := HII.out; omega]; go_num, by rw [HCAt.out], by rw [HCBt.out], by rw [HCAt.out]; exact ho6, by rw [HCBt.out]; exact ho5, hap6.symm, hB5⟩
        case measure => simp [intOf]; omega
    · obtain rfl : t = X.long := by omega
      have hlt' : decide (((X.first + X.long : Nat) : Int) < (X.first : Int) + (X.long : Int)) = false := by rw [decide_eq_false_iff_not]; omega
      go_wp2
      go_quiet (fail)
      go_wp2
      go_ret2
      exact ⟨⟨a1, c1, a2, c2, rfl, ho1, ho2, hap⟩, hB.trans (below_drewN _ _ _)⟩

end Go.Proofs.Ytpgcpmfemcfoaaa
