/-
  Cuttable plans counted by their rooms: the model. (Walks.)
-/
import Derived.Test.YtlgbefmgpmdolaaCtnQ
import Derived.Test.YtlgbefmgpmdolaaCtnCQ

namespace Go.Proofs.Ytlgbefmgpmdolaa
open Go.RowKit

set_option maxRecDepth 100000 in
set_option maxHeartbeats 8000000 in
theorem l10Counts2_any {h wd : Nat} (d1 : 1 ≤ h) (d6 : h ≤ 6) (e1 : 1 ≤ wd) (e6 : wd ≤ 6) (h9 : h * wd ≤ 9) (w : World) :
    Calls Try.prog 31 #[.int .i64 (h : Int), .int .i64 (wd : Int), .int .i64 2] w
      fun e w' => ∃ ro rc, e = .returned (.slice ro (intsL (cntL (fun p => (treeP p).isSome) h wd)).length rc) ∧ w'.ownsRow w.heap.size 3 1 (.slice ro (intsL (cntL (fun p => (treeP p).isSome) h wd)).length rc) (intsL (cntL (fun p => (treeP p).isSome) h wd)).length ((intsL (cntL (fun p => (treeP p).isSome) h wd)).map (Value.int .i64)) ∧ Below w.heap.size w w' := by
  obtain ⟨im, hmi, hmz, hm1, hm2⟩ := info_parts Try.infoNum
  have HPS := Lib.hid (fun w => l5Plans_any d1 d6 e6 h9 w)
  have HLF := Lib.hid (fun i hi => lstT_leaf d1 d6 e1 e6 h9 (i := i) hi)
  have HRM := Lib.hid (fun i hi => leaf_rooms d1 d6 e1 e6 h9 (i := i) hi)
  have HAT := Lib.hid (fun w g us (A : AllAt w g us h wd) i hi => A.at (i := i) hi)
  have HLE := Lib.hid (show (lstT h wd (allZ h wd)).length ≤ 1000000 by rw [lstT_len]; exact allZ_few d6 e6 h9)
  have HFE := Lib.hid (show cntTL (fun p => (treeP p).isSome) (h * wd + 1) (lstT h wd (allZ h wd)) = cntL (fun p => (treeP p).isSome) h wd from cntQ_texts d1 d6 e1 e6 h9)
  have HL2 := Lib.hid (cntL_len (fun p => (treeP p).isSome) h wd)
  have HLL := Lib.hid (intsL_len (cntL (fun p => (treeP p).isSome) h wd))
  have HTK := Lib.hid (fun i (hi : i < (lstT h wd (allZ h wd)).length) => take_succ_getD (lstT h wd (allZ h wd)) i [] hi)
  generalize cntL (fun p => (treeP p).isSome) h wd = T at *
  have hmc : ((h * wd : Nat) : Int) = (h : Int) * (wd : Int) := Int.natCast_mul _ _
  have hm9 : h * wd ≤ 36 := by omega
  have HMC := Lib.hid hmc
  clear hmc
  go_enter Try.func31, Try.ntmps31
  go_upto_region 2 with (at_make; refine wpList_make_full _ rfl _ _ 22 rfl w.heap.size 3 im (.int .i64 0) 1 Try.underlying22 hmi hmz hm1 .i64 .i64 _ _ (h * wd + 1) (by simp only [go_sem]; rw [← HMC.out]; rfl) (by simp only [go_sem]; rw [← HMC.out]; rfl) rfl rfl ?d2 ?d3 (Nat.le_refl _) ?_; rotate_left 2; intro w5 ho5 hg5)
  case d2 => rw [hm2]; omega
  case d3 => unfold maxLen; omega
  have hz := held_zeros ho5
  rw [← cntTL_nil (fun p => (treeP p).isSome) (h * wd + 1)] at hz
  have hb5 : Below w.heap.size w w5 := below_of_grownBy hg5 (Nat.le_refl _) (fun k hk => by cases hk)
  have hlz := hz.lt
  clear ho5 hg5
  go_wp2_with (go_at_call 39; refine (HPS.out _).mono ?_; rintro e w3 ⟨⟨g, c, us, rfl, hr, hpv⟩, hb3⟩)
  have hA : AllAt w3 g us h wd := ⟨(own_at hr).2.1, hpv⟩
  have hgG : g ≠ w.heap.size := by have := (own_at hr).2.2; omega
  have hz3 := hz.below hb3
  have hB3 := below_step hb5 hb5.size hb3
  clear hr hpv hz hb5 hb3 HPS hlz
  obtain ⟨G, hG⟩ : ∃ G, G = w.heap.size := ⟨_, rfl⟩
  have hwG : w.heap.size ≤ G := by omega
  rw [← hG] at hz3 hgG ⊢
  clear hG
  generalize hLL : lstT h wd (allZ h wd) = L at *
  have HLN := Lib.hid hLL; clear hLL
  generalize hN : h * wd = N at *
  clear hN
  have hLle := HLE.out
  go_loopw [9] (fun vi wr => ∃ i : Nat, i ≤ L.length ∧ vi = .int .i64 (i : Int) ∧ HeldB wr G 3 (setsV (cntTL (fun p => (treeP p).isSome) (N + 1) (L.take i))) ∧ AllAt wr g us h wd ∧ Below w.heap.size w wr) (fun vi _ => L.length - (intOf vi).toNat)
  case atStart => exact ⟨0, Nat.zero_le _, rfl, hz3, hA, hB3⟩
  case round =>
    clear hz3 hA hB3
    obtain ⟨i, hi, rfl, hz, hA, hB⟩ := hrel
    by_cases hlt : i < L.length
    · have hlt' : decide ((i : Int) < (L.length : Int)) = true := by rw [decide_eq_true_eq]; omega
      obtain ⟨hqp, hqh⟩ := HLF.out i hlt
      have hqr := HRM.out i hlt
      obtain ⟨bo, cc, hcell, hqc⟩ := HAT.out wr g us hA i hlt
      have HT2 := HTK.out i hlt
      obtain ⟨sq1, sq2⟩ := plan_small hqp
      have hlen := cntTL_len (fun p => (treeP p).isSome) (N + 1) (L.take i)
      have hcle := cntT_le (fun p => (treeP p).isSome) (L.take i) (gridR (L.getD i []))
      rw [List.length_take] at hcle
      have hc6 : cntT (fun p => (treeP p).isSome) (L.take i) (gridR (L.getD i [])) ≤ 1000000 := by omega
      have hgd : (cntTL (fun p => (treeP p).isSome) (N + 1) (L.take i)).getD (gridR (L.getD i [])) 0 = cntT (fun p => (treeP p).isSome) (L.take i) (gridR (L.getD i [])) := cntTL_at _ (by omega)
      have HYES := Lib.hid (fun hq => cntTL_put (q := (fun p => (treeP p).isSome)) (n := N + 1) (L.take i) (p := L.getD i []) hq)
      have HNO := Lib.hid (fun hq => cntTL_no (q := (fun p => (treeP p).isSome)) (N + 1) (L.take i) (p := L.getD i []) hq)
      rw [← HT2] at HYES HNO
      clear HT2 hcle
      generalize L.getD i [] = p at *
      have HRO := Lib.hid (fun w hc => by have := l1Rooms_any bo cc p w sq1 sq2 hc; rw [(planP_of hqp).rooms] at this; exact this)
      rw [hqh] at HRO
      have hk0 := hz.cell (gridR p)
      rw [setsV_at (by rw [hlen]; omega), hgd] at hk0
      have hrlt : (gridR p : Int) < (N : Int) + 1 := by omega
      clear hgd hlen
      have HCA := Lib.hid (fun w hc => specCutIs_any bo cc p w sq1 sq2 hc)
      rw [hqh] at HCA
      cases hq : (treeP p).isSome
      · rw [hq] at HCA
        have HE := Lib.hid (HNO.out hq)
        clear HYES HNO hq hk0
        go_wp2_with (go_at_call 60; refine (HCA.out _ hqc).mono ?_; rintro e w4 ⟨rfl, hb4⟩)
        have hz4 := hz.below hb4
        rw [← HE.out] at hz4
        go_roundw
        case rel => exact ⟨i + 1, by omega, by go_num, hz4, hA.below hb4, below_step hB hB.size hb4⟩
        case measure => simp [intOf]; omega
      · rw [hq] at HCA
        go_upto_region 7 with (go_at_call 60; refine (HCA.out _ hqc).mono ?_; rintro e w4 ⟨rfl, hb4⟩)
        have hz4 := hz.below hb4
        have hA4 := hA.below hb4
        have hB4 := below_step hB hB.size hb4
        have hc4 := (hb4.cell (p := ⟨g, i, none⟩) (World.block_lt_of_cell? _ _ hcell)).trans hcell
        have hk4 := (hb4.cell (p := ⟨G, gridR p, none⟩) (World.block_lt_of_cell? _ _ hk0)).trans hk0
        have hqc4 := hqc.below hb4
        have hz2 := (hz4.set (gridR p) (.int .i64 ((cntT (fun p => (treeP p).isSome) (L.take i) (gridR p) + 1 : Nat) : Int))).eq ((setsV_put _ (gridR p) _).trans (by rw [HYES.out hq]))
        have hA2 := hA4.put (k := gridR p) hz4 hgG (.int .i64 ((cntT (fun p => (treeP p).isSome) (L.take i) (gridR p) + 1 : Nat) : Int))
        have hB2 := hB4.setCell (p := ⟨G, gridR p, none⟩) hwG (.int .i64 ((cntT (fun p => (treeP p).isSome) (L.take i) (gridR p) + 1 : Nat) : Int))
        rw [show ((cntT (fun p => (treeP p).isSome) (L.take i) (gridR p) + 1 : Nat) : Int) = (cntT (fun p => (treeP p).isSome) (L.take i) (gridR p) : Int) + 1 from rfl] at hz2 hA2 hB2
        have fz := hz4.frozen (gridR p)
        clear HYES HNO hq hz hA hB hz4 hA4 hB4 HCA hk0 hcell hqc hb4
        generalize cntT (fun p => (treeP p).isSome) (L.take i) (gridR p) = n at *
        generalize gridR p = r at *
        go_wp2_with (go_at_call 40; refine (HRO.out _ hqc4).mono ?_; rintro e w9 ⟨rfl, rfl⟩)
        go_roundw
        case rel => exact ⟨i + 1, by omega, by go_num, hz2, hA2, hB2⟩
        case measure => simp [intOf]; omega
    · obtain rfl : i = L.length := by omega
      have hlt' : decide ((L.length : Int) < (L.length : Int)) = false := by rw [decide_eq_false_iff_not]; omega
      rw [List.take_length, HFE.out] at hz
      have hr := owns_sets hz hwG (by rw [HL2.out]; unfold maxLen; omega)
      rw [HL2.out] at hr
      go_wp2
      go_ret
      refine ⟨some ⟨G, 0, none⟩, N + 1, ?_, ?_, hB⟩
      · rw [HLL.out, HL2.out]; rfl
      · rw [HLL.out, HL2.out]; exact hr

set_option maxRecDepth 100000 in
theorem specCountCut_any (n m : Int) (w : World) : Calls Try.prog 16 #[.int .i64 n, .int .i64 m] w fun e w' => NumsRet w.heap.size (ctR (fun p => (treeP p).isSome) n m) (frOk n m) e w' ∧ Below w.heap.size w w' := by
  have HG := Lib.hid (fun w => l10Given_any n m w)
  cases h : frOk n m
  · have e0 : ctR (fun p => (treeP p).isSome) n m = [] := by unfold ctR; rw [h]; rfl
    rw [h] at HG
    rw [e0]
    clear h e0
    go_enter Try.func16, Try.ntmps16
    go_wp2_with (go_at_call 30; refine (HG.out _).mono ?_; rintro e w1 ⟨rfl, rfl⟩)
    refine bodyPost_ret (v := .tuple #[.slice (some ⟨w1.heap.size, 0, none⟩) 0 0, .bool false]) (by simp [results, Try.results16, go_sem]) rfl ⟨⟨_, _, rfl, nums_none w1⟩, below_alloc _ _⟩
  · obtain ⟨a, b, rfl, rfl, a1, a6, b1, b6, h9⟩ := frOk_dims h
    have e0 : ctR (fun p => (treeP p).isSome) (a : Int) (b : Int) = intsL (cntL (fun p => (treeP p).isSome) a b) := by unfold ctR; rw [h]; rfl
    rw [h] at HG
    rw [e0]
    have HN := Lib.hid (fun w => l10Counts2_any a1 a6 b1 b6 h9 w)
    clear h e0 h9 a1 a6 b1 b6
    generalize intsL (cntL (fun p => (treeP p).isSome) a b) = T at *
    go_enter Try.func16, Try.ntmps16
    go_wp2_with (first
      | (go_at_call 30; refine (HG.out _).mono ?_; rintro e w1 ⟨rfl, rfl⟩)
      | (go_at_call 31; refine (HN.out _).mono ?_; rintro e w2 ⟨ro, rc, rfl, hr, hb1⟩))
    go_ret2
    exact ⟨⟨ro, rc, rfl, hr⟩, hb1⟩
end Go.Proofs.Ytlgbefmgpmdolaa
