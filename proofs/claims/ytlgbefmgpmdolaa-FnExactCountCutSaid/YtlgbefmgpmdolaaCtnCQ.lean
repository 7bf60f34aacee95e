/-
  Cuttable plans counted by their rooms: the program. (Walks.)
-/
import Derived.Test.YtlgbefmgpmdolaaCtnQ
import Derived.Test.YtlgbefmgpmdolaaGui4Q

namespace Go.Proofs.Ytlgbefmgpmdolaa
open Go.RowKit Go.Shelf

set_option maxRecDepth 100000 in
set_option maxHeartbeats 4000000 in
/-- whether a plan is cuttable -/
theorem askCut_any {h wd : Nat} {y : PZ} (L : Leaf h wd y) (hy : y ∈ allZ h wd) (w : World) : Calls Try.prog 35 #[.agg (planZ h wd y.1 y.2)] w fun e w' => e = .returned (.bool (treeP (txtZ h wd y.2)).isSome) ∧ Below w.heap.size w w' := by
  have hpl := L.plan
  have hN0 : ∀ W, (binOp .eql 50 (.slice none 0 0) (.slice none 0 0)).run Try.prog W = .ok (.bool true) W := fun W => Lib.run_eql_slice_nil_nil W _ _ Try.underlying50
  have hN1 : ∀ a m c W, (binOp .eql 50 (.slice (some a) m c) (.slice none 0 0)).run Try.prog W = .ok (.bool false) W := fun a m c W => Lib.run_eql_slice_some_nil W a m c Try.underlying50
  rw [L.cells hy]
  generalize txtZ h wd y.2 = p at *
  have hp := planP_of hpl
  have HWH := Lib.hid (fun w => whole_any p.length (wideB p) (gridR p) (gridG p) hp.grid.h6 hp.grid.w6 hp.few w)
  have HSZ := Lib.hid (show (Try.prog.info? 46).map (·.size) = some (planC p.length (wideB p) (gridR p) (gridG p)).size by rw [planC_size]; kernel_rfl)
  rw [(bxsV_plan hp).1, (bxsV_plan hp).2] at HWH
  have hC := allR_clo hpl
  have HST := Lib.hid (fun po cap w hc => stuck_any (boxy_of hp) 12 (allR p) po cap w hC (allR_fit hpl).2 hc)
  rw [allR_rooms hpl, List.length_range] at HST
  have hts := Rc.tree_stuck (g := gridG p) (n := 12) (allR_fit hpl).1 (allR_fit hpl).2
  rw [treeP_yes hpl]
  generalize planC p.length (wideB p) (gridR p) (gridG p) = C at *
  have HTS := Lib.hid hts
  clear hts hC hpl L
  generalize (allR p).tree (gridG p) 12 = T at *
  generalize (allR p).stuck (gridG p) 12 = K at *
  have bC := HeldB.new w 46 C
  have hb0 := below_alloc w (.cells C 46)
  go_enter Try.func35, Try.ntmps35
  go_wp2_with (first
    | (refine wpList_load_row rfl 46 _ rfl w.heap.size rfl 46 C (0, 0) _ bC Try.underlying46 rfl HSZ.out ?_)
    | (go_at_call 36; refine (HWH.out _).mono ?_; rintro e w2 ⟨ro, rc, rfl, hown, hb2⟩; have hcl := ownsK_cells hown))
  refine (HST.out _ _ _ hcl).mono ?_
  rintro e w3 ⟨⟨so, sm, sc, rfl, hs1, hs2⟩, hb3⟩
  have hbx := below_step (below_step hb0 hb0.size hb2) (below_step hb0 hb0.size hb2).size hb3
  cases K with
  | none =>
    obtain ⟨rfl, rfl, rfl⟩ := hs1 rfl
    have ht : T.isSome = true := HTS.out.2 rfl
    have HT := Lib.hid ht
    clear hs1 hs2 ht
    go_wp2
    go_ret
    exact ⟨by rw [HT.out]; rfl, hbx⟩
  | some S =>
    obtain ⟨sa, rfl, rfl, hcs⟩ := hs2 S rfl
    have ht : T.isSome = false := by
      cases hT : T.isSome
      · rfl
      · exact absurd (HTS.out.1 hT) (by simp)
    have HT := Lib.hid ht
    clear hs1 hs2 ht
    go_wp2
    go_ret
    exact ⟨by rw [HT.out]; rfl, hbx⟩

set_option maxRecDepth 100000 in
set_option maxHeartbeats 8000000 in
theorem countByC_any {h wd : Nat} (d1 : 1 ≤ h) (d6 : h ≤ 6) (e1 : 1 ≤ wd) (e6 : wd ≤ 6) (h9 : h * wd ≤ 9) (w : World) :
    Calls Try.prog 32 #[.int .i64 (h : Int), .int .i64 (wd : Int), .func (.func 35) #[] #[]] w fun e w' => NumsRet w.heap.size (intsL (cntL (fun p => (treeP p).isSome) h wd)) true e w' ∧ Below w.heap.size w w' := by
  obtain ⟨im, hmi, hmz, hm1, hm2⟩ := info_parts Try.infoNum
  have HRF := Lib.hid (fun w => readFrame_any (h : Int) (wd : Int) w)
  rw [(frOk_of d1 d6 e1 e6 h9).1, (frOk_of d1 d6 e1 e6 h9).2] at HRF
  have HPL := Lib.hid (fun w => plans_any h wd (.func (.func 35) #[] #[]) rfl w)
  have HTK := Lib.hid (fun (w : World) (b : Nat) (L0 : List Nat) (Bf Bq : Nat) (hm : CntG 3 litN domN w b L0) (hBf : HeldB w Bf 58 #[.int .i64 (h : Int), .int .i64 (wd : Int)]) (hBq : HeldB w Bq 47 #[.func (.func 35) #[] #[]]) =>
    callsIn_wide.1 (takeInt_in 40 h wd (by omega) (asked (fun p => (treeP p).isSome) h wd (allZ h wd)) (leaves_few d1 d6 e1 e6 h9).1 (leaves_few d1 d6 e1 e6 h9).2 Bf Bq w (fun W => HeldB W Bf 58 #[.int .i64 (h : Int), .int .i64 (wd : Int)] ∧ HeldB W Bq 47 #[.func (.func 35) #[] #[]])
      ((heldB_stays hBf.lt _ _).and (heldB_stays hBq.lt _ _)) (fun l J W1 hJ hJI hY hj => plansItC_in d6 e6 (fun p => (treeP p).isSome) Bf Bq 39 l (by omega) J W1 (fun y hy s w _ => askCut_any (leaf d1 d6 e1 e6 h9 hy) hy w) hJ hJI hY hj) b L0 hm ⟨hBf, hBq⟩))
  have HCL := Lib.hid (fun w => cellsF_any h wd (by omega) w)
  have HAC := Lib.hid (fun r => asked_count (fun p => (treeP p).isSome) h wd r)
  have HFE := Lib.hid (show fillS (cntQ (fun p => (treeP p).isSome) h wd) (h * wd + 1) (h * wd + 1) = cntL (fun p => (treeP p).isSome) h wd from fillS_all _ _)
  have HFP := Lib.hid (fun k (hk : k < h * wd + 1) => fillS_put (cntQ (fun p => (treeP p).isSome) h wd) hk)
  have HFZ := Lib.hid (fillS_zero (cntQ (fun p => (treeP p).isSome) h wd) (h * wd + 1))
  have HFL := Lib.hid (fun k => fillS_len (cntQ (fun p => (treeP p).isSome) h wd) (h * wd + 1) k)
  have HLL := Lib.hid (intsL_len (cntL (fun p => (treeP p).isSome) h wd))
  have HL2 := Lib.hid (cntL_len (fun p => (treeP p).isSome) h wd)
  generalize (asked (fun p => (treeP p).isSome) h wd (allZ h wd)).map (·.1) = M at *
  generalize cntL (fun p => (treeP p).isSome) h wd = T at *
  generalize cntQ (fun p => (treeP p).isSome) h wd = cq at *
  generalize hN : h * wd = N at *
  have hN9 : N ≤ 9 := by omega
  have HNN := Lib.hid hN
  clear hN
  have hmm := @run_makeMap Try.prog
  go_enter Try.func32, Try.ntmps32
  go_wp2_with (first
    | (go_at_call 44; refine (HRF.out _).mono ?_; rintro e w1 ⟨rfl, hb1⟩)
    | (go_at_call 62; refine (HPL.out _).mono ?_; rintro e w2 ⟨B, rfl, hBB, hBf, hBq, hb2⟩))
  rw [World.size_alloc, World.size_alloc] at hBB
  subst hBB
  have hmp : CntG 3 litN domN w2 (w1.heap.size + 1) [] := by
    have := (CntG.made (K := 3) (lit := litN) (dom := domN) (w1.alloc (.cells #[.int .i64 (h : Int), .int .i64 (wd : Int)] 58))).below hb2
    rwa [World.size_alloc] at this
  have hF0 := ((HeldB.new w1 58 #[.int .i64 (h : Int), .int .i64 (wd : Int)]).alloc (.map #[] 0)).below hb2
  have hB2 := below_step (((hb1.alloc hb1.size (.cells #[.int .i64 (h : Int), .int .i64 (wd : Int)] 58))).alloc (by have := hb1.size; simp; omega) (.map #[] 0)) (by have := hb1.size; simp; omega) hb2
  have hs1 := hb1.size
  have hl2 := hmp.lt
  refine (HTK.out w2 (w1.heap.size + 1) [] (w1.heap.size + 1 + 1) (w1.heap.size + 1 + 1 + 1) hmp hBf hBq).mono ?_
  rintro e w3 ⟨rfl, hm3, hg3⟩
  have hF3 := hF0.kept hg3 (by simp only [ne_eq, Option.some.injEq]; omega)
  have hB3 : Below w.heap.size w w3 := hB2.grown hg3 (Nat.le_trans hs1 (by omega)) (fun k hk => by simp only [Option.some.injEq] at hk; omega)
  have k0 := hF3.cell 0
  have k1 := hF3.cell 1
  rw [show (#[.int .i64 (h : Int), .int .i64 (wd : Int)] : Array Value)[0]? = some (.int .i64 (h : Int)) from rfl] at k0
  rw [show (#[.int .i64 (h : Int), .int .i64 (wd : Int)] : Array Value)[1]? = some (.int .i64 (wd : Int)) from rfl] at k1
  have hlm3 := hm3.lt
  clear hb1 hb2 hg3 hBf hBq hmp hF0 hB2 HTK HPL HRF hmm
  go_wp2_with (first
    | (go_at_call 64; refine (HCL.out _).mono ?_; rintro e w4 ⟨rfl, hb4⟩)
    | (at_make; refine wpList_make_full _ rfl _ _ 22 rfl w4.heap.size 3 im (.int .i64 0) 1 Try.underlying22 hmi hmz hm1 .i64 .i64 _ _ (N + 1) rfl rfl rfl rfl ?d2 ?d3 (Nat.le_refl _) ?_; rotate_left 2; intro w5 ho5 hg5))
  case d2 => rw [hm2]; omega
  case d3 => unfold maxLen; omega
  have hz := held_zeros ho5
  rw [← HFZ.out] at hz
  have hb5 : Below w4.heap.size w4 w5 := below_of_grownBy hg5 (Nat.le_refl _) (fun k hk => by cases hk)
  have hm5 := (hm3.below hb4).below hb5
  have hB4 := below_step hB3 hB3.size hb4
  have hB5 := below_step hB4 hB4.size hb5
  have hs4 := hb4.size
  have hs5 := hB4.size
  obtain ⟨G, hG⟩ : ∃ G, G = w4.heap.size := ⟨_, rfl⟩
  obtain ⟨bm, hbm⟩ : ∃ bm, bm = w1.heap.size + 1 := ⟨_, rfl⟩
  have hbG : bm < G := by omega
  have hwG : w.heap.size ≤ G := by omega
  rw [← hG] at hz ⊢
  rw [← hbm] at hm5 ⊢
  clear hG hbm ho5 hg5 hb5 hb4 hm3 hB3 hB4 hF3 k0 k1 hlm3 hs4 hs5 hs1 hl2
  go_loopw [33] (fun vr wr => ∃ k : Nat, k ≤ N + 1 ∧ vr = .int .i64 (k : Int) ∧ HeldB wr G 3 (setsV (fillS cq (N + 1) k)) ∧ CntG 3 litN domN wr bm M ∧ Below w.heap.size w wr) (fun vr _ => N + 1 - (intOf vr).toNat)
  case atStart => exact ⟨0, Nat.zero_le _, rfl, hz, hm5, hB5⟩
  case round =>
    clear hz hm5 hB5
    obtain ⟨k, hk, rfl, hz, hm5, hB5⟩ := hrel
    by_cases hlt : k < N + 1
    · have hlt' : decide ((k : Int) < (N : Int) + 1) = true := by rw [decide_eq_true_eq]; omega
      have hltI : (k : Int) < (N : Int) + 1 := by omega
      have hlk : (Instr.lookup 90 (.map (some bm)) (.int .i64 (k : Int)) false).run Try.prog wr = .ok (.int .i64 (M.count k : Nat)) wr := hm5.look key_nat (by unfold domN; omega)
      rw [HAC.out k] at hlk
      have fz := hz.frozen k
      have hz2 := (hz.set k (.int .i64 ((cq k : Nat) : Int))).eq ((setsV_put _ k (cq k)).trans (by rw [HFP.out k hlt]))
      have hm6 : CntG 3 litN domN (wr.setCell ⟨G, k, none⟩ (.int .i64 ((cq k : Nat) : Int))) bm M := hm5.same (Below.heap_setCell wr ⟨G, k, none⟩ _ bm (by show bm ≠ G; omega))
      have hB6 : Below w.heap.size w (wr.setCell ⟨G, k, none⟩ (.int .i64 ((cq k : Nat) : Int))) := hB5.setCell (p := ⟨G, k, none⟩) hwG _
      have hLk := HFL.out k
      have k0 := hz.cell k
      rw [setsV_at (by rw [hLk]; exact hlt)] at k0
      clear hm5 hB5 hz hLk
      generalize (fillS cq (N + 1) k).getD k 0 = old at *
      go_wp2
      go_roundw
      case rel => exact ⟨k + 1, by omega, by go_num, hz2, hm6, hB6⟩
      case measure => simp [intOf]; omega
    · obtain rfl : k = N + 1 := by omega
      have hlt' : decide (((N + 1 : Nat) : Int) < (N : Int) + 1) = false := by rw [decide_eq_false_iff_not]; omega
      rw [HFE.out] at hz
      have hr := owns_sets hz hwG (by rw [HL2.out]; unfold maxLen; omega)
      rw [HL2.out] at hr
      go_wp2
      go_ret2
      refine ⟨⟨some ⟨G, 0, none⟩, N + 1, ?_, ?_⟩, hB5⟩
      · rw [HLL.out, HL2.out]; rfl
      · rw [HLL.out, HL2.out]; exact hr

set_option maxRecDepth 100000 in
theorem implCountCut_any (n m : Int) (w : World) : Calls Try.prog 17 #[.int .i64 n, .int .i64 m] w fun e w' => NumsRet w.heap.size (ctR (fun p => (treeP p).isSome) n m) (frOk n m) e w' ∧ Below w.heap.size w w' := by
  cases h : frOk n m
  · have HRF := Lib.hid (fun w => readFrame_any n m w)
    have e0 : ctR (fun p => (treeP p).isSome) n m = [] := by unfold ctR; rw [h]; rfl
    have e1 : frC n m = #[.int .i64 0, .int .i64 0] := by unfold frC; rw [h]; rfl
    rw [h, e1] at HRF
    rw [e0]
    have HNO : ∀ w, Calls Try.prog 32 #[.int .i64 n, .int .i64 m, .func (.func 35) #[] #[]] w fun e w' => e = .returned (.tuple #[.slice none 0 0, .bool false]) ∧ Below w.heap.size w w' := fun w => by
      clear h e0 e1
      go_enter Try.func32, Try.ntmps32
      go_wp2_with (go_at_call 44; refine (HRF.out _).mono ?_; rintro e w1 ⟨rfl, hb1⟩)
      go_ret2
      exact ⟨rfl, hb1.alloc hb1.size _⟩
    have HN := Lib.hid HNO
    clear HNO h e0 e1 HRF
    go_enter Try.func17, Try.ntmps17
    go_wp2_with (go_at_call 32; refine (HN.out _).mono ?_; rintro e w1 ⟨rfl, hb1⟩)
    go_ret2
    exact ⟨⟨none, 0, rfl, by simp, .inl ⟨rfl, rfl⟩⟩, hb1⟩
  · obtain ⟨a, b, rfl, rfl, a1, a6, b1, b6, h9⟩ := frOk_dims h
    have e0 : ctR (fun p => (treeP p).isSome) (a : Int) (b : Int) = intsL (cntL (fun p => (treeP p).isSome) a b) := by unfold ctR; rw [h]; rfl
    rw [e0]
    have HN := Lib.hid (fun w => countByC_any a1 a6 b1 b6 h9 w)
    clear h e0 h9 a1 a6 b1 b6
    generalize intsL (cntL (fun p => (treeP p).isSome) a b) = T at *
    go_enter Try.func17, Try.ntmps17
    go_wp2_with (go_at_call 32; refine (HN.out _).mono ?_; rintro e w1 ⟨⟨ro, rc, rfl, hr⟩, hb1⟩)
    go_ret2
    exact ⟨⟨ro, rc, rfl, hr⟩, hb1⟩
end Go.Proofs.Ytlgbefmgpmdolaa
