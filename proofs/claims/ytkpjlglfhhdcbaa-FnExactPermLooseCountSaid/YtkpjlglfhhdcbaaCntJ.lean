
/-
  The program counts the fair permutations, and the loose ones. (Walks inside a fence.)
-/
import Derived.Test.YtkpjlglfhhdcbaaCntI
namespace Go.Proofs.Ytkpjlglfhhdcbaa
open Go.RowKit Go.Shelf

attribute [local go_sem] Oper.semAt_some

set_option maxRecDepth 100000 in
set_option maxHeartbeats 8000000 in
theorem countLoose_in (f : Nat) (hf : 30 ≤ f) {n : Nat} (h1 : 1 ≤ n) (hn7 : n ≤ 7) (w : World) :
    CallsIn Fence.wide f Try.prog 54 #[.int .i64 (n : Int), .func (.func 45) #[] #[]] w fun e W' => e = .returned (.tuple #[.int .i64 ((cntK looseB (permK n n []) : Nat) : Int), .bool true]) ∧ Below w.heap.size w W' := by
  have hF : ∀ k, Fence.wide.fn k := fun _ => trivial
  have hn1 : 1 ≤ f := by omega
  have HL := Lib.hid (fun w => isLength_any (n : Int) w)
  rw [isN_yes (by omega) (by omega)] at HL
  have HAP := Lib.hid (fun w => allPerms_any n w)
  have bA := (HeldB.new w 47 #[.func (.func 45) #[] #[]]).alloc (.cells #[.int .i64 0] 3)
  have bM := HeldB.new (w.alloc (.cells #[.func (.func 45) #[] #[]] 47)) 3 #[.int .i64 0]
  simp only [World.size_alloc] at bM
  have hB0 : Below w.heap.size w ((w.alloc (.cells #[.func (.func 45) #[] #[]] 47)).alloc (.cells #[.int .i64 0] 3)) := ((Below.refl _ w).alloc (Nat.le_refl _) _).alloc (by simp) _
  refine callsIn_of_wp_marks Try.func54 rfl trivial ?_ rfl
  simp only [Try.ntmps54, List.size_toArray, List.length_cons, List.length_nil, Nat.reduceAdd, Nat.reduceSub, Array.replicate_succ, Array.replicate_zero, List.push_toArray, List.append_toArray, List.nil_append, List.cons_append]
  gi_wp2_with (first
    | (gi_at_call 56; refine (callsIn_wide.2 (HL.out _)).mono ?_; rintro e W9 ⟨rfl, rfl⟩)
    | (gi_at_call 63; refine (callsIn_wide.2 (HAP.out _)).mono ?_; rintro e W0 ⟨B, rfl, hBB, bN, hb1⟩))
  have hBB2 : B = w.heap.size + 1 + 1 := by rw [hBB]; simp
  clear hBB
  subst hBB2
  have bA := bA.below hb1
  have bM := bM.below hb1
  have hB0 := below_step hB0 hB0.size hb1
  have hlM := bM.lt
  have HXF := Lib.hid (fun (pre : List (List Int)) (x : List Int) (rest : List (List Int)) (h : permK n n [] = pre ++ x :: rest) => (permK_few n [] (Beg.nil hn7) x (by rw [h]; simp)).1)
  have HLE := Lib.hid (show (permK n n []).length ≤ 823543 from Nat.le_trans (permK_len n n []) (Nat.le_trans (Nat.pow_le_pow_left hn7 n) (Nat.pow_le_pow_right (by decide) hn7)))
  clear hb1 HAP HL
  generalize hXS : permK n n [] = xs at *
  have HXS := Lib.hid hXS; clear hXS
  refine rangeFunc_low rfl hn1 (gf := 67) (lb := #[.pointer (some ⟨w.heap.size + 1 + 1, 0, none⟩)]) rfl trivial (enters_of Try.func67 (by kernel_rfl) rfl)
    (encs := encP) (fun _ => rfl) xs
    (fun pre W => (HeldB W w.heap.size 47 #[.func (.func 45) #[] #[]] ∧ HeldB W (w.heap.size + 1) 3 #[.int .i64 ((cntK looseB pre : Nat) : Int)]) ∧ Below w.heap.size w W ∧ W0.heap.size ≤ W.heap.size)
    (fun s U W h hb => ⟨⟨(hb.block _ (by omega)).trans h.1.1, (hb.block _ hlM).trans h.1.2⟩, h.2.1.trans (hb.mono (by omega)), Nat.le_trans h.2.2 hb.size⟩)
    ⟨⟨bA, bM⟩, hB0, Nat.le_refl _⟩
    (fun l J W1 hb hJ hY hj => by
      rw [← HXS.out] at hY ⊢
      exact allPerms_in hn7 _ (f - 1) (by omega) l J W1 (bN.below hb) hJ hY hj)
    (fun x a' W => ∃ G, W0.heap.size ≤ G ∧ HeldB W G 35 (numC (padL x)) ∧ a' = { tmps := #[.int .i64 (n : Int), .func (.func 45) #[] #[], undef, .pointer (some ⟨w.heap.size, 0, none⟩), .int .i64 0, .bool false, .pointer (some ⟨w.heap.size + 1, 0, none⟩), .pointer (some ⟨G, 0, none⟩), .int .i64 (n : Int), .bool true, .bool false, .int .i64 (n : Int), .func (.func 67) #[] #[.pointer (some ⟨w.heap.size + 1 + 1, 0, none⟩)], .agg (numC (padL x)), undef, undef, undef, undef, undef, undef], defers := [] })
    (fun x a' W l o h h1 h2 h3 => by
      obtain ⟨G, g1, g2, g3⟩ := h
      obtain ⟨r, hr⟩ := h3
      refine ⟨G, g1, (World.putObj_heap_other (fun e => ?_)).trans g2, g3⟩
      subst e
      rw [show W.heap[G]? = _ from g2] at hr
      cases hr)
    ?assign ?body ?done
  case assign =>
    rintro m hm l pre x rest W K hx ⟨⟨bA1, bM1⟩, hB1, hgw⟩ hK
    have hfx := HXF.out pre x rest hx
    obtain ⟨a0, a1, a2, a3, a4, a5, a6, he⟩ := numC_seven (padL x) (padL_len hfx.len)
    have HE := Lib.hid he
    simp only [encP, he]
    gi_wp2
    refine hK _ _ (below_alloc _ _) ⟨W.heap.size, hgw, ?_, ?_⟩
    · rw [HE.out]; exact HeldB.new W _ _
    · rw [HE.out]
  case body =>
    rintro m hm l pre x rest a' W hx ⟨⟨bA1, bM1⟩, hB1, hgw⟩ ⟨G, hG, bX, rfl⟩
    have h1' : 1 ≤ m := by omega
    have hfx := HXF.out pre x rest hx
    have hle := HLE.out
    have hct := cntK_le looseB pre
    have hSN := cntK_snoc looseB pre x
    rw [hx, List.length_append, List.length_cons] at hle
    have hHELD : W.heap[G]? = some (.cells (numC (padL x)) 35 (0, 0)) := bX
    have HSZ := Lib.hid (perm_size (padL_len hfx.len))
    have HA := Lib.hid (fun w => isLoose_any hfx w)
    have cA := bA1.cell 0
    have hlX := bM1.lt
    have hc8 : cntK looseB pre ≤ 823543 := by omega
    clear hx hle hct bX
    generalize cntK looseB pre = c at *
    generalize numC (padL x) = C at *
    cases hal : looseB x
    · rw [hal] at HA hSN
      have HSN := Lib.hid hSN
      clear hSN hal
      gi_wp2_with (first
        | (refine wpListIn_load_r7 rfl 35 _ rfl G rfl 35 C (0, 0) _ hHELD Try.underlying35 rfl HSZ.out ?_)
        | (refine ⟨trivial, ?_⟩; gi_at_call 45; refine (CallsIn.inRound l (callsIn_wide.2 (HA.out _))).mono ?_; rintro e w2 ⟨rfl, hb2⟩)
        | (gi_at_call 45; refine (CallsIn.inRound l (callsIn_wide.2 (HA.out _))).mono ?_; rintro e w2 ⟨rfl, hb2⟩))
      exact ⟨⟨⟨bA1.below hb2, by rw [show cntK looseB (pre ++ [x]) = c from HSN.out]; exact bM1.below hb2⟩, below_step hB1 hB1.size hb2, Nat.le_trans hgw hb2.size⟩, KeptFrom.of_below hb2⟩
    · rw [hal] at HA hSN
      have HSN := Lib.hid hSN
      clear hSN hal
      gi_wp2_with (first
        | (refine wpListIn_load_r7 rfl 35 _ rfl G rfl 35 C (0, 0) _ hHELD Try.underlying35 rfl HSZ.out ?_)
        | (refine ⟨trivial, ?_⟩; gi_at_call 45; refine (CallsIn.inRound l (callsIn_wide.2 (HA.out _))).mono ?_; rintro e w2 ⟨rfl, hb2⟩; have fM := (bM1.below hb2).frozen 0; have cM := (bM1.below hb2).cell 0)
        | (gi_at_call 45; refine (CallsIn.inRound l (callsIn_wide.2 (HA.out _))).mono ?_; rintro e w2 ⟨rfl, hb2⟩; have fM := (bM1.below hb2).frozen 0; have cM := (bM1.below hb2).cell 0))
      exact ⟨⟨⟨(bA1.below hb2).other (a := ⟨w.heap.size + 1, 0, none⟩) (by simp) _, by rw [show ((cntK looseB (pre ++ [x]) : Nat) : Int) = (c : Int) + 1 by rw [HSN.out]; rfl]; exact (bM1.below hb2).set1 _⟩, (below_step hB1 hB1.size hb2).setCell (by simp) _, Nat.le_trans hgw hb2.size⟩, (KeptFrom.of_below hb2).cell _ _ _ (.inl hlM)⟩
  case done =>
    rintro D W hD ⟨⟨bA1, bM1⟩, hB1, hgw⟩ hK
    have cM := bM1.cell 0
    have hlX := bM1.lt
    gi_wp2
    refine ⟨by simp, .inl ⟨_, _, rfl, run_takeDeferred hK, ?_⟩⟩
    refine ⟨_, ?_, ⟨by rw [HXS.out], hB1.trans (belowK_b (w := w) (Nat.le_refl _) W D _ _ (by omega) hK rfl rfl)⟩⟩
    simp [results, Try.f54, go_sem]

/-- what is told for a number -/
def cntO (ask : List Int → Bool) (n : Int) : Int := if isN n then ((cntK ask (permK n.toNat n.toNat []) : Nat) : Int) else 0
theorem cntO_no {ask : List Int → Bool} {n : Int} (h : isN n = false) : cntO ask n = 0 := by unfold cntO; rw [h]; rfl
theorem cntO_yes (ask : List Int → Bool) {n : Int} (h : isN n = true) : cntO ask n = ((cntK ask (permK n.toNat n.toNat []) : Nat) : Int) := by unfold cntO; rw [if_pos h]
set_option maxRecDepth 100000 in
theorem countFair_any (n : Int) (w : World) :
    Calls Try.prog 54 #[.int .i64 n, .func (.func 43) #[] #[]] w fun e w' => e = .returned (.tuple #[.int .i64 (cntO fairB n), .bool (isN n)]) ∧ Below w.heap.size w w' := by
  cases hn : isN n
  · rw [cntO_no hn]
    have HL := Lib.hid (fun w => isLength_any n w)
    rw [hn] at HL
    have hb := below_alloc w (.cells #[.func (.func 43) #[] #[]] 47)
    clear hn
    go_enter Try.func54, Try.ntmps54
    go_wp2_with (go_at_call 56; refine (HL.out _).mono ?_; rintro e W9 ⟨rfl, rfl⟩)
    go_ret2
    exact ⟨rfl, hb⟩
  · have hc := cntO_yes fairB hn
    obtain ⟨k, rfl, h1, h7⟩ := bool_num hn
    rw [hc]
    exact callsIn_wide.1 (countFair_in 30 (Nat.le_refl _) h1 h7 w)
set_option maxRecDepth 100000 in
theorem implPermFairCount_any (n : Int) (w : World) :
    Calls Try.prog 33 #[.int .i64 n] w fun e w' => e = .returned (.tuple #[.int .i64 (cntO fairB n), .bool (isN n)]) ∧ Below w.heap.size w w' := by
  have HC := Lib.hid (countFair_any n w)
  generalize cntO fairB n = c at *
  generalize isN n = b at *
  go_enter Try.func33, Try.ntmps33
  go_wp2_with (go_at_call 54; refine HC.out.mono ?_; rintro e w1 ⟨rfl, hb⟩)
  go_ret2
  exact ⟨rfl, hb⟩
set_option maxRecDepth 100000 in
theorem countLoose_any (n : Int) (w : World) :
    Calls Try.prog 54 #[.int .i64 n, .func (.func 45) #[] #[]] w fun e w' => e = .returned (.tuple #[.int .i64 (cntO looseB n), .bool (isN n)]) ∧ Below w.heap.size w w' := by
  cases hn : isN n
  · rw [cntO_no hn]
    have HL := Lib.hid (fun w => isLength_any n w)
    rw [hn] at HL
    have hb := below_alloc w (.cells #[.func (.func 45) #[] #[]] 47)
    clear hn
    go_enter Try.func54, Try.ntmps54
    go_wp2_with (go_at_call 56; refine (HL.out _).mono ?_; rintro e W9 ⟨rfl, rfl⟩)
    go_ret2
    exact ⟨rfl, hb⟩
  · have hc := cntO_yes looseB hn
    obtain ⟨k, rfl, h1, h7⟩ := bool_num hn
    rw [hc]
    exact callsIn_wide.1 (countLoose_in 30 (Nat.le_refl _) h1 h7 w)
set_option maxRecDepth 100000 in
theorem implPermLooseCount_any (n : Int) (w : World) :
    Calls Try.prog 37 #[.int .i64 n] w fun e w' => e = .returned (.tuple #[.int .i64 (cntO looseB n), .bool (isN n)]) ∧ Below w.heap.size w w' := by
  have HC := Lib.hid (countLoose_any n w)
  generalize cntO looseB n = c at *
  generalize isN n = b at *
  go_enter Try.func37, Try.ntmps37
  go_wp2_with (go_at_call 54; refine HC.out.mono ?_; rintro e w1 ⟨rfl, hb⟩)
  go_ret2
  exact ⟨rfl, hb⟩

end Go.Proofs.Ytkpjlglfhhdcbaa
