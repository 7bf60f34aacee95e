/-
  Plain plans counted by their permutations. (Walks inside a fence.)
-/
import Derived.Test.YtpgcpmfemcfoaaaCtpO
import Derived.Test.YtpgcpmfemcfoaaaCtoO

namespace Go.Proofs.Ytpgcpmfemcfoaaa
open Go.RowKit Go.Shelf

attribute [local go_sem] Oper.semAt_some

/-- the permutation of a plan of the list -/
def prmZ (h wd : Nat) (y : PZ) : List Int := intsL (permL (txtZ h wd y.2))
/-- how often a permutation is in a list (by the order that tells two apart) -/
def prmCount (M : List (List Int)) (k : List Int) : Nat := @List.count (List Int) instBEqOfDecidableEq k M
theorem prmCount_le (M : List (List Int)) (k : List Int) : prmCount M k ≤ M.length := @List.count_le_length (List Int) instBEqOfDecidableEq k M
/-- between the entry made and the number stored -/
def MidQ (W : World) (b c : Nat) (M : List (List Int)) (k : List Int) (Q : Array Value) (st : Nat) (w' : World) : Prop :=
  W.grownBy w' (some b) ∧ (Instr.lookup 82 (.map (some b)) (.agg Q) false).run Try.prog w' = .ok (.int .i64 (c : Int)) w' ∧
    ∃ w2, (Instr.entryStore 82 (.map (some b)) (.int .i64 (st : Int)) (.int .i64 ((c : Int) + 1))).run Try.prog w' = .ok () w2 ∧ CntG 85 litQ domQ w2 b (M ++ [k]) ∧ w'.grownBy w2 (some b)

set_option maxRecDepth 100000 in
set_option maxHeartbeats 8000000 in
theorem takePerm_in (f h wd : Nat) (hf : 10 ≤ f) (xs : List PZ) (hleaf : ∀ x ∈ xs, x ∈ allZ h wd ∧ Leaf h wd x ∧ plainB (txtZ h wd x.2) = true ∧ gridR (txtZ h wd x.2) ≤ 7) (hlen : xs.length ≤ 1000000) (Bf Bq : Nat) (w : World) (St : World → Prop) (hSt : Stays w.heap.size St) (HSEQ : SeqLow (f - 1) 106 #[.pointer (some ⟨Bf, 0, none⟩), .pointer (some ⟨Bq, 0, none⟩)] h wd xs St)
    (b : Nat) (L0 : List (List Int)) (hm : CntG 85 litQ domQ w b L0) (hs : St w) :
    CallsIn Fence.wide f Try.prog 52 #[.map (some b), .func (.func 106) #[] #[.pointer (some ⟨Bf, 0, none⟩), .pointer (some ⟨Bq, 0, none⟩)], .func (.func 54) #[] #[]] w
      fun e W' => e = .returned (.tuple #[]) ∧ CntG 85 litQ domQ W' b (xs.map (prmZ h wd)) ∧ w.grownBy W' (some b) := by
  have hF : ∀ k, Fence.wide.fn k := fun _ => trivial
  have hn1 : 1 ≤ f := by omega
  have hW2 := hm.below (below_alloc w (.cells #[.map (some b)] 82))
  have hW3 := hW2.below (below_alloc _ (.cells #[.func (.func 54) #[] #[]] 87))
  obtain ⟨W4, hcl, hm4, hg4, hs4⟩ := hW3.clear_run key_perm 0
  refine callsIn_of_wp_marks Try.func52 rfl trivial ?_ rfl
  simp only [Try.ntmps52, List.size_toArray, List.length_cons, List.length_nil, Nat.reduceAdd, Nat.reduceSub, Array.replicate_succ, Array.replicate_zero, List.push_toArray, List.append_toArray, List.nil_append, List.cons_append]
  gi_wp2
  have hB2 : w.grownBy W4 (some b) := grownBy_trans (grownBy_of_below ((below_alloc w (.cells #[.map (some b)] 82)).alloc (by simp) (.cells #[.func (.func 54) #[] #[]] 87)) _) hg4
  have hltb := hm.lt
  have b3 := ((HeldB.new w 82 #[.map (some b)]).alloc (.cells #[.func (.func 54) #[] #[]] 87)).kept hg4 (by simp only [ne_eq, Option.some.injEq]; omega)
  have b5 := (HeldB.new (w.alloc (.cells #[.map (some b)] 82)) 87 #[.func (.func 54) #[] #[]]).kept hg4 (by rw [World.size_alloc]; simp only [ne_eq, Option.some.injEq]; omega)
  rw [World.size_alloc] at b5
  have hs4' : St W4 := hSt.1 w W4 (some b) hs hB2 (fun g e => by cases e; exact hm.block)
  have hl5 := b5.lt
  have HSE := Lib.hid HSEQ
  have HST := Lib.hid hSt
  have HLF := Lib.hid hleaf
  clear hcl hg4 hs4 hW2 hW3 HSEQ hSt hleaf
  refine rangeFunc_lowJ rfl hn1 (gf := 106) (lb := #[.pointer (some ⟨Bf, 0, none⟩), .pointer (some ⟨Bq, 0, none⟩)]) rfl trivial (enters_of Try.func106 (by kernel_rfl) rfl)
    (encs := encZ h wd) (fun _ => rfl) xs
    (fun pre W => (CntG 85 litQ domQ W b (pre.map (prmZ h wd)) ∧ HeldB W w.heap.size 82 #[.map (some b)] ∧ HeldB W (w.heap.size + 1) 87 #[.func (.func 54) #[] #[]] ∧ St W) ∧ w.grownBy W (some b) ∧ W4.heap.size ≤ W.heap.size)
    (fun s U W h hb => ⟨⟨h.1.1.same (hb.block b (by have := hB2.size; omega)), (hb.block _ (by omega)).trans h.1.2.1, (hb.block _ hl5).trans h.1.2.2.1, HST.out.2 _ _ _ hB2.size h.1.2.2.2 hb⟩, grownBy_low h.2.1 hb hB2.size, Nat.le_trans h.2.2 hb.size⟩)
    ⟨⟨hm4, b3, b5, hs4'⟩, hB2, Nat.le_refl _⟩
    (fun l J W1 hb hJ hJI hY hj => HSE.out l J W1 hJ (fun s W h => (hJI s W h).1.2.2.2) hY hj)
    (fun x a' W => ∃ G, W4.heap.size ≤ G ∧ HeldB W G 47 (planZ h wd x.1 x.2) ∧ a' = { tmps := #[Value.map (some b), Value.func (.func 106) #[] #[.pointer (some ⟨Bf, 0, none⟩), .pointer (some ⟨Bq, 0, none⟩)], Value.func (.func 54) #[] #[], Value.pointer (some ⟨w.heap.size, 0, none⟩), undef, Value.pointer (some ⟨w.heap.size + 1, 0, none⟩), Value.pointer (some ⟨G, 0, none⟩), Value.map (some b), Value.func (.func 106) #[] #[.pointer (some ⟨Bf, 0, none⟩), .pointer (some ⟨Bq, 0, none⟩)], Value.agg (planZ h wd x.1 x.2), undef, undef, undef, undef, undef, undef, undef, undef], defers := [] })
    (fun x a' W l o h h1 h2 h3 => by
      obtain ⟨G, g1, g2, g3⟩ := h
      obtain ⟨r, hr⟩ := h3
      refine ⟨G, g1, (World.putObj_heap_other (fun e => ?_)).trans g2, g3⟩
      subst e
      rw [show W.heap[G]? = _ from g2] at hr
      cases hr)
    ?assign ?body ?done
  case assign =>
    rintro m hmm l pre x rest W K hx ⟨⟨hm1, b31, b51, hs1⟩, hB1, hgw⟩ hK
    have HSZP := Lib.hid (planZ_info h wd x.1 x.2)
    have HS0P := Lib.hid (show zeroC.size = (planZ h wd x.1 x.2).size by rw [planZ_size]; rfl)
    have HONP := Lib.hid (planZ_one h wd x.1 x.2)
    simp only [encZ]
    generalize planZ h wd x.1 x.2 = C at *
    rw [fold_one]
    simp only [List.setIfInBounds_toArray, List.set_cons_succ, List.set_cons_zero]
    gi_wp2_with (first
      | (refine wpListIn_alloc_zero rfl 47 rfl zeroC zero_plan ?_)
      | (refine wpListIn_store_new rfl 47 _ _ rfl W zeroC C rfl rfl rfl HSZP.out HS0P.out HONP.out ?_))
    exact hK _ _ (below_alloc _ _) ⟨W.heap.size, hgw, HeldB.new W _ _, rfl⟩
  case body =>
    rintro m hmm l pre x rest a' W hx ⟨⟨hm1, b31, b51, hs1⟩, hB1, hgw⟩ ⟨G, hG, bX, rfl⟩
    have h1' : 1 ≤ m := by omega
    have hmem : x ∈ xs := by rw [hx]; simp
    obtain ⟨hmx, hLx, hpx, h7x⟩ := HLF.out x hmem
    have hll := hlen
    rw [hx, List.length_append, List.length_cons] at hll
    have HTL := Lib.hid (fun w => permZ_any hLx hmx hpx h7x w)
    have hdk : domQ (prmZ h wd x) := permL_isP hpx h7x
    have HSZP := Lib.hid (planZ_info h wd x.1 x.2)
    have hml : (pre.map (prmZ h wd)).length < 1000001 := by rw [List.length_map]; omega
    have HMS := Lib.hid (show (pre ++ [x]).map (prmZ h wd) = pre.map (prmZ h wd) ++ [prmZ h wd x] by simp)
    change Hid (∀ w, Calls Try.prog _ _ w fun e w' => e = .returned (.agg (numC (padL (prmZ h wd x)))) ∧ _) at HTL
    obtain ⟨M, hM⟩ : ∃ M, M = pre.map (prmZ h wd) := ⟨_, rfl⟩
    rw [← hM] at hml hm1
    have HMM := Lib.hid hM
    obtain ⟨k, hkk⟩ : ∃ k, k = prmZ h wd x := ⟨_, rfl⟩
    rw [← hkk] at HTL hdk
    have HKK := Lib.hid hkk
    clear hM hkk
    have HLK := Lib.hid (fun (w' : World) (hS : Below W.heap.size W w') => show (Instr.lookup 82 (.map (some b)) (.agg (numC (padL k))) false).run Try.prog w' = .ok (.int .i64 (prmCount M k : Nat)) w' from (hm1.below hS).look key_perm hdk)
    have HIN := Lib.hid (fun (w' : World) (hS : Below W.heap.size W w') => show ∃ (v0 : Value) (st : Nat) (w1 : World), (Instr.mapEntry 82 (.map (some b)) (.agg (numC (padL k)))).run Try.prog w' = .ok (.tuple #[v0, .int .i64 (st : Int)]) w1 ∧ w'.grownBy w1 (some b) ∧
      (Instr.lookup 82 (.map (some b)) (.agg (numC (padL k))) false).run Try.prog w1 = .ok (.int .i64 (prmCount M k : Nat)) w1 ∧
      ∃ w2, (Instr.entryStore 82 (.map (some b)) (.int .i64 (st : Int)) (.int .i64 ((prmCount M k : Int) + 1))).run Try.prog w1 = .ok () w2 ∧ CntG 85 litQ domQ w2 b (M ++ [k]) ∧ w1.grownBy w2 (some b) from (hm1.below hS).inc key_perm perm_law hdk hml)
    have hc6 : prmCount M k ≤ 1000000 := Nat.le_trans (prmCount_le M k) (by omega)
    generalize planZ h wd x.1 x.2 = C at *
    generalize numC (padL k) = Q at *
    generalize prmCount M k = c at *
    have HWR := Lib.hid (show IntKind.i64.wrap ((c : Int) + 1) = (c : Int) + 1 from IntWalk.i64_in _ (by omega))
    clear hdk hmem hx hml hmx hLx hpx h7x
    gi_wp2
    refine wpIn_region_any (by kernel_rfl) ?_
    change wpAnyIn _ _ _ _ _ _ _ _ _ (World.drew _)
    refine anyIn_inv (Inv := fun listed a w' => ∃ p0 p1 p2 p3 p4 p5 p6 p7 p8 : Bool, ∃ (v0 : Value) (st : Nat), listed = #[p0, p1, p2, p3, p4, p5, p6, p7, p8] ∧ a = { tmps := #[Value.map (some b), Value.func (.func 106) #[] #[.pointer (some ⟨Bf, 0, none⟩), .pointer (some ⟨Bq, 0, none⟩)], Value.func (.func 54) #[] #[], Value.pointer (some ⟨w.heap.size, 0, none⟩), undef, Value.pointer (some ⟨w.heap.size + 1, 0, none⟩), Value.pointer (some ⟨G, 0, none⟩), Value.map (some b), Value.func (.func 106) #[] #[.pointer (some ⟨Bf, 0, none⟩), .pointer (some ⟨Bq, 0, none⟩)], Value.agg C, (cond p0 (Value.map (some b)) undef), (cond p1 (Value.func (.func 54) #[] #[]) undef), (cond p2 (Value.agg C) undef), (cond p3 (Value.agg Q) undef), (cond p4 (Value.int IntKind.i64 c) undef), (cond p5 (Value.int IntKind.i64 (c + 1)) undef), (cond p6 (Value.tuple #[v0, .int .i64 (st : Int)]) undef), (cond p7 (Value.int IntKind.i64 (st : Int)) undef)], defers := [] } ∧ ((p6 = false → Below W.heap.size W w') ∧ (p6 = true → p8 = false → MidQ W b c M k Q st w') ∧ (p8 = true → CntG 85 litQ domQ w' b (M ++ [k]) ∧ W.grownBy w' (some b)) ∧ (p6 = true → p0 = true ∧ p1 = true ∧ p2 = true ∧ p3 = true) ∧ (p8 = true → p4 = true ∧ p5 = true ∧ p6 = true ∧ p7 = true) ∧ (p7 = true → p6 = true))) ?step ?fin 9 _ _ _ (by decide) ⟨false, false, false, false, false, false, false, false, false, undef, 0, rfl, rfl, ⟨fun _ => below_drewN _ _ 1, fun e => absurd e (by decide), fun e => absurd e (by decide), fun e => absurd e (by decide), fun e => absurd e (by decide), fun e => absurd e (by decide)⟩⟩
    case step =>
      rintro listed a w' i ⟨p0, p1, p2, p3, p4, p5, p6, p7, p8, v0, st, rfl, rfl, hB, hC, hD, hA, hA8, hA7⟩ hr
      have hi := ready_lt hr
      have hi9 : i < 9 := (Array.getElem?_eq_some_iff.1 hi).1
      have hcase : i = 0 ∨ i = 1 ∨ i = 2 ∨ i = 3 ∨ i = 4 ∨ i = 5 ∨ i = 6 ∨ i = 7 ∨ i = 8 := by omega
      rcases hcase with rfl | rfl | rfl | rfl | rfl | rfl | rfl | rfl | rfl
      · skip
        have qi : p0 = false := by simpa using hi
        have q6 : p6 = false := by
          cases hp6 : p6
          · rfl
          · have := hA hp6; simp_all
        subst q6
        have q8 : p8 = false := by
          cases hp8 : p8
          · rfl
          · have := hA8 hp8; simp_all
        subst q8
        have hS := hB rfl
        clear hr hi hi9 hB hC hD hA hA8
        have c3 := (b31.below hS).cell 0
        refine wpOpIn_step rfl (fun K hK => ?_)
        go_simp
        refine hK _ _ ?_
        exact ⟨true, p1, p2, p3, p4, p5, false, p7, false, v0, st, rfl, rfl, ⟨fun _ => hS, fun e => absurd e (by decide), fun e => absurd e (by decide), fun e => absurd e (by decide), fun e => absurd e (by decide), hA7⟩⟩
      · skip
        have qi : p1 = false := by simpa using hi
        have q6 : p6 = false := by
          cases hp6 : p6
          · rfl
          · have := hA hp6; simp_all
        subst q6
        have q8 : p8 = false := by
          cases hp8 : p8
          · rfl
          · have := hA8 hp8; simp_all
        subst q8
        have hS := hB rfl
        clear hr hi hi9 hB hC hD hA hA8
        have c5 := (b51.below hS).cell 0
        refine wpOpIn_step rfl (fun K hK => ?_)
        go_simp
        refine hK _ _ ?_
        exact ⟨p0, true, p2, p3, p4, p5, false, p7, false, v0, st, rfl, rfl, ⟨fun _ => hS, fun e => absurd e (by decide), fun e => absurd e (by decide), fun e => absurd e (by decide), fun e => absurd e (by decide), hA7⟩⟩
      · skip
        have qi : p2 = false := by simpa using hi
        have q6 : p6 = false := by
          cases hp6 : p6
          · rfl
          · have := hA hp6; simp_all
        subst q6
        have q8 : p8 = false := by
          cases hp8 : p8
          · rfl
          · have := hA8 hp8; simp_all
        subst q8
        have hS := hB rfl
        clear hr hi hi9 hB hC hD hA hA8
        have bX' := bX.below hS
        refine wpOpIn_loadR rfl (by rfl) 47 _ rfl G (by rfl) 47 C (0, 0) _ bX' Try.underlying47 rfl HSZP.out ?_
        exact ⟨p0, p1, true, p3, p4, p5, false, p7, false, v0, st, rfl, rfl, ⟨fun _ => hS, fun e => absurd e (by decide), fun e => absurd e (by decide), fun e => absurd e (by decide), fun e => absurd e (by decide), hA7⟩⟩
      · have e1 := ready_after hr rfl (e := ⟨1, .data⟩) (by simp) rfl
        simp at e1
        subst e1
        have e2 := ready_after hr rfl (e := ⟨2, .data⟩) (by simp) rfl
        simp at e2
        subst e2
        have qi : p3 = false := by simpa using hi
        have q6 : p6 = false := by
          cases hp6 : p6
          · rfl
          · have := hA hp6; simp_all
        subst q6
        have q8 : p8 = false := by
          cases hp8 : p8
          · rfl
          · have := hA8 hp8; simp_all
        subst q8
        have hS := hB rfl
        clear hr hi hi9 hB hC hD hA hA8
        refine wpOpIn_step rfl (fun K hK => ?_)
        go_simp
        refine (CallsIn.inRound l (callsIn_wide.2 (HTL.out _))).mono ?_
        rintro e w3 ⟨rfl, hb3⟩
        refine hK _ _ ?_
        exact ⟨p0, true, true, true, p4, p5, false, p7, false, v0, st, rfl, rfl, ⟨fun _ => below_step hS hS.size hb3, fun e => absurd e (by decide), fun e => absurd e (by decide), fun e => absurd e (by decide), fun e => absurd e (by decide), hA7⟩⟩
      · have e0 := ready_after hr rfl (e := ⟨0, .data⟩) (by simp) rfl
        simp at e0
        subst e0
        have e3 := ready_after hr rfl (e := ⟨3, .data⟩) (by simp) rfl
        simp at e3
        subst e3
        have qi : p4 = false := by simpa using hi
        have q8 : p8 = false := by
          cases hp8 : p8
          · rfl
          · have := hA8 hp8; simp_all
        subst q8
        clear hr hi hi9
        have hlk : (Instr.lookup 82 (.map (some b)) (.agg Q) false).run Try.prog w' = .ok (.int .i64 (c : Int)) w' := by
          cases hp6 : p6
          · exact HLK.out w' (hB hp6)
          · exact (hC hp6 rfl).2.1
        refine wpOpIn_step rfl (fun K hK => ?_)
        go_simp
        refine hK _ _ ?_
        exact ⟨true, p1, p2, true, true, p5, p6, p7, false, v0, st, rfl, rfl, ⟨hB, hC, fun e => absurd e (by decide), hA, fun e => absurd e (by decide), hA7⟩⟩
      · have e4 := ready_after hr rfl (e := ⟨4, .data⟩) (by simp) rfl
        simp at e4
        subst e4
        have qi : p5 = false := by simpa using hi
        have q8 : p8 = false := by
          cases hp8 : p8
          · rfl
          · have := hA8 hp8; simp_all
        subst q8
        clear hr hi hi9
        refine wpOpIn_step rfl (fun K hK => ?_)
        go_simp
        rw [HWR.out]
        refine hK _ _ ?_
        exact ⟨p0, p1, p2, p3, true, true, p6, p7, false, v0, st, rfl, rfl, ⟨hB, hC, fun e => absurd e (by decide), hA, fun e => absurd e (by decide), hA7⟩⟩
      · have e0 := ready_after hr rfl (e := ⟨0, .data⟩) (by simp) rfl
        simp at e0
        subst e0
        have e3 := ready_after hr rfl (e := ⟨3, .data⟩) (by simp) rfl
        simp at e3
        subst e3
        have e1 := ready_after hr rfl (e := ⟨1, .phase⟩) (by simp) rfl
        simp at e1
        subst e1
        have e2 := ready_after hr rfl (e := ⟨2, .phase⟩) (by simp) rfl
        simp at e2
        subst e2
        have qi : p6 = false := by simpa using hi
        subst qi
        have q8 : p8 = false := by
          cases hp8 : p8
          · rfl
          · have := hA8 hp8; simp_all
        subst q8
        have hS := hB rfl
        have q7 : p7 = false := by
          cases hp7 : p7
          · rfl
          · exact absurd (hA7 hp7) (by decide)
        subst q7
        clear hr hi hi9 hB hC hD hA hA8 hA7
        obtain ⟨v1, st1, w1, hen, hg1, hlk1, w2, hst, hm2, hg2⟩ := HIN.out w' hS
        refine wpOpIn_step rfl (fun K hK => ?_)
        go_simp
        refine hK _ _ ?_
        exact ⟨true, true, true, true, p4, p5, true, false, false, v1, st1, rfl, rfl, ⟨fun e => absurd e (by decide), fun _ _ => ⟨grownBy_trans (grownBy_of_below hS _) hg1, hlk1, w2, hst, hm2, hg2⟩, fun e => absurd e (by decide), fun _ => ⟨rfl, rfl, rfl, rfl⟩, fun e => absurd e (by decide), fun _ => rfl⟩⟩
      · have e6 := ready_after hr rfl (e := ⟨6, .data⟩) (by simp) rfl
        simp at e6
        subst e6
        have qi : p7 = false := by simpa using hi
        obtain ⟨rfl, rfl, rfl, rfl⟩ := hA rfl
        have q8 : p8 = false := by
          cases hp8 : p8
          · rfl
          · have := hA8 hp8; simp_all
        subst q8
        clear hr hi hi9
        refine wpOpIn_step rfl (fun K hK => ?_)
        go_simp
        refine hK _ _ ?_
        exact ⟨true, true, true, true, p4, p5, true, true, false, v0, st, rfl, rfl, ⟨hB, hC, fun e => absurd e (by decide), hA, fun e => absurd e (by decide), fun _ => rfl⟩⟩
      · have e0 := ready_after hr rfl (e := ⟨0, .data⟩) (by simp) rfl
        simp at e0
        subst e0
        have e7 := ready_after hr rfl (e := ⟨7, .data⟩) (by simp) rfl
        simp at e7
        subst e7
        have e5 := ready_after hr rfl (e := ⟨5, .data⟩) (by simp) rfl
        simp at e5
        subst e5
        have e6 := ready_after hr rfl (e := ⟨6, .chain⟩) (by simp) rfl
        simp at e6
        subst e6
        have e1 := ready_after hr rfl (e := ⟨1, .phase⟩) (by simp) rfl
        simp at e1
        subst e1
        have e2 := ready_after hr rfl (e := ⟨2, .phase⟩) (by simp) rfl
        simp at e2
        subst e2
        have e3 := ready_after hr rfl (e := ⟨3, .phase⟩) (by simp) rfl
        simp at e3
        subst e3
        have e4 := ready_after hr rfl (e := ⟨4, .phase⟩) (by simp) rfl
        simp at e4
        subst e4
        have qi : p8 = false := by simpa using hi
        subst qi
        obtain ⟨m1, m2, w2, hst, hm2, hg2⟩ := hC rfl rfl
        clear hr hi hi9 hB hC hD hA hA8
        refine wpOpIn_step rfl (fun K hK => ?_)
        go_simp
        refine hK _ _ ?_
        exact ⟨true, true, true, true, true, true, true, true, true, v0, st, rfl, rfl, ⟨fun e => absurd e (by decide), fun _ e => absurd e (by decide), fun _ => ⟨hm2, grownBy_trans m1 hg2⟩, fun _ => ⟨rfl, rfl, rfl, rfl⟩, fun _ => ⟨rfl, rfl, rfl, rfl⟩, fun _ => rfl⟩⟩
    case fin =>
      rintro listed a w' ⟨p0, p1, p2, p3, p4, p5, p6, p7, p8, v0, st, rfl, rfl, hB, hC, hD, hA, hA8, hA7⟩ hr
      have hall : p8 = true := by
        clear hA hA7 hA8 hB hC hD
        revert p0 p1 p2 p3 p4 p5 p6 p7 p8
        decide +kernel
      obtain rfl := hall
      clear hr
      obtain ⟨hm2, hg2⟩ := hD rfl
      gi_wp2
      have hb31 := b31.lt
      have hb51 := b51.lt
      exact ⟨⟨⟨by rw [HMM.out, HKK.out] at hm2; first | exact hm2 | (rw [HMS.out]; exact hm2), b31.kept hg2 (by simp only [ne_eq, Option.some.injEq]; omega), b51.kept hg2 (by simp only [ne_eq, Option.some.injEq]; omega), HST.out.1 _ _ _ hs1 hg2 (fun g e => by cases e; exact hm1.block)⟩, grownBy_trans hB1 hg2, Nat.le_trans hgw hg2.size⟩, KeptFrom.of_grown hg2 (by have := hB2.size; omega)⟩
  case done =>
    rintro D W hD ⟨⟨hm1, b31, b51, hs1⟩, hB1, hgw⟩ hK
    gi_wp2
    refine ⟨by simp, .inl ⟨_, _, rfl, run_takeDeferred hK, ?_⟩⟩
    have hbK := fun o' => belowK_b (w := w) (Nat.le_refl _) W D _ o' (by have := hB2.size; omega) hK rfl rfl
    refine ⟨.tuple #[], ?_, ⟨rfl, hm1.same ((hbK _).block b hltb), grownBy_low hB1 (hbK _) (Nat.le_refl _)⟩⟩
    simp [results, Try.f52, go_sem]
end Go.Proofs.Ytpgcpmfemcfoaaa
