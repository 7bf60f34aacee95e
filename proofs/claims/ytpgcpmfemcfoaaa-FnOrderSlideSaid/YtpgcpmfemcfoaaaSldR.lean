/-
  Merged texts: RndB Sld SldM.
-/
import Derived.Test.YtpgcpmfemcfoaaaRndR
import Derived.Test.YtpgcpmfemcfoaaaImplDER
import Derived.Test.YtpgcpmfemcfoaaaFilVR
import Derived.Test.YtpgcpmfemcfoaaaFilPR
import Derived.Test.YtpgcpmfemcfoaaaOrdEFR
import Derived.Sort.QuietIn

/-
  Single operations of a region that draws its order, within a round: loads of whole rows.
-/
namespace Go.Proofs.Ytpgcpmfemcfoaaa
open Go.RowKit Go.Shelf

theorem fold_one (t : Array Value) (k : Tmp) (v : Value) : ((#[k] : Array Tmp).zip #[v]).foldl (fun t (p, v) => t.setIfInBounds p v) t = t.setIfInBounds k v := by simp
theorem wpOpIn_loadR {F : Fence} {n : Nat} {P : Program} {ops : Array Oper} {Q : Exit → Act → World → Prop} {i : Nat} {o : Oper} {K : Act → World → Prop} {a : Act} {w : World} (ho : ops[i]? = some o) (hw : Region.wanted o (yielded ops a.tmps) = true) (ty : TypeId) (x : Operand) (hop : o.op = .load ty x)
    (g : Nat) (hx : a.eval x = .pointer (some ⟨g, 0, none⟩)) (t : TypeId) (cs : Array Value) (fr : Nat × Nat) (d : TypeDesc) (hg : w.heap[g]? = some (.cells cs t fr))
    (hu : P.underlying ty = some d) (hd : (match d with | .struct _ | .array _ _ => true | _ => false) = true) (hi : (P.info? ty).map (·.size) = some cs.size)
    (h : K (a.put o.dst (.agg cs)) w) : wpOpIn F n P ops Q i K a w := by
  unfold wpOpIn
  rw [ho]
  simp only [hw, if_true]
  unfold Oper.wpIn
  refine ⟨?_, ?_⟩
  · simp [Oper.about, hop]
  · rw [Oper.semAt_plain F _ _ (by rw [hop]; intro c hc'; cases hc')]
    have hr := run_loadVar_row (P := P) w g t ty cs fr d hg hu hd hi
    unfold execOp
    simp only [hop, hx, Instr.loadAt, Instr.sureAddr, Sem.run_bind, Sem.run_pure, Result.andThen_ok, hr]
    exact h
end Go.Proofs.Ytpgcpmfemcfoaaa

/-
  The program's OrderSlide: all plans asked. (Walks inside a fence.)
-/
namespace Go.Proofs.Ytpgcpmfemcfoaaa
open Go.RowKit Go.Shelf

attribute [local go_sem] Oper.semAt_some

/-- a plan of the list, as the program has it -/
theorem Leaf.read {h wd : Nat} {y : PZ} (L : Leaf h wd y) (hy : y ∈ allZ h wd) : planZ h wd y.1 y.2 = planC (planH (txtZ h wd y.2)) (planW (txtZ h wd y.2)) (planR (txtZ h wd y.2)) (planG (txtZ h wd y.2)) := by
  rw [L.cells hy]
  unfold planH planW planR planG
  rw [if_pos L.plan, if_pos L.plan, if_pos L.plan, if_pos L.plan]
/-- what the program tells of such a plan -/
structure Tells (C : Array Value) (p : List ByteArray) : Prop where
  plain : ∀ w, Calls Try.prog 33 #[.agg C] w fun e w' => e = .returned (.bool (plainB p)) ∧ Below w.heap.size w w'
  order : plainB p = true → ∀ w, Calls Try.prog 35 #[.agg C] w fun e w' => e = .returned (.agg (ordP p)) ∧ Below w.heap.size w w'
theorem Leaf.tells {h wd : Nat} {y : PZ} (L : Leaf h wd y) (hy : y ∈ allZ h wd) : Tells (planZ h wd y.1 y.2) (txtZ h wd y.2) := by
  have hp := L.plan
  refine ⟨fun w => ?_, fun hpl w => ?_⟩
  · have := isPlain_any (planH (txtZ h wd y.2)) (planW (txtZ h wd y.2)) (planR (txtZ h wd y.2)) (planG (txtZ h wd y.2)) w (planH_le _) (planW_le _)
    rw [meet_cross, ← L.read hy] at this
    unfold plainB
    rw [hp, Bool.true_and]
    exact this
  · have G := (planP_of hp)
    have := order_any (txtZ h wd y.2).length (wideB (txtZ h wd y.2)) (gridR (txtZ h wd y.2)) (gridG (txtZ h wd y.2)) w G.grid.h6 G.grid.w6 G.few (fun i j hi hj => gridG_lt hi hj)
    rw [← L.cells hy, L.cells hy, ← ordP_yes hpl, ← L.cells hy] at this
    exact this
/-- how many plans of a list are as asked -/
def cntZ (q : List ByteArray → Bool) (h wd : Nat) (l : List PZ) : Nat := l.countP fun y => q (txtZ h wd y.2)
theorem cntZ_le (q : List ByteArray → Bool) (h wd : Nat) (l : List PZ) : cntZ q h wd l ≤ l.length := List.countP_le_length
theorem cntZ_snoc (q : List ByteArray → Bool) (h wd : Nat) (l : List PZ) (x : PZ) : cntZ q h wd (l ++ [x]) = cntZ q h wd l + if q (txtZ h wd x.2) = true then 1 else 0 := by
  unfold cntZ
  rw [List.countP_append, List.countP_singleton]

/-- whether all plans are asked; how many are found -/
def slideOk (p : List ByteArray) : Bool := plainB p && decide (p.length * wideB p ≤ 9)
def slideQ (p q : List ByteArray) : Bool := plainB q && decide (intsL (permL q) = intsL (permL p))
def slideN (p : List ByteArray) : Nat := if slideOk p = true then cntZ (slideQ p) p.length (wideB p) (allZ p.length (wideB p)) else 0

set_option maxRecDepth 100000 in
set_option maxHeartbeats 8000000 in
theorem implSlide_in (f : Nat) (hf : 60 ≤ f) (ao : Option Addr) (cap : Nat) (p : List ByteArray) (w : World) (hl : p.length ≤ 1048576) (hs : ∀ s ∈ p, s.size ≤ 1048576) (hc : CellsAt w ao (p.map Value.string)) (hpl : plainB p = true) (h9 : p.length * wideB p ≤ 9) :
    CallsIn Fence.wide f Try.prog 10 #[.slice ao p.length cap] w fun e W' => e = .returned (.tuple #[.int .i64 ((cntZ (slideQ p) p.length (wideB p) (allZ p.length (wideB p)) : Nat) : Int), .bool true]) ∧ Below w.heap.size w W' := by
  have hF : ∀ k, Fence.wide.fn k := fun _ => trivial
  have hn1 : 1 ≤ f := by omega
  have hp := planP_of (plainB_plan hpl)
  have d1 := hp.grid.h1; have d6 := hp.grid.h6; have e1 := hp.grid.w1; have e6 := hp.grid.w6
  have HRO := Lib.hid (readOrder_any ao cap p w hl hs hc)
  have HZ0 := Lib.hid zero_ordC
  have HZS := Lib.hid (show (ordC zeroC noF).size = 201 from ordC_size (planC_size _ _ _ _) _)
  have HI := Lib.hid (ordP_info p)
  have HS := Lib.hid (ordP_size p)
  have H1 := Lib.hid (ordP_one p)
  have HPM := Lib.hid (fun w => permP_any p w)
  have HLN := Lib.hid (show (permL p).length ≤ 9 by rw [permL_len]; exact oR_le p)
  have HO0 := Lib.hid (show (ordP p)[0]? = some (.int .i64 (p.length : Int)) by rw [ordP_yes hpl, ordC_lo _ (by rw [planC_size]; omega)]; exact planC_0 _ _ _ _)
  have HO1 := Lib.hid (show (ordP p)[1]? = some (.int .i64 (wideB p : Int)) by rw [ordP_yes hpl, ordC_lo _ (by rw [planC_size]; omega)]; exact planC_1 _ _ _ _)
  rw [hpl] at HRO
  have HLF := Lib.hid (fun y (hy : y ∈ allZ p.length (wideB p)) => (leaf d1 d6 e1 e6 h9 hy).tells hy)
  have HLE := Lib.hid (allZ_few d6 e6 h9)
  generalize ordP p = O at *
  have hOH := HeldB.new w 52 O
  have hZO := HeldB.new w 52 (ordC zeroC noF)
  generalize ordC zeroC noF = Z at *
  generalize hh : p.length = h at *
  generalize hw : wideB p = wd at *
  have HSZ := Lib.hid (show Z.size = O.size by rw [HZS.out, HS.out])
  have hd9 : decide ((h : Int) * (wd : Int) > 9) = false := by rw [decide_eq_false_iff_not]; omega
  refine callsIn_of_wp_marks Try.func10 rfl trivial ?_ rfl
  simp only [Try.ntmps10, List.size_toArray, List.length_cons, List.length_nil, Nat.reduceAdd, Nat.reduceSub, Array.replicate_succ, Array.replicate_zero, List.push_toArray, List.append_toArray, List.nil_append, List.cons_append]
  gi_wp2_with (first
    | (gi_at_call 30; refine (callsIn_wide.2 HRO.out).mono ?_; rintro e W1 ⟨rfl, hb1⟩; have ho0 := HO0.out; have ho1 := HO1.out; have bO := HeldB.new W1 52 O)
    | (refine wpListIn_load_row rfl 52 _ rfl W1.heap.size rfl 52 O (0, 0) _ bO Try.underlying52 rfl HI.out ?_)
    | (gi_at_call 31; refine (callsIn_wide.2 (HPM.out _)).mono ?_; rintro e W2 ⟨⟨g, hg, rfl, bG⟩, hb2⟩; have bO2 := ((bO.below hb2).alloc (.cells #[.slice (some ⟨g, 0, none⟩) (permL p).length (permL p).length] 32)).alloc (.cells #[.int .i64 0] 3); have c20 := (bO2.cell 0).trans ho0; have c21 := (bO2.cell 1).trans ho1)
    | (gi_at_call 32; refine (callsIn_wide.2 (allPlans_any h wd _ d6 e6)).mono ?_; rintro e W0 ⟨B, rfl, hBB, bN, hb3⟩)
    | (refine wpListIn_alloc_zero rfl 52 rfl Z HZ0.out ?_)
    | (refine wpListIn_store_new rfl 52 _ _ rfl W1 Z O rfl rfl rfl HI.out HSZ.out H1.out ?_))
  have hg1 := hb2.size
  simp only [World.size_alloc] at hg hg1
  have hgl := bG.lt
  have bPh := ((HeldB.new W2 32 #[.slice (some ⟨g, 0, none⟩) (permL p).length (permL p).length]).alloc (.cells #[.int .i64 0] 3)).below hb3
  have bM := (HeldB.new (W2.alloc (.cells #[.slice (some ⟨g, 0, none⟩) (permL p).length (permL p).length] 32)) 3 #[.int .i64 0]).below hb3
  have bG0 := ((bG.alloc (.cells #[.slice (some ⟨g, 0, none⟩) (permL p).length (permL p).length] 32)).alloc (.cells #[.int .i64 0] 3)).below hb3
  have hB0 : Below w.heap.size w W0 := below_step (((below_step ((hb1.alloc hb1.size (.cells O 52))) (by have := hb1.size; simp; omega) hb2).alloc (by have := hb1.size; omega) (.cells #[.slice (some ⟨g, 0, none⟩) (permL p).length (permL p).length] 32)).alloc (by have := hb1.size; simp; omega) (.cells #[.int .i64 0] 3)) (by have := hb1.size; simp; omega) hb3
  have hBB2 : B = W2.heap.size + 1 + 1 := by rw [hBB]; simp
  clear hBB
  subst hBB2
  simp only [World.size_alloc] at bM
  obtain ⟨P, hPe⟩ : ∃ P, P = W2.heap.size := ⟨_, rfl⟩
  rw [← hPe] at bPh bM bN hgl ⊢
  obtain ⟨OB, hOB⟩ : ∃ OB, OB = W1.heap.size := ⟨_, rfl⟩
  rw [← hOB] at hg hg1 ⊢
  have hlM := bM.lt
  have hwO : w.heap.size ≤ OB := by have := hb1.size; omega
  have hOP : OB + 1 ≤ P := by omega
  clear hPe hOB hg1
  clear hb1 hb2 hb3 bO bO2 bG hOH hZO c20 c21 ho0 ho1 HRO HPM HZ0 HO0 HO1
  generalize hXS : allZ h wd = xs at *
  have HXS := Lib.hid hXS; clear hXS
  refine rangeFunc_low rfl hn1 (gf := 66) (lb := #[.pointer (some ⟨P + 1 + 1, 0, none⟩)]) rfl trivial (enters_of Try.func66 (by kernel_rfl) rfl)
    (encs := encZ h wd) (fun _ => rfl) xs
    (fun pre W => (HeldB W P 32 #[.slice (some ⟨g, 0, none⟩) (permL p).length (permL p).length] ∧ HeldB W g 3 (setsV (permL p)) ∧ HeldB W (P + 1) 3 #[.int .i64 ((cntZ (slideQ p) h wd pre : Nat) : Int)]) ∧ Below w.heap.size w W ∧ W0.heap.size ≤ W.heap.size)
    (fun s U W h hb => ⟨⟨(hb.block _ (by omega)).trans h.1.1, (hb.block _ (by omega)).trans h.1.2.1, (hb.block _ hlM).trans h.1.2.2⟩, h.2.1.trans (hb.mono (by have := hB0.size; omega)), Nat.le_trans h.2.2 hb.size⟩)
    ⟨⟨bPh, bG0, bM⟩, hB0, Nat.le_refl _⟩
    (fun l J W1 hb hJ hY hj => by
      rw [← HXS.out] at hY ⊢
      exact allPlans_in d6 e6 _ (f - 1) (by omega) l J W1 (bN.below hb) hJ hY hj)
    (fun x a' W => ∃ G, W0.heap.size ≤ G ∧ HeldB W G 47 (planZ h wd x.1 x.2) ∧ a' = { tmps := #[Value.slice ao h cap, undef, Value.int IntKind.i64 0, Value.bool false, Value.pointer (some ⟨OB, 0, none⟩), Value.bool true, Value.pointer (some ⟨P, 0, none⟩), Value.pointer (some ⟨P + 1, 0, none⟩), Value.pointer (some ⟨G, 0, none⟩), Value.tuple #[Value.agg O, Value.bool true], Value.slice ao h cap, Value.tuple #[Value.agg O, Value.bool true], Value.agg O, Value.bool true, Value.bool true, Value.bool false, Value.bool false, Value.pointer (some ⟨OB, 0, none⟩), Value.pointer (some ⟨OB, 0, none⟩), Value.int IntKind.i64 h, Value.pointer (some ⟨OB, 0, none⟩), Value.pointer (some ⟨OB, 1, none⟩), Value.int IntKind.i64 wd, Value.int IntKind.i64 (h * wd), Value.bool false, Value.bool false, Value.agg O, Value.slice (some ⟨g, 0, none⟩) (permL p).length (permL p).length, Value.pointer (some ⟨OB, 0, none⟩), Value.pointer (some ⟨OB, 0, none⟩), Value.int IntKind.i64 h, Value.pointer (some ⟨OB, 0, none⟩), Value.pointer (some ⟨OB, 1, none⟩), Value.int IntKind.i64 wd, .func (.func 66) #[] #[.pointer (some ⟨P + 1 + 1, 0, none⟩)], .agg (planZ h wd x.1 x.2), undef, undef, undef, undef, undef, undef, undef, undef, undef, undef, undef, undef], defers := [] })
    (fun x a' W l o h h1 h2 h3 => by
      obtain ⟨G, g1, g2, g3⟩ := h
      obtain ⟨r, hr⟩ := h3
      refine ⟨G, g1, (World.putObj_heap_other (fun e => ?_)).trans g2, g3⟩
      subst e
      rw [show W.heap[G]? = _ from g2] at hr
      cases hr)
    ?assign ?body ?done
  case assign =>
    rintro m hm l pre x rest W K hx ⟨⟨bP1, bG1, bM1⟩, hB1, hgw⟩ hK
    have HSZP := Lib.hid (planZ_info h wd x.1 x.2)
    have HS0P := Lib.hid (show zeroC.size = (planZ h wd x.1 x.2).size by rw [planZ_size]; rfl)
    have HONP := Lib.hid (planZ_one h wd x.1 x.2)
    simp only [encZ]
    generalize planZ h wd x.1 x.2 = C at *
    rw [fold_one]
    simp only [List.setIfInBounds_toArray, List.set_cons_succ, List.set_cons_zero]
    gi_wp2_with (first
      | (refine wpListIn_alloc_zero rfl 47 rfl zeroC zero_plan ?_)
      | (refine wpListIn_store_new rfl 47 _ _ rfl W zeroC C rfl rfl rfl HSZP.out HS0P.out HONP.out ?_))
    exact hK _ _ (below_alloc _ _) ⟨W.heap.size, hgw, HeldB.new W _ _, rfl⟩
  case body =>
    rintro m hm l pre x rest a' W hx ⟨⟨bP1, bG1, bM1⟩, hB1, hgw⟩ ⟨G, hG, bX, rfl⟩
    have h1' : 1 ≤ m := by omega
    have hmem : x ∈ xs := by rw [hx]; simp
    have T0 := HLF.out x hmem
    have HPL := Lib.hid (fun w => T0.plain w)
    have HOR := Lib.hid (fun hq w => T0.order hq w)
    have HSZP := Lib.hid (planZ_info h wd x.1 x.2)
    have HSN := cntZ_snoc (slideQ p) h wd pre x
    have hle := cntZ_le (slideQ p) h wd pre
    have hl6 := HLE.out
    rw [hx, List.length_append, List.length_cons] at hl6
    have hcq : cntZ (slideQ p) h wd pre ≤ 1000000 := by omega
    have HPQ := Lib.hid (fun w => permP_any (txtZ h wd x.2) w)
    have HT9 := Lib.hid (show (intsL (permL (txtZ h wd x.2))).length ≤ 9 by rw [intsL_len, permL_len]; exact oR_le _)
    have HSQ : slideQ p (txtZ h wd x.2) = (plainB (txtZ h wd x.2) && decide (intsL (permL (txtZ h wd x.2)) = intsL (permL p))) := rfl
    clear T0 hmem hle hl6
    rw [HSQ] at HSN
    clear HSQ
    generalize cntZ (slideQ p) h wd pre = c at *
    generalize planZ h wd x.1 x.2 = C at *
    generalize txtZ h wd x.2 = q at *
    cases hpq : plainB q
    · rw [hpq] at HPL HSN
      rw [Bool.false_and, if_neg (by decide), Nat.add_zero] at HSN
      have HSN := Lib.hid HSN
      clear HOR HPQ hpq
      gi_wp2
      refine wpIn_region_any (by kernel_rfl) ?_
      change wpAnyIn _ _ _ _ _ _ _ _ _ (World.drew _)
      refine anyIn_inv (Inv := fun listed a w' => ∃ p0 p1 p2 p3 p4 p5 p6 p7 p8 : Bool, listed = #[p0, p1, p2, p3, p4, p5, p6, p7, p8] ∧ a = { tmps := #[Value.slice ao h cap, undef, Value.int .i64 0, Value.bool false, Value.pointer (some ⟨OB, 0, none⟩), Value.bool true, Value.pointer (some ⟨P, 0, none⟩), Value.pointer (some ⟨P + 1, 0, none⟩), Value.pointer (some ⟨G, 0, none⟩), Value.tuple #[.agg O, .bool true], Value.slice ao h cap, Value.tuple #[.agg O, .bool true], Value.agg O, Value.bool true, Value.bool true, Value.bool false, Value.bool false, Value.pointer (some ⟨OB, 0, none⟩), Value.pointer (some ⟨OB, 0, none⟩), Value.int .i64 h, Value.pointer (some ⟨OB, 0, none⟩), Value.pointer (some ⟨OB, 1, none⟩), Value.int .i64 wd, Value.int .i64 (h * wd), Value.bool false, Value.bool false, Value.agg O, Value.slice (some ⟨g, 0, none⟩) (permL p).length (permL p).length, Value.pointer (some ⟨OB, 0, none⟩), Value.pointer (some ⟨OB, 0, none⟩), Value.int .i64 h, Value.pointer (some ⟨OB, 0, none⟩), Value.pointer (some ⟨OB, 1, none⟩), Value.int .i64 wd, Value.func (.func 66) #[] #[.pointer (some ⟨P + 1 + 1, 0, none⟩)], Value.agg C, (cond p0 (Value.agg C) undef), (cond p1 (Value.bool false) undef), (cond p2 (Value.bool false) undef), undef, undef, undef, undef, undef, (cond p8 (Value.bool false) undef), undef, undef, undef], defers := [] } ∧ Below W.heap.size W w') ?step ?fin 9 _ _ _ (by decide) ⟨false, false, false, false, false, false, false, false, false, rfl, rfl, below_drewN _ _ 1⟩
      case step =>
        rintro listed a w' i ⟨p0, p1, p2, p3, p4, p5, p6, p7, p8, rfl, rfl, hS⟩ hr
        have hi := ready_lt hr
        have hi9 : i < 9 := (Array.getElem?_eq_some_iff.1 hi).1
        have bX' := bX.below hS
        have hcase : i = 0 ∨ i = 1 ∨ i = 2 ∨ i = 3 ∨ i = 4 ∨ i = 5 ∨ i = 6 ∨ i = 7 ∨ i = 8 := by omega
        rcases hcase with rfl | rfl | rfl | rfl | rfl | rfl | rfl | rfl | rfl
        · clear hr hi hi9
          refine wpOpIn_loadR rfl (by rfl) 47 _ rfl G (by rfl) 47 C (0, 0) _ bX' Try.underlying47 rfl HSZP.out ?_
          exact ⟨true, p1, p2, p3, p4, p5, p6, p7, p8, rfl, rfl, hS⟩
        · have e0 := ready_after hr rfl (e := ⟨0, .data⟩) (by simp) rfl
          simp at e0
          subst e0
          clear hr hi hi9
          refine wpOpIn_step rfl (fun K hK => ?_)
          go_simp
          refine (CallsIn.inRound l (callsIn_wide.2 (HPL.out _))).mono ?_
          rintro e w3 ⟨rfl, hb3⟩
          refine hK _ _ ?_
          exact ⟨true, true, p2, p3, p4, p5, p6, p7, p8, rfl, rfl, below_step hS hS.size hb3⟩
        · have e1 := ready_after hr rfl (e := ⟨1, .data⟩) (by simp) rfl
          simp at e1
          subst e1
          clear hr hi hi9
          refine wpOpIn_step rfl (fun K hK => ?_)
          go_simp
          refine hK _ _ ?_
          exact ⟨p0, true, true, p3, p4, p5, p6, p7, p8, rfl, rfl, hS⟩
        · have e2 := ready_after hr rfl (e := ⟨2, .guard⟩) (by simp) rfl
          simp at e2
          subst e2
          clear hr hi hi9
          refine wpOpIn_step rfl (fun K hK => ?_)
          go_simp
          refine hK _ _ ?_
          exact ⟨p0, p1, true, true, p4, p5, p6, p7, p8, rfl, rfl, hS⟩
        · have e2 := ready_after hr rfl (e := ⟨2, .guard⟩) (by simp) rfl
          simp at e2
          subst e2
          clear hr hi hi9
          refine wpOpIn_step rfl (fun K hK => ?_)
          go_simp
          refine hK _ _ ?_
          exact ⟨p0, p1, true, p3, true, p5, p6, p7, p8, rfl, rfl, hS⟩
        · have e2 := ready_after hr rfl (e := ⟨2, .guard⟩) (by simp) rfl
          simp at e2
          subst e2
          clear hr hi hi9
          refine wpOpIn_step rfl (fun K hK => ?_)
          go_simp
          refine hK _ _ ?_
          exact ⟨p0, p1, true, p3, p4, true, p6, p7, p8, rfl, rfl, hS⟩
        · have e2 := ready_after hr rfl (e := ⟨2, .guard⟩) (by simp) rfl
          simp at e2
          subst e2
          clear hr hi hi9
          refine wpOpIn_step rfl (fun K hK => ?_)
          go_simp
          refine hK _ _ ?_
          exact ⟨p0, p1, true, p3, p4, p5, true, p7, p8, rfl, rfl, hS⟩
        · have e2 := ready_after hr rfl (e := ⟨2, .guard⟩) (by simp) rfl
          simp at e2
          subst e2
          clear hr hi hi9
          refine wpOpIn_step rfl (fun K hK => ?_)
          go_simp
          refine hK _ _ ?_
          exact ⟨p0, p1, true, p3, p4, p5, p6, true, p8, rfl, rfl, hS⟩
        · have e2 := ready_after hr rfl (e := ⟨2, .data⟩) (by simp) rfl
          simp at e2
          subst e2
          have e7 := ready_after hr rfl (e := ⟨7, .data⟩) (by simp) rfl
          simp at e7
          subst e7
          clear hr hi hi9
          refine wpOpIn_step rfl (fun K hK => ?_)
          go_simp
          refine hK _ _ ?_
          exact ⟨p0, p1, true, p3, p4, p5, p6, true, true, rfl, rfl, hS⟩
      case fin =>
        rintro listed a w' ⟨p0, p1, p2, p3, p4, p5, p6, p7, p8, rfl, rfl, hS⟩ hr
        have hall : p8 = true := by
          clear HPL hS
          revert p0 p1 p2 p3 p4 p5 p6 p7 p8
          decide +kernel
        obtain rfl := hall
        clear hr
        gi_wp2
        exact ⟨⟨⟨bP1.below hS, bG1.below hS, bM1.below hS⟩, below_step hB1 hB1.size hS, Nat.le_trans hgw hS.size⟩, KeptFrom.of_below hS⟩
    · rw [hpq] at HPL HSN
      rw [Bool.true_and] at HSN
      have HOR := Lib.hid (HOR.out hpq)
      have HEQ := Lib.hid (fun (w' : World) (g2 : Nat) (a : HeldB w' g 3 (setsV (permL p))) (b : HeldB w' g2 3 (setsV (permL q))) => slicesEqualI_any (some ⟨g2, 0, none⟩) (some ⟨g, 0, none⟩) (permL q).length (permL p).length (permL q).length (permL p).length (intsL (permL q)) (intsL (permL p)) w' (intsL_len _) (intsL_len _) (by have := HT9.out; omega) (held_cells b) (held_cells a))
      generalize ordP q = D at *
      generalize hvv : decide (intsL (permL q) = intsL (permL p)) = vv at *
      clear hvv HT9
      generalize permL q = T at *
      have HSN := Lib.hid HSN
      clear hpq
      gi_wp2
      refine wpIn_region_any (by kernel_rfl) ?_
      change wpAnyIn _ _ _ _ _ _ _ _ _ (World.drew _)
      refine anyIn_inv (Inv := fun listed a w' => ∃ p0 p1 p2 p3 p4 p5 p6 p7 p8 : Bool, ∃ (g2 : Nat), listed = #[p0, p1, p2, p3, p4, p5, p6, p7, p8] ∧ a = { tmps := #[Value.slice ao h cap, undef, Value.int .i64 0, Value.bool false, Value.pointer (some ⟨OB, 0, none⟩), Value.bool true, Value.pointer (some ⟨P, 0, none⟩), Value.pointer (some ⟨P + 1, 0, none⟩), Value.pointer (some ⟨G, 0, none⟩), Value.tuple #[.agg O, .bool true], Value.slice ao h cap, Value.tuple #[.agg O, .bool true], Value.agg O, Value.bool true, Value.bool true, Value.bool false, Value.bool false, Value.pointer (some ⟨OB, 0, none⟩), Value.pointer (some ⟨OB, 0, none⟩), Value.int .i64 h, Value.pointer (some ⟨OB, 0, none⟩), Value.pointer (some ⟨OB, 1, none⟩), Value.int .i64 wd, Value.int .i64 (h * wd), Value.bool false, Value.bool false, Value.agg O, Value.slice (some ⟨g, 0, none⟩) (permL p).length (permL p).length, Value.pointer (some ⟨OB, 0, none⟩), Value.pointer (some ⟨OB, 0, none⟩), Value.int .i64 h, Value.pointer (some ⟨OB, 0, none⟩), Value.pointer (some ⟨OB, 1, none⟩), Value.int .i64 wd, Value.func (.func 66) #[] #[.pointer (some ⟨P + 1 + 1, 0, none⟩)], Value.agg C, (cond p0 (Value.agg C) undef), (cond p1 (Value.bool true) undef), (cond p2 (Value.bool true) undef), (cond p3 (Value.agg C) undef), (cond p4 (Value.agg D) undef), (cond p5 (Value.slice (some ⟨g2, 0, none⟩) T.length T.length) undef), (cond p6 (Value.slice (some ⟨g, 0, none⟩) (permL p).length (permL p).length) undef), (cond p7 (Value.bool vv) undef), (cond p8 (Value.bool vv) undef), undef, undef, undef], defers := [] } ∧ (Below W.heap.size W w' ∧ (p5 = true → W.heap.size ≤ g2 ∧ HeldB w' g2 3 (setsV T)))) ?step ?fin 9 _ _ _ (by decide) ⟨false, false, false, false, false, false, false, false, false, 0, rfl, rfl, below_drewN _ _ 1, fun e => absurd e (by decide)⟩
      case step =>
        rintro listed a w' i ⟨p0, p1, p2, p3, p4, p5, p6, p7, p8, g2, rfl, rfl, hS, h5⟩ hr
        have hi := ready_lt hr
        have hi9 : i < 9 := (Array.getElem?_eq_some_iff.1 hi).1
        have bX' := bX.below hS
        have bP' := bP1.below hS
        have bG' := bG1.below hS
        have hcase : i = 0 ∨ i = 1 ∨ i = 2 ∨ i = 3 ∨ i = 4 ∨ i = 5 ∨ i = 6 ∨ i = 7 ∨ i = 8 := by omega
        rcases hcase with rfl | rfl | rfl | rfl | rfl | rfl | rfl | rfl | rfl
        · clear hr hi hi9
          refine wpOpIn_loadR rfl (by rfl) 47 _ rfl G (by rfl) 47 C (0, 0) _ bX' Try.underlying47 rfl HSZP.out ?_
          exact ⟨true, p1, p2, p3, p4, p5, p6, p7, p8, g2, rfl, rfl, hS, h5⟩
        · have e0 := ready_after hr rfl (e := ⟨0, .data⟩) (by simp) rfl
          simp at e0
          subst e0
          clear hr hi hi9
          refine wpOpIn_step rfl (fun K hK => ?_)
          go_simp
          refine (CallsIn.inRound l (callsIn_wide.2 (HPL.out _))).mono ?_
          rintro e w3 ⟨rfl, hb3⟩
          refine hK _ _ ?_
          exact ⟨true, true, p2, p3, p4, p5, p6, p7, p8, g2, rfl, rfl, below_step hS hS.size hb3, fun q => ⟨(h5 q).1, (h5 q).2.below hb3⟩⟩
        · have e1 := ready_after hr rfl (e := ⟨1, .data⟩) (by simp) rfl
          simp at e1
          subst e1
          clear hr hi hi9
          refine wpOpIn_step rfl (fun K hK => ?_)
          go_simp
          refine hK _ _ ?_
          exact ⟨p0, true, true, p3, p4, p5, p6, p7, p8, g2, rfl, rfl, hS, h5⟩
        · have e2 := ready_after hr rfl (e := ⟨2, .guard⟩) (by simp) rfl
          simp at e2
          subst e2
          clear hr hi hi9
          refine wpOpIn_loadR rfl (by rfl) 47 _ rfl G (by rfl) 47 C (0, 0) _ bX' Try.underlying47 rfl HSZP.out ?_
          exact ⟨p0, p1, true, true, p4, p5, p6, p7, p8, g2, rfl, rfl, hS, h5⟩
        · have e3 := ready_after hr rfl (e := ⟨3, .data⟩) (by simp) rfl
          simp at e3
          subst e3
          have e2 := ready_after hr rfl (e := ⟨2, .guard⟩) (by simp) rfl
          simp at e2
          subst e2
          clear hr hi hi9
          refine wpOpIn_step rfl (fun K hK => ?_)
          go_simp
          refine (CallsIn.inRound l (callsIn_wide.2 (HOR.out _))).mono ?_
          rintro e w3 ⟨rfl, hb3⟩
          refine hK _ _ ?_
          exact ⟨p0, p1, true, true, true, p5, p6, p7, p8, g2, rfl, rfl, below_step hS hS.size hb3, fun q => ⟨(h5 q).1, (h5 q).2.below hb3⟩⟩
        · have e4 := ready_after hr rfl (e := ⟨4, .data⟩) (by simp) rfl
          simp at e4
          subst e4
          have e2 := ready_after hr rfl (e := ⟨2, .guard⟩) (by simp) rfl
          simp at e2
          subst e2
          clear hr hi hi9
          refine wpOpIn_step rfl (fun K hK => ?_)
          go_simp
          refine (CallsIn.inRound l (callsIn_wide.2 (HPQ.out _))).mono ?_
          rintro e w3 ⟨⟨g3, hg3, rfl, bT⟩, hb3⟩
          refine hK _ _ ?_
          exact ⟨p0, p1, true, p3, true, true, p6, p7, p8, g3, rfl, rfl, below_step hS hS.size hb3, fun _ => ⟨Nat.le_trans hS.size hg3, bT⟩⟩
        · have e2 := ready_after hr rfl (e := ⟨2, .guard⟩) (by simp) rfl
          simp at e2
          subst e2
          clear hr hi hi9
          have cP' := bP'.cell 0
          refine wpOpIn_step rfl (fun K hK => ?_)
          go_simp
          refine hK _ _ ?_
          exact ⟨p0, p1, true, p3, p4, p5, true, p7, p8, g2, rfl, rfl, hS, h5⟩
        · have e5 := ready_after hr rfl (e := ⟨5, .data⟩) (by simp) rfl
          simp at e5
          subst e5
          have e6 := ready_after hr rfl (e := ⟨6, .data⟩) (by simp) rfl
          simp at e6
          subst e6
          have e2 := ready_after hr rfl (e := ⟨2, .guard⟩) (by simp) rfl
          simp at e2
          subst e2
          clear hr hi hi9
          refine wpOpIn_step rfl (fun K hK => ?_)
          go_simp
          refine (CallsIn.inRound l (callsIn_wide.2 (HEQ.out w' g2 bG' (h5 rfl).2))).mono ?_
          rintro e w3 ⟨rfl, ⟨nq, rfl⟩⟩
          refine hK _ _ ?_
          exact ⟨p0, p1, true, p3, p4, true, true, true, p8, g2, rfl, rfl, by have := hS; exact ⟨this.os, this.tape, this.output, this.size, this.block⟩, fun q => h5 q⟩
        · have e2 := ready_after hr rfl (e := ⟨2, .data⟩) (by simp) rfl
          simp at e2
          subst e2
          have e7 := ready_after hr rfl (e := ⟨7, .data⟩) (by simp) rfl
          simp at e7
          subst e7
          clear hr hi hi9
          refine wpOpIn_step rfl (fun K hK => ?_)
          go_simp
          refine hK _ _ ?_
          exact ⟨p0, p1, true, p3, p4, p5, p6, true, true, g2, rfl, rfl, hS, h5⟩
      case fin =>
        rintro listed a w' ⟨p0, p1, p2, p3, p4, p5, p6, p7, p8, g2, rfl, rfl, hS, h5⟩ hr
        have hall : p8 = true := by
          clear HOR HPQ HEQ h5 hS
          revert p0 p1 p2 p3 p4 p5 p6 p7 p8
          decide +kernel
        obtain rfl := hall
        clear hr
        have fM := (bM1.below hS).frozen 0
        have cM := (bM1.below hS).cell 0
        cases vv
        · gi_wp2
          exact ⟨⟨⟨bP1.below hS, bG1.below hS, bM1.below hS⟩, below_step hB1 hB1.size hS, Nat.le_trans hgw hS.size⟩, KeptFrom.of_below hS⟩
        · gi_wp2
          exact ⟨⟨⟨(bP1.below hS).other (a := ⟨P + 1, 0, none⟩) (by show P ≠ P + 1; omega) _, (bG1.below hS).other (a := ⟨P + 1, 0, none⟩) (by show g ≠ P + 1; omega) _, (bM1.below hS).set1 _⟩, (below_step hB1 hB1.size hS).setCell (p := ⟨P + 1, 0, none⟩) (by show w.heap.size ≤ P + 1; omega) _, Nat.le_trans hgw hS.size⟩, (KeptFrom.of_below hS).cell _ _ _ (.inl hlM)⟩
  case done =>
    rintro D W hD ⟨⟨bP1, bG1, bM1⟩, hB1, hgw⟩ hK
    have cM := bM1.cell 0
    have hlX := bM1.lt
    gi_wp2
    refine ⟨by simp, .inl ⟨_, _, rfl, run_takeDeferred hK, ?_⟩⟩
    refine ⟨_, ?_, ⟨by rw [HXS.out], hB1.trans (belowK_b (w := w) (Nat.le_refl _) W D _ _ (by have := hB0.size; omega) hK rfl rfl)⟩⟩
    simp [results, Try.f10, go_sem]
end Go.Proofs.Ytpgcpmfemcfoaaa

/-
  OrderSlide, both sides. (Walks.)
-/
namespace Go.Proofs.Ytpgcpmfemcfoaaa
open Go.RowKit

set_option maxRecDepth 100000 in
set_option maxHeartbeats 4000000 in
theorem implSlide_no (ao : Option Addr) (cap : Nat) (p : List ByteArray) (w : World) (hl : p.length ≤ 1048576) (hs : ∀ s ∈ p, s.size ≤ 1048576) (hc : CellsAt w ao (p.map Value.string)) (hno : slideOk p = false) :
    Calls Try.prog 10 #[.slice ao p.length cap] w fun e W' => e = .returned (.tuple #[.int .i64 0, .bool false]) ∧ Below w.heap.size w W' := by
  have HRO := Lib.hid (readOrder_any ao cap p w hl hs hc)
  have HZ0 := Lib.hid zero_ordC
  have HI := Lib.hid (ordP_info p)
  have H1 := Lib.hid (ordP_one p)
  have HSZ := Lib.hid (show (ordC zeroC noF).size = (ordP p).size by rw [ordP_size]; exact ordC_size (planC_size _ _ _ _) _)
  cases hpl : plainB p
  · rw [hpl] at HRO
    generalize ordP p = O at *
    generalize ordC zeroC noF = Z at *
    clear hno hpl
    go_enter Try.func10, Try.ntmps10
    go_upto_region 2 with (first
      | (go_at_call 30; refine HRO.out.mono ?_; rintro e W1 ⟨rfl, hb1⟩)
      | (refine wpList_alloc_zero rfl 52 rfl Z HZ0.out ?_)
      | (refine wpList_store_new rfl 52 _ _ rfl W1 Z O rfl rfl rfl HI.out HSZ.out H1.out ?_))
    go_wp2
    go_ret2
    exact ⟨rfl, hb1.alloc hb1.size _⟩
  · have h9 : ¬ p.length * wideB p ≤ 9 := by
      unfold slideOk at hno
      rw [hpl, Bool.true_and, decide_eq_false_iff_not] at hno
      exact hno
    have hp := planP_of (plainB_plan hpl)
    have d6 := hp.grid.h6; have e6 := hp.grid.w6
    have HO0 := Lib.hid (show (ordP p)[0]? = some (.int .i64 (p.length : Int)) by rw [ordP_yes hpl, ordC_lo _ (by rw [planC_size]; omega)]; exact planC_0 _ _ _ _)
    have HO1 := Lib.hid (show (ordP p)[1]? = some (.int .i64 (wideB p : Int)) by rw [ordP_yes hpl, ordC_lo _ (by rw [planC_size]; omega)]; exact planC_1 _ _ _ _)
    rw [hpl] at HRO
    have hm : p.length * wideB p ≤ 36 := Nat.mul_le_mul d6 e6
    generalize ordP p = O at *
    generalize ordC zeroC noF = Z at *
    generalize p.length = h at *
    generalize wideB p = wd at *
    have hd9 : decide ((h : Int) * (wd : Int) > 9) = true := by
      have : ((h * wd : Nat) : Int) = (h : Int) * (wd : Int) := Int.natCast_mul _ _
      rw [decide_eq_true_eq]; omega
    clear hno hpl h9 hp
    go_enter Try.func10, Try.ntmps10
    go_upto_region 2 with (first
      | (go_at_call 30; refine HRO.out.mono ?_; rintro e W1 ⟨rfl, hb1⟩; have ho0 := HO0.out; have ho1 := HO1.out)
      | (refine wpList_alloc_zero rfl 52 rfl Z HZ0.out ?_)
      | (refine wpList_store_new rfl 52 _ _ rfl W1 Z O rfl rfl rfl HI.out HSZ.out H1.out ?_))
    go_wp2
    go_ret2
    exact ⟨rfl, hb1.alloc hb1.size _⟩
theorem implSlide_any (ao : Option Addr) (cap : Nat) (p : List ByteArray) (w : World) (hl : p.length ≤ 1048576) (hs : ∀ s ∈ p, s.size ≤ 1048576) (hc : CellsAt w ao (p.map Value.string)) :
    Calls Try.prog 10 #[.slice ao p.length cap] w fun e W' => e = .returned (.tuple #[.int .i64 ((slideN p : Nat) : Int), .bool (slideOk p)]) ∧ Below w.heap.size w W' := by
  unfold slideN
  cases h : slideOk p
  · rw [if_neg (by decide)]; exact implSlide_no ao cap p w hl hs hc h
  · rw [if_pos rfl]
    unfold slideOk at h
    rw [Bool.and_eq_true, decide_eq_true_eq] at h
    exact callsIn_wide.1 (implSlide_in 60 (Nat.le_refl _) ao cap p w hl hs hc h.1 h.2)

/-- a plan of a list of plans -/
theorem PlansV.at {w : World} {us : List Value} {L : List (List ByteArray)} (h : PlansV w us L) {i : Nat} (hi : i < L.length) : ∃ bo c, us[i]? = some (.slice bo (L.getD i []).length c) ∧ CellsAt w bo ((L.getD i []).map Value.string) := by
  have e : L[i]? = some (L.getD i []) := by simp [hi]
  obtain ⟨bo, c, h1, h2⟩ := h.2 i _ e
  exact ⟨bo, c, h1, h2.cells⟩
/-- what a loop over all plans knows of the list -/
structure AllAt (w : World) (g : Nat) (us : List Value) (h wd : Nat) : Prop where
  cells : CellsAt w (some ⟨g, 0, none⟩) us
  plans : PlansV w us (lstT h wd (allZ h wd))
theorem AllAt.below {w w' : World} {g : Nat} {us : List Value} {h wd : Nat} (A : AllAt w g us h wd) (hb : Below w.heap.size w w') : AllAt w' g us h wd := ⟨A.cells.below hb, A.plans.below hb⟩
theorem AllAt.at {w : World} {g : Nat} {us : List Value} {h wd : Nat} (A : AllAt w g us h wd) {i : Nat} (hi : i < (lstT h wd (allZ h wd)).length) : ∃ bo c, w.cell? ⟨g, i, none⟩ = some (.slice bo h c) ∧ CellsAt w bo (((lstT h wd (allZ h wd)).getD i []).map Value.string) := by
  obtain ⟨bo, c, h1, h2⟩ := A.plans.at hi
  obtain ⟨b, off, e, hc⟩ := A.cells i _ h1
  cases e
  have hl : ((lstT h wd (allZ h wd)).getD i []).length = h := by
    have : (lstT h wd (allZ h wd)).getD i [] ∈ lstT h wd (allZ h wd) := by simp [hi]
    unfold lstT at this ⊢
    obtain ⟨y, _, e⟩ := List.mem_map.1 this
    rw [← e]; exact txtZ_len _ _ _
  rw [hl, Nat.zero_add] at hc
  exact ⟨bo, c, hc, h2⟩
theorem lstT_leaf {h wd : Nat} (h1 : 1 ≤ h) (hh : h ≤ 6) (w1 : 1 ≤ wd) (hw : wd ≤ 6) (h9 : h * wd ≤ 9) {i : Nat} (hi : i < (lstT h wd (allZ h wd)).length) : planB ((lstT h wd (allZ h wd)).getD i []) = true ∧ ((lstT h wd (allZ h wd)).getD i []).length = h := by
  have : (lstT h wd (allZ h wd)).getD i [] ∈ lstT h wd (allZ h wd) := by simp [hi]
  unfold lstT at this ⊢
  obtain ⟨y, hy, e⟩ := List.mem_map.1 this
  rw [← e]
  exact ⟨(leaf h1 hh w1 hw h9 hy).plan, txtZ_len _ _ _⟩
theorem countP_step {α : Type} (q : α → Bool) (L : List α) (d : α) {i : Nat} (hi : i < L.length) : (L.take (i + 1)).countP q = (L.take i).countP q + if q (L.getD i d) = true then 1 else 0 := by
  rw [take_succ_getD L i d hi, List.countP_append, List.countP_singleton]
theorem cntZ_lst (q : List ByteArray → Bool) (h wd : Nat) : cntZ q h wd (allZ h wd) = (lstT h wd (allZ h wd)).countP q := by
  unfold cntZ lstT; rw [List.countP_map]; rfl

set_option maxRecDepth 100000 in
set_option maxHeartbeats 8000000 in
theorem specSlide_any (ao : Option Addr) (cap : Nat) (p : List ByteArray) (w : World) (hl : p.length ≤ 1048576) (hs : ∀ s ∈ p, s.size ≤ 1048576) (hc : CellsAt w ao (p.map Value.string)) :
    Calls Try.prog 11 #[.slice ao p.length cap] w fun e W' => e = .returned (.tuple #[.int .i64 ((slideN p : Nat) : Int), .bool (slideOk p)]) ∧ Below w.heap.size w W' := by
  have HPL := Lib.hid (l5Plain_any ao cap p w hl hs hc)
  cases hpl : plainB p
  · rw [hpl] at HPL
    have e1 : slideOk p = false := by unfold slideOk; rw [hpl]; rfl
    have e2 : slideN p = 0 := by unfold slideN; rw [e1]; rfl
    rw [e1, e2]
    clear hpl e1 e2
    go_enter Try.func11, Try.ntmps11
    go_wp2_with (go_at_call 36; refine HPL.out.mono ?_; rintro e w1 ⟨rfl, hb1⟩)
    go_ret2
    exact ⟨rfl, hb1⟩
  · rw [hpl] at HPL
    have hp := planP_of (plainB_plan hpl)
    have d1 := hp.grid.h1; have d6 := hp.grid.h6; have e1 := hp.grid.w1; have e6 := hp.grid.w6
    obtain ⟨b0, o0, rfl, h0⟩ := hc.str 0 (by omega)
    have hsz : (p.getD 0 ByteArray.empty).size = wideB p := rfl
    generalize p.getD 0 ByteArray.empty = s0 at *
    have hlt0 : World.cell? w ⟨b0, o0, none⟩ = some (.string s0) := by rw [Nat.add_zero] at h0; exact h0
    have hbl := World.block_lt_of_cell? _ _ hlt0
    have HC1 := Lib.hid (fun w1 (hb : Below w.heap.size w w1) => (hb.cell (p := ⟨b0, o0, none⟩) hbl).trans hlt0)
    have hm : p.length * wideB p ≤ 36 := Nat.mul_le_mul d6 e6
    have hm2 : ((p.length * wideB p : Nat) : Int) = (p.length : Int) * (wideB p : Int) := Int.natCast_mul _ _
    cases h9 : decide (p.length * wideB p ≤ 9)
    · have e1' : slideOk p = false := by unfold slideOk; rw [h9, Bool.and_false]
      have e2 : slideN p = 0 := by unfold slideN; rw [e1']; rfl
      rw [e1', e2]
      rw [decide_eq_false_iff_not] at h9
      have hd : decide ((p.length : Int) * (s0.size : Int) > 9) = true := by rw [decide_eq_true_eq, hsz]; omega
      have hpos : (0 : Int) < (p.length : Int) := by omega
      have hs6 : s0.size ≤ 6 := by omega
      have hms : p.length * s0.size ≤ 36 := Nat.mul_le_mul d6 hs6
      clear hp e1' e2 hpl h0 hlt0 hbl hm2 hm h9 hc
      generalize p.length = h at *
      clear hsz
      go_enter Try.func11, Try.ntmps11
      go_wp2_with (go_at_call 36; refine HPL.out.mono ?_; rintro e w1 ⟨rfl, hb1⟩; have c0 := HC1.out w1 hb1)
      go_ret2
      exact ⟨rfl, hb1⟩
    · rw [decide_eq_true_eq] at h9
      have e1' : slideOk p = true := by unfold slideOk; rw [hpl, Bool.true_and, decide_eq_true_eq]; exact h9
      have e2 : slideN p = (lstT p.length (wideB p) (allZ p.length (wideB p))).countP (slideQ p) := by unfold slideN; rw [e1', if_pos rfl]; exact cntZ_lst _ _ _
      rw [e1', e2]
      have hd : decide ((p.length : Int) * (s0.size : Int) > 9) = false := by rw [decide_eq_false_iff_not, hsz]; omega
      have hpos : (0 : Int) < (p.length : Int) := by omega
      have hs6 : s0.size ≤ 6 := by omega
      have hms : p.length * s0.size ≤ 36 := Nat.mul_le_mul d6 hs6
      have HPM := Lib.hid (fun w hc => l5Perm_any (some ⟨b0, o0, none⟩) cap p w hl hs hpl hc)
      have HPS := Lib.hid (fun w => by have := l5Plans_any d1 d6 e6 h9 w; rw [← hsz] at this; exact this)
      have HLF := Lib.hid (fun i (hi : i < (lstT p.length s0.size (allZ p.length s0.size)).length) => show planB ((lstT p.length s0.size (allZ p.length s0.size)).getD i []) = true ∧ ((lstT p.length s0.size (allZ p.length s0.size)).getD i []).length = p.length by rw [hsz] at hi ⊢; exact lstT_leaf d1 d6 e1 e6 h9 hi)
      have HAT := Lib.hid (fun w g us (A : AllAt w g us p.length s0.size) i hi => A.at (i := i) hi)
      have HLE := Lib.hid (show (lstT p.length s0.size (allZ p.length s0.size)).length ≤ 1000000 by rw [lstT_len, hsz]; exact allZ_few d6 e6 h9)
      have HST := Lib.hid (fun i hi => countP_step (slideQ p) (lstT p.length s0.size (allZ p.length s0.size)) [] (i := i) hi)
      have HSQ := Lib.hid (fun q => show slideQ p q = (plainB q && decide (intsL (permL q) = intsL (permL p))) from rfl)
      have HL9 := Lib.hid (fun q => show (intsL (permL q)).length ≤ 9 by rw [intsL_len, permL_len]; exact oR_le _)
      have hsz' : wideB p = s0.size := hsz.symm
      rw [hsz']
      clear hp e1' e2 hpl h0 hlt0 hbl hm2 hm h9 hsz hsz'
      generalize hh : p.length = h at *
      have HHH := Lib.hid hh; clear hh
      generalize slideQ p = Q at *
      generalize intsL (permL p) = T at *
      go_enter Try.func11, Try.ntmps11
      go_wp2_with (first
        | (go_at_call 36; refine HPL.out.mono ?_; rintro e w1 ⟨rfl, hb1⟩; have c0 := HC1.out w1 hb1)
        | (go_at_call 37; refine (HPM.out _ (hc.below hb1)).mono ?_; rintro e w2 ⟨ro, rc, rfl, hro, hb2⟩; have hb12 := below_step hb1 hb1.size hb2; have c02 := HC1.out w2 hb12)
        | (go_at_call 38; refine (HPS.out _).mono ?_; rintro e w3 ⟨⟨g, c, us, rfl, hr, hpv⟩, hb3⟩))
      have hA : AllAt w3 g us h s0.size := ⟨(own_at hr).2.1, hpv⟩
      have hTc : CellsAt w3 ro (T.map (Value.int .i64)) := (owns_cells hro).below hb3
      have hB3 := below_step hb12 hb12.size hb3
      clear hr hpv hro hb1 hb2 hb3 hb12 c0 c02 HPS HPM hc HC1 HPL
      generalize hLL : lstT h s0.size (allZ h s0.size) = L at *
      have HLL := Lib.hid hLL; clear hLL
      have HZ := Lib.hid (show (L.take 0).countP Q = 0 by simp)
      have hLle := HLE.out
      go_loopw [5, 7] (fun vn vi wr => ∃ i : Nat, i ≤ L.length ∧ vi = .int .i64 (i : Int) ∧ vn = .int .i64 (((L.take i).countP Q : Nat) : Int) ∧ Below w3.heap.size w3 wr) (fun _ vi _ => L.length - (intOf vi).toNat)
      case atStart => exact ⟨0, Nat.zero_le _, rfl, rfl, Below.refl _ _⟩
      case round =>
        obtain ⟨i, hi, rfl, rfl, hbr⟩ := hrel
        have hcn : (L.take i).countP Q ≤ 1000000 := Nat.le_trans List.countP_le_length (by rw [List.length_take]; omega)
        have hbW := below_step hB3 hB3.size hbr
        by_cases hlt : i < L.length
        · have hlt' : decide ((i : Int) < (L.length : Int)) = true := by rw [decide_eq_true_eq]; omega
          obtain ⟨hqp, hqh⟩ := HLF.out i hlt
          obtain ⟨bo, cc, hcell, hqc⟩ := HAT.out wr g us (hA.below hbr) i hlt
          have HS2 := HST.out i hlt
          obtain ⟨sq1, sq2⟩ := plan_small hqp
          have HQE := HSQ.out (L.getD i [])
          have HLQ := HL9.out (L.getD i [])
          generalize L.getD i [] = q at *
          have H1 := Lib.hid (fun w hc => l5Plain_any bo cc q w sq1 sq2 hc)
          have H2 := Lib.hid (fun hpl w hc => l5Perm_any bo cc q w sq1 sq2 hpl hc)
          rw [hqh] at H1 H2
          rw [HQE] at HS2
          have HTC := Lib.hid (hTc.below hbr)
          clear hqh HQE hqp sq1 sq2
          generalize (L.take i).countP Q = n at *
          cases hq : plainB q
          · rw [hq] at H1 HS2
            rw [Bool.false_and, if_neg (by decide), Nat.add_zero] at HS2
            replace HS2 := Lib.hid HS2
            clear H2 hq
            go_wp2_with (go_at_call 36; refine (H1.out _ hqc).mono ?_; rintro e w4 ⟨rfl, hb4⟩)
            go_roundw
            case rel => exact ⟨i + 1, by omega, by go_num, by rw [HS2.out]; rfl, below_step hbr hbr.size hb4⟩
            case measure => simp [intOf]; omega
          · rw [hq] at H1 HS2
            rw [Bool.true_and] at HS2
            have H2 := Lib.hid (H2.out hq)
            clear hq
            have HEQ := Lib.hid (fun (W : World) (qo : Option Addr) (qc : Nat) (h1 : CellsAt W qo ((intsL (permL q)).map (Value.int .i64))) (h2 : CellsAt W ro (T.map (Value.int .i64))) => l5Equal_any qo ro qc rc (intsL (permL q)).length T.length (intsL (permL q)) T W rfl rfl (by omega) h1 h2)
            cases hv : decide (intsL (permL q) = T)
            · rw [hv] at HEQ HS2
              rw [if_neg (by decide), Nat.add_zero] at HS2
              replace HS2 := Lib.hid HS2
              clear hv
              go_wp2_with (first
                | (go_at_call 36; refine (H1.out _ hqc).mono ?_; rintro e w4 ⟨rfl, hb4⟩; have hc4 := (hb4.cell (p := ⟨g, i, none⟩) (World.block_lt_of_cell? _ _ hcell)).trans hcell)
                | (go_at_call 37; refine (H2.out _ (hqc.below hb4)).mono ?_; rintro e w5 ⟨qo, qc, rfl, hqo, hb5⟩; clear hc4)
                | (go_at_call 39; refine (HEQ.out _ _ _ (owns_cells hqo) ((HTC.out.below hb4).below hb5)).mono ?_; rintro e w6 ⟨rfl, nq, rfl⟩))
              go_roundw
              case rel => exact ⟨i + 1, by omega, by go_num, by rw [HS2.out]; rfl, by have := (below_step (below_step hbr hbr.size hb4) (below_step hbr hbr.size hb4).size hb5); exact ⟨this.os, this.tape, this.output, this.size, this.block⟩⟩
              case measure => simp [intOf]; omega
            · rw [hv] at HEQ HS2
              rw [if_pos rfl] at HS2
              replace HS2 := Lib.hid HS2
              clear hv
              go_wp2_with (first
                | (go_at_call 36; refine (H1.out _ hqc).mono ?_; rintro e w4 ⟨rfl, hb4⟩; have hc4 := (hb4.cell (p := ⟨g, i, none⟩) (World.block_lt_of_cell? _ _ hcell)).trans hcell)
                | (go_at_call 37; refine (H2.out _ (hqc.below hb4)).mono ?_; rintro e w5 ⟨qo, qc, rfl, hqo, hb5⟩; clear hc4)
                | (go_at_call 39; refine (HEQ.out _ _ _ (owns_cells hqo) ((HTC.out.below hb4).below hb5)).mono ?_; rintro e w6 ⟨rfl, nq, rfl⟩))
              go_roundw
              case rel => exact ⟨i + 1, by omega, by go_num, by rw [HS2.out]; rfl, by have := (below_step (below_step hbr hbr.size hb4) (below_step hbr hbr.size hb4).size hb5); exact ⟨this.os, this.tape, this.output, this.size, this.block⟩⟩
              case measure => simp [intOf]; omega
        · obtain rfl : i = L.length := by omega
          have hlt' : decide ((L.length : Int) < (L.length : Int)) = false := by rw [decide_eq_false_iff_not]; omega
          have HE := Lib.hid (show (L.take L.length).countP Q = L.countP Q by rw [List.take_length])
          rw [HE.out] at hcn ⊢
          go_wp2
          go_ret2
          exact ⟨by rw [HLL.out]; rfl, hbW⟩
end Go.Proofs.Ytpgcpmfemcfoaaa
