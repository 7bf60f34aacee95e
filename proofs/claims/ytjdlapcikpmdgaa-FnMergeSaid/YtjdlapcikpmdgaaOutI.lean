
/-
  The rooms at a side of a plan: the program's answer. (Walks.)
-/
import Derived.Test.YtjdlapcikpmdgaaNums
import Derived.Test.YtjdlapcikpmdgaaOutl
import Derived.Test.YtjdlapcikpmdgaaCut
import Derived.OrdersHeld
import Derived.Maps.RangeWalk
namespace Go.Proofs.Ytjdlapcikpmdgaa
open Go.RowKit

/-- the cells of a box of whole numbers -/
def bxI (a b c d : Int) : Array Value := #[.int .i64 a, .int .i64 b, .int .i64 c, .int .i64 d]
theorem bx_one (a b c d : Int) : (bxI a b c d).all (·.oneCell') = true := by
  rw [Array.all_eq_true_iff_forall_mem]
  intro v hv
  unfold bxI at hv
  simp only [List.mem_toArray, List.mem_cons, List.not_mem_nil, or_false] at hv
  rcases hv with rfl | rfl | rfl | rfl <;> rfl
theorem bx_size (a b c d : Int) : (Try.prog.info? 62).map (·.size) = some (bxI a b c d).size := by rw [show (bxI a b c d).size = 4 from rfl]; kernel_rfl
theorem zero_bx : (#[.int .i64 0, .int .i64 0, .int .i64 0, .int .i64 0] : Array Value) = bxI 0 0 0 0 := rfl

/-- the cells at a side, as a box -/
def edgeX (h wd : Nat) (s : Int) : Array Value :=
  if s = 0 then bxI 0 0 1 wd else if s = 1 then bxI 0 ((wd : Int) - 1) h 1 else if s = 2 then bxI ((h : Int) - 1) 0 1 wd else if s = 3 then bxI 0 0 h 1 else bxI 0 0 0 0
def isSide (s : Int) : Bool := decide (s = 0) || decide (s = 1) || decide (s = 2) || decide (s = 3)

theorem results_box2 {fn : Func} {p u : Tmp} (h : fn.results = #[.cell p 62, .tmp u]) {tmps : Array Value} {w : World} {B : Nat} {C : Array Value} {v : Value}
    (hp : tmps.getD p undef = .pointer (some ⟨B, 0, none⟩)) (hB : HeldB w B 62 C) (hs : C.size = 4) (hv : tmps.getD u undef = v) :
    (results fn tmps).run Try.prog w = .ok (.tuple #[.agg C, v]) w := by
  rw [results_cell_tmp h, hp, hv]
  have hr := run_loadVar_row (P := Try.prog) w B 62 62 C (0, 0) _ hB Try.underlying62 rfl (by rw [hs]; kernel_rfl)
  simp [asAddr, hr, Result.andThen]

set_option maxRecDepth 100000 in
set_option maxHeartbeats 2000000 in
theorem edge_any (h wd r : Nat) (g : Nat → Nat → Nat) (s : Int) (w : World) (_hh : h ≤ 6) (_hw : wd ≤ 6) :
    Calls Try.prog 30 #[.agg (planC h wd r g), .int .i64 s] w
      fun e w' => e = .returned (.tuple #[.agg (edgeX h wd s), .bool (isSide s)]) ∧ Below w.heap.size w w' := by
  have hp0 := planC_0 h wd r g
  have hp1 := planC_1 h wd r g
  generalize planC h wd r g = C at *
  have bC : HeldB ((w.alloc (.cells C 49)).alloc (.cells #[.int .i64 0, .int .i64 0, .int .i64 0, .int .i64 0] 62)) w.heap.size 49 C := (HeldB.new w _ _).alloc _
  have bC2 : HeldB (((w.alloc (.cells C 49)).alloc (.cells #[.int .i64 0, .int .i64 0, .int .i64 0, .int .i64 0] 62)).alloc (.cells #[.int .i64 0, .int .i64 0, .int .i64 (h : Nat), .int .i64 (wd : Nat)] 62)) w.heap.size 49 C := bC.alloc _
  have c0 : World.cell? _ _ = some (.int .i64 (h : Nat)) := (bC.cell 0).trans hp0
  have c1 : World.cell? _ _ = some (.int .i64 (wd : Nat)) := (bC.cell 1).trans hp1
  have d0 : World.cell? _ _ = some (.int .i64 (h : Nat)) := (bC2.cell 0).trans hp0
  have d1 : World.cell? _ _ = some (.int .i64 (wd : Nat)) := (bC2.cell 1).trans hp1
  have HB : Hid (∀ F : Array Value, HeldB (((w.alloc (.cells C 49)).alloc (.cells F 62)).alloc (.cells F 62)) (w.heap.size + 1) 62 F ∧ Below w.heap.size w (((w.alloc (.cells C 49)).alloc (.cells F 62)).alloc (.cells F 62))) := Lib.hid fun F => by
    refine ⟨?_, (((Below.refl _ w).alloc (Nat.le_refl _) _).alloc (by simp) _).alloc (by simp; omega) _⟩
    have := (HeldB.new (w.alloc (.cells C 49)) 62 F).alloc (.cells F 62)
    rwa [World.size_alloc] at this
  clear bC bC2
  by_cases h0 : s = 0
  · subst h0
    have HX := Lib.hid (show edgeX h wd 0 = (bxI 0 0 1 wd) by rfl)
    go_enter Try.func30, Try.ntmps30
    go_wp2
    refine bodyPost_ret (v := .tuple #[.agg (bxI 0 0 1 wd), .bool true]) (results_box2 Try.results30 rfl (HB.out (bxI 0 0 1 wd)).1 rfl rfl) rfl ⟨by rw [HX.out]; rfl, (HB.out (bxI 0 0 1 wd)).2⟩
  by_cases h1 : s = 1
  · subst h1
    have HX := Lib.hid (show edgeX h wd 1 = (bxI 0 ((wd : Int) - 1) h 1) by rfl)
    clear h0
    go_enter Try.func30, Try.ntmps30
    go_wp2
    refine bodyPost_ret (v := .tuple #[.agg (bxI 0 ((wd : Int) - 1) h 1), .bool true]) (results_box2 Try.results30 rfl (HB.out (bxI 0 ((wd : Int) - 1) h 1)).1 rfl rfl) rfl ⟨by rw [HX.out]; rfl, (HB.out (bxI 0 ((wd : Int) - 1) h 1)).2⟩
  by_cases h2 : s = 2
  · subst h2
    have HX := Lib.hid (show edgeX h wd 2 = (bxI ((h : Int) - 1) 0 1 wd) by rfl)
    clear h0 h1
    go_enter Try.func30, Try.ntmps30
    go_wp2
    refine bodyPost_ret (v := .tuple #[.agg (bxI ((h : Int) - 1) 0 1 wd), .bool true]) (results_box2 Try.results30 rfl (HB.out (bxI ((h : Int) - 1) 0 1 wd)).1 rfl rfl) rfl ⟨by rw [HX.out]; rfl, (HB.out (bxI ((h : Int) - 1) 0 1 wd)).2⟩
  by_cases h3 : s = 3
  · subst h3
    have HX := Lib.hid (show edgeX h wd 3 = (bxI 0 0 h 1) by rfl)
    clear h0 h1 h2
    go_enter Try.func30, Try.ntmps30
    go_wp2
    refine bodyPost_ret (v := .tuple #[.agg (bxI 0 0 h 1), .bool true]) (results_box2 Try.results30 rfl (HB.out (bxI 0 0 h 1)).1 rfl rfl) rfl ⟨by rw [HX.out]; rfl, (HB.out (bxI 0 0 h 1)).2⟩
  · have HX := Lib.hid (show edgeX h wd s = bxI 0 0 0 0 by unfold edgeX; rw [if_neg h0, if_neg h1, if_neg h2, if_neg h3])
    have HY := Lib.hid (show isSide s = false by unfold isSide; simp [h0, h1, h2, h3])
    have e0 : (s == 0) = false := by simpa using h0
    have e1 : (s == 1) = false := by simpa using h1
    have e2 : (s == 2) = false := by simpa using h2
    have e3 : (s == 3) = false := by simpa using h3
    clear h0 h1 h2 h3
    go_enter Try.func30, Try.ntmps30
    go_wp2
    have b1 : HeldB (((w.alloc (.cells C 49)).alloc (.cells (bxI 0 0 0 0) 62)).alloc (.cells #[.int .i64 0, .int .i64 0, .int .i64 (h : Nat), .int .i64 (wd : Nat)] 62)) (w.heap.size + 1) 62 (bxI 0 0 0 0) := by
      have := (HeldB.new (w.alloc (.cells C 49)) 62 (bxI 0 0 0 0)).alloc (.cells #[.int .i64 0, .int .i64 0, .int .i64 (h : Nat), .int .i64 (wd : Nat)] 62)
      rwa [World.size_alloc] at this
    refine bodyPost_ret (v := .tuple #[.agg (bxI 0 0 0 0), .bool false]) (results_box2 Try.results30 rfl b1 rfl rfl) rfl ⟨by rw [HX.out, HY.out], (((Below.refl _ w).alloc (Nat.le_refl _) _).alloc (by simp) _).alloc (by simp; omega) _⟩

/-- the cells of some rows and columns, row by row -/
def cellsR (g : Nat → Nat → Nat) (r0 c0 wi : Nat) (i : Nat) : List Int := (List.range i).flatMap fun k => (List.range wi).map fun j => ((g (r0 + k) (c0 + j) : Nat) : Int)
theorem cellsR_succ (g : Nat → Nat → Nat) (r0 c0 wi i : Nat) : cellsR g r0 c0 wi (i + 1) = cellsR g r0 c0 wi i ++ (List.range wi).map fun j => ((g (r0 + i) (c0 + j) : Nat) : Int) := by
  unfold cellsR; rw [List.range_succ, List.flatMap_append, List.flatMap_singleton]
theorem cellsR_len (g : Nat → Nat → Nat) (r0 c0 wi : Nat) : ∀ i, (cellsR g r0 c0 wi i).length = i * wi
  | 0 => by simp [cellsR]
  | i + 1 => by rw [cellsR_succ, List.length_append, cellsR_len g r0 c0 wi i, Nat.succ_mul]; simp

/-- the box at a side -/
def edgeN (h wd : Nat) (s : Int) : Nat × Nat × Nat × Nat :=
  if s = 0 then (0, 0, 1, wd) else if s = 1 then (0, wd - 1, h, 1) else if s = 2 then (h - 1, 0, 1, wd) else (0, 0, h, 1)
theorem edgeX_nat {h wd : Nat} {s : Int} (h1 : 1 ≤ h) (w1 : 1 ≤ wd) (hs : isSide s = true) : edgeX h wd s = bxI (edgeN h wd s).1 (edgeN h wd s).2.1 (edgeN h wd s).2.2.1 (edgeN h wd s).2.2.2 := by
  unfold isSide at hs
  simp only [Bool.or_eq_true, decide_eq_true_eq] at hs
  have e1 : ((wd - 1 : Nat) : Int) = (wd : Int) - 1 := by omega
  have e2 : ((h - 1 : Nat) : Int) = (h : Int) - 1 := by omega
  rcases hs with ((rfl | rfl) | rfl) | rfl
  · rfl
  · show bxI 0 ((wd : Int) - 1) h 1 = bxI 0 ((wd - 1 : Nat) : Int) h 1; rw [e1]
  · show bxI ((h : Int) - 1) 0 1 wd = bxI ((h - 1 : Nat) : Int) 0 1 wd; rw [e2]
  · rfl
theorem edgeN_in {h wd : Nat} {s : Int} (h1 : 1 ≤ h) (w1 : 1 ≤ wd) : (edgeN h wd s).1 + (edgeN h wd s).2.2.1 ≤ h ∧ (edgeN h wd s).2.1 + (edgeN h wd s).2.2.2 ≤ wd ∧ 1 ≤ (edgeN h wd s).2.2.1 ∧ 1 ≤ (edgeN h wd s).2.2.2 := by
  unfold edgeN
  split
  · simp only; omega
  · split
    · simp only; omega
    · split
      · simp only; omega
      · simp only; omega
/-- the rooms at a side of a plan, one for each cell -/
def edgeL (p : List ByteArray) (s : Int) : List Int := cellsR (gridG p) (edgeN p.length (wideB p) s).1 (edgeN p.length (wideB p) s).2.1 (edgeN p.length (wideB p) s).2.2.2 (edgeN p.length (wideB p) s).2.2.1
def outOk (p : List ByteArray) (s : Int) : Bool := planB p && isSide s
def outL (p : List ByteArray) (s : Int) : List Int := if outOk p s = true then compactL (edgeL p s) else []

theorem planC_cells {h wd r : Nat} {g : Nat → Nat → Nat} {row c0 wi : Nat} (hr : row < 6) (hc : c0 + wi ≤ 6) : ∀ j v, (((List.range wi).map fun j => ((g row (c0 + j) : Nat) : Int)).map (Value.int .i64))[j]? = some v → (planC h wd r g)[3 + row * 6 + c0 + j]? = some v := fun j v hv => by
  have hj : j < wi := by
    have := (List.getElem?_eq_some_iff.1 hv).1
    simpa using this
  rw [show 3 + row * 6 + c0 + j = 3 + row * 6 + (c0 + j) from by omega, planC_at h wd r g row (c0 + j) hr (by omega), ← hv]
  simp [hj]

set_option maxRecDepth 100000 in
set_option maxHeartbeats 4000000 in
/-- there is no plan, or no such side -/
theorem nearOut_no (ao : Option Addr) (cap n : Nat) (s : Int) (w : World) (C F : Array Value) (pb sd : Bool) (hno : (pb && sd) = false) (HPS : Hid ((Try.prog.info? 49).map (·.size) = some C.size)) (HP1 : Hid (C.all (·.oneCell') = true)) (HCS : Hid (C.size = 39))
    (HF1 : Hid ((Try.prog.info? 62).map (·.size) = some F.size)) (HF2 : Hid (F.size = 4)) (HF3 : Hid (F.all (·.oneCell') = true))
    (HRP : Calls Try.prog 28 #[.slice ao n cap] w fun e w' => e = .returned (.tuple #[.agg C, .bool pb]) ∧ Below w.heap.size w w')
    (HED : ∀ w, Calls Try.prog 30 #[.agg C, .int .i64 s] w fun e w' => e = .returned (.tuple #[.agg F, .bool sd]) ∧ Below w.heap.size w w') :
    Calls Try.prog 12 #[.slice ao n cap, .int .i64 s] w fun e w' => NumsRet w.heap.size [] false e w' ∧ Below w.heap.size w w' := by
  have HED := Lib.hid HED
  cases pb
  · clear hno
    have HRP := Lib.hid HRP
    go_enter Try.func12, Try.ntmps12
    go_wp2_with (first
      | (refine wpList_alloc_zero rfl 49 rfl zeroC zero_plan ?_)
      | (refine wpList_store_new rfl 49 _ _ rfl _ zeroC C rfl rfl rfl HPS.out (by rw [HCS.out]; rfl) HP1.out ?_)
      | (refine wpList_load_row rfl 49 _ rfl w1.heap.size rfl 49 C (0, 0) _ (HeldB.new w1 _ _) Try.underlying49 rfl HPS.out ?_)
      | (refine wpList_store_new rfl 62 _ _ rfl _ (bxI 0 0 0 0) F rfl rfl rfl HF1.out (by rw [HF2.out]; rfl) HF3.out ?_)
      | (go_at_call 28; refine (HRP.out).mono ?_; rintro e w1 ⟨rfl, hb1⟩)
      | (go_at_call 30; refine (HED.out _).mono ?_; rintro e w2 ⟨rfl, hb2⟩))
    go_ret2
    exact ⟨⟨none, 0, rfl, ⟨rfl, .inl ⟨rfl, rfl⟩⟩⟩, below_step hb1 hb1.size (((below_alloc w1 (.cells C 49)).trans (hb2.mono (by simp))).trans ((below_alloc w2 _).mono (by have := hb2.size; simp at this; omega)))⟩
  · rw [Bool.true_and] at hno
    subst hno
    have HRP := Lib.hid HRP
    go_enter Try.func12, Try.ntmps12
    go_wp2_with (first
      | (refine wpList_alloc_zero rfl 49 rfl zeroC zero_plan ?_)
      | (refine wpList_store_new rfl 49 _ _ rfl _ zeroC C rfl rfl rfl HPS.out (by rw [HCS.out]; rfl) HP1.out ?_)
      | (refine wpList_load_row rfl 49 _ rfl w1.heap.size rfl 49 C (0, 0) _ (HeldB.new w1 _ _) Try.underlying49 rfl HPS.out ?_)
      | (refine wpList_store_new rfl 62 _ _ rfl _ (bxI 0 0 0 0) F rfl rfl rfl HF1.out (by rw [HF2.out]; rfl) HF3.out ?_)
      | (go_at_call 28; refine (HRP.out).mono ?_; rintro e w1 ⟨rfl, hb1⟩)
      | (go_at_call 30; refine (HED.out _).mono ?_; rintro e w2 ⟨rfl, hb2⟩))
    go_ret2
    exact ⟨⟨none, 0, rfl, ⟨rfl, .inl ⟨rfl, rfl⟩⟩⟩, below_step hb1 hb1.size (((below_alloc w1 (.cells C 49)).trans (hb2.mono (by simp))).trans ((below_alloc w2 _).mono (by have := hb2.size; simp at this; omega)))⟩

theorem yieldsIf_loadC {P : Program} {ops : Array Oper} {S : World → Prop} {op : Oper} {a : Act} (hw : Region.wanted op (yielded ops a.tmps) = true) (ty : TypeId) (x : Operand) (ho : op.op = .load ty x) (v : Value)
    (hr : ∀ w, S w → (Instr.loadAt ty (a.eval x)).run P w = .ok v w) : YieldsIf P ops S op v a :=
  .inl ⟨hw, fun w hw' => by
    unfold execOp
    simp only [ho, Sem.run_bind, Sem.run_pure, Result.andThen_ok, hr w hw']⟩
theorem slice_six (w : World) (B o c e : Nat) (h1 : c ≤ e) (h2 : e ≤ 6) (h3 : c < 6) : (Instr.sliceAt 46 (.pointer (some ⟨B, o, none⟩)) (some (.int .i64 (c : Int))) (some (.int .i64 (e : Int))) none).run Try.prog w = .ok (.slice (some ⟨B, o + c, none⟩) (e - c) (6 - c)) w := by
  have ha : Try.prog.arrayLen 46 = 6 := by kernel_rfl
  have ht : Try.prog.underlying 46 = some (.array (Try.prog.arrayLen 46) (Try.prog.elem 46)) := by kernel_rfl
  have hs : (sizeOf (Try.prog.elem 46)).run Try.prog w = .ok 1 w := by kernel_rfl
  rw [run_sliceAt_array_lh w _ _ ht _ _ _ _ (by omega) (by omega) (by rw [ha]; omega), hs, ha]
  have h4 : ¬ 6 = c := by omega
  simp [Result.andThen, slicedAt, h4, Addr.add]
theorem wp_appendK {P : Program} (w : World) {o : Oper} {a : Act} {K : Act → World → Prop} {Q : Exit → Act → World → Prop} (s x : Operand) (t : TypeId) (ho : o.op = .call { callee := .builtin .append, args := #[s, x], argTypes := #[t, t] })
    (vs vx v' : Value) (w' : World) (hs : a.eval s = vs) (hx : a.eval x = vx) (hrun : (Builtin.append_ #[t, t] o.type #[vs, vx]).run P w = .ok v' w') (h : K (a.put o.dst v') w') : o.wp P a w K Q := by
  unfold Oper.wp
  simp [execOp, ho, resolve, invoke, builtin, hs, hx, hrun, Result.andThen]
  exact h
theorem edgeX_parts (h wd : Nat) (s : Int) : (Try.prog.info? 62).map (·.size) = some (edgeX h wd s).size ∧ (edgeX h wd s).size = 4 ∧ (edgeX h wd s).all (·.oneCell') = true := by
  unfold edgeX
  split
  · exact ⟨bx_size _ _ _ _, rfl, bx_one _ _ _ _⟩
  · split
    · exact ⟨bx_size _ _ _ _, rfl, bx_one _ _ _ _⟩
    · split
      · exact ⟨bx_size _ _ _ _, rfl, bx_one _ _ _ _⟩
      · split
        · exact ⟨bx_size _ _ _ _, rfl, bx_one _ _ _ _⟩
        · exact ⟨bx_size _ _ _ _, rfl, bx_one _ _ _ _⟩

set_option maxRecDepth 100000 in
set_option maxHeartbeats 4000000 in
theorem implNearOut_any (ao : Option Addr) (cap : Nat) (p : List ByteArray) (s : Int) (w : World) (hl : p.length ≤ 1048576) (hs : ∀ s ∈ p, s.size ≤ 1048576) (hc : CellsAt w ao (p.map Value.string)) :
    Calls Try.prog 12 #[.slice ao p.length cap, .int .i64 s] w fun e w' => NumsRet w.heap.size (outL p s) (outOk p s) e w' ∧ Below w.heap.size w w' := by
  have HRP := by have := readPlan_any ao cap p w hl hs hc; rw [readC_plan, readOk_eq] at this; exact this
  have HED := fun w => edge_any (planH p) (planW p) (planR p) (planG p) s w (planH_le p) (planW_le p)
  have HPS := Lib.hid (plan_size (planH p) (planW p) (planR p) (planG p))
  have HP1 := Lib.hid (planC_one (planH p) (planW p) (planR p) (planG p))
  have HCS := Lib.hid (planC_size (planH p) (planW p) (planR p) (planG p))
  obtain ⟨f1, f2, f3⟩ := edgeX_parts (planH p) (planW p) s
  unfold outL
  cases hok : outOk p s
  · rw [if_neg (by decide)]
    exact nearOut_no ao cap p.length s w _ _ _ _ hok HPS HP1 HCS (Lib.hid f1) (Lib.hid f2) (Lib.hid f3) HRP HED
  · rw [if_pos rfl]
    unfold outOk at hok
    rw [Bool.and_eq_true] at hok
    obtain ⟨hp, hsd⟩ := hok
    obtain ⟨im, hmi, hmz, hm1, hm2⟩ := info_parts Try.infoNum
    have hP := planP_of hp
    have h1 := hP.grid.h1; have h6 := hP.grid.h6; have w1 := hP.grid.w1; have w6 := hP.grid.w6
    have eH : planH p = p.length := by unfold planH; rw [if_pos hp]
    have eW : planW p = wideB p := by unfold planW; rw [if_pos hp]
    have eG : planG p = gridG p := by unfold planG; rw [if_pos hp]
    rw [hp] at HRP
    rw [hsd] at HED
    rw [eH, eW, eG] at HRP HED HPS HP1 HCS
    rw [edgeX_nat h1 w1 hsd] at HED
    obtain ⟨i1, i2, i3, i4⟩ := edgeN_in (s := s) h1 w1
    unfold edgeL
    generalize edgeN p.length (wideB p) s = E at *
    obtain ⟨r0, c0, hi, wi⟩ := E
    simp only at i1 i2 i3 i4 HED ⊢
    have HPC := Lib.hid (fun row (hr : row < 6) => planC_cells (h := p.length) (wd := wideB p) (r := planR p) (g := gridG p) (row := row) (c0 := c0) (wi := wi) hr (by omega))
    have HSU := Lib.hid (cellsR_succ (gridG p) r0 c0 wi)
    have HLN := Lib.hid (cellsR_len (gridG p) r0 c0 wi)
    have hwi : wi ≤ 6 := by omega
    have hr0 : r0 + hi ≤ 6 := by omega
    have hc0 : c0 + wi ≤ 6 := by omega
    have HRP := Lib.hid HRP
    have HED := Lib.hid HED
    obtain ⟨C, hC⟩ : ∃ C, planC p.length (wideB p) (planR p) (gridG p) = C := ⟨_, rfl⟩
    rw [hC] at HRP HED HPS HP1 HCS HPC
    have bF1 := bx_size (r0 : Nat) (c0 : Nat) (hi : Nat) (wi : Nat)
    clear hC f1 f2 f3 eH eW eG h1 h6 w1 w6 i1 i2 hP hsd hp
    obtain ⟨F, hF⟩ : ∃ F, bxI (r0 : Nat) (c0 : Nat) (hi : Nat) (wi : Nat) = F := ⟨_, rfl⟩
    have HF1 := Lib.hid (show (Try.prog.info? 62).map (·.size) = some F.size by rw [← hF]; exact bx_size _ _ _ _)
    have HF2 := Lib.hid (show F.size = 4 by rw [← hF]; rfl)
    have HF3 := Lib.hid (show F.all (·.oneCell') = true by rw [← hF]; exact bx_one _ _ _ _)
    have x0 : F[0]? = some (.int .i64 (r0 : Nat)) := by rw [← hF]; rfl
    have x1 : F[1]? = some (.int .i64 (c0 : Nat)) := by rw [← hF]; rfl
    have x2 : F[2]? = some (.int .i64 (hi : Nat)) := by rw [← hF]; rfl
    have x3 : F[3]? = some (.int .i64 (wi : Nat)) := by rw [← hF]; rfl
    rw [hF] at HED
    clear hF bF1
    go_enter Try.func12, Try.ntmps12
    go_wp2_with (first
      | (refine wpList_alloc_zero rfl 49 rfl zeroC zero_plan ?_)
      | (refine wpList_store_new rfl 49 _ _ rfl _ zeroC C rfl rfl rfl HPS.out (by rw [HCS.out]; rfl) HP1.out ?_)
      | (refine wpList_load_row rfl 49 _ rfl w1.heap.size rfl 49 C (0, 0) _ (HeldB.new w1 _ _) Try.underlying49 rfl HPS.out ?_)
      | (refine wpList_store_new rfl 62 _ _ rfl _ (bxI 0 0 0 0) F rfl rfl rfl HF1.out (by rw [HF2.out]; rfl) HF3.out ?_)
      | (go_at_call 28; refine (HRP.out).mono ?_; rintro e w1 ⟨rfl, hb1⟩)
      | (go_at_call 30; refine (HED.out _).mono ?_; rintro e w2 ⟨rfl, hb2⟩; have y0 : (w2.alloc (.cells F 62)).cell? ⟨w2.heap.size, 0, none⟩ = some (.int .i64 (r0 : Nat)) := ((HeldB.new w2 _ _).cell 0).trans x0))
    have hB3 : Below w.heap.size w (w2.alloc (.cells F 62)) := below_step hb1 hb1.size (((below_alloc w1 (.cells C 49)).trans (hb2.mono (by simp))).trans ((below_alloc w2 _).mono (by have := hb2.size; simp at this; omega)))
    have bP3 : HeldB (w2.alloc (.cells F 62)) w1.heap.size 49 C := ((HeldB.new w1 _ _).below hb2).alloc _
    have bB3 := HeldB.new w2 62 F
    have hPB : w1.heap.size < w2.heap.size := by have := hb2.size; simp at this; omega
    have hwP : w.heap.size ≤ w1.heap.size := hb1.size
    have hs3 : w2.heap.size + 1 ≤ (w2.alloc (.cells F 62)).heap.size := by simp
    clear hb1 hb2 y0
    generalize w2.alloc (.cells F 62) = W3 at *
    generalize w2.heap.size = Bx at *
    generalize w1.heap.size = Pl at *
    go_loopw [10, 11] (fun v10 v11 wr => ∃ (n i : Nat) (ro : Option Addr) (rc : Nat), n = r0 + i ∧ i ≤ hi ∧ v11 = .int .i64 n ∧ v10 = .slice ro (cellsR (gridG p) r0 c0 wi i).length rc ∧
      Hid (wr.ownsRow (Bx + 1) 3 1 (.slice ro (cellsR (gridG p) r0 c0 wi i).length rc) (cellsR (gridG p) r0 c0 wi i).length ((cellsR (gridG p) r0 c0 wi i).map (Value.int .i64))) ∧ HeldB wr Pl 49 C ∧ HeldB wr Bx 62 F ∧ Bx + 1 ≤ wr.heap.size ∧ Below w.heap.size w wr) (fun _ v11 _ => r0 + hi - (intOf v11).toNat)
    case atStart => exact ⟨r0, 0, none, 0, rfl, Nat.zero_le _, rfl, rfl, Lib.hid ⟨rfl, .inl ⟨rfl, rfl⟩⟩, bP3, bB3, hs3, hB3⟩
    case round =>
      clear bP3 bB3 hs3 hB3
      obtain ⟨n, i, ro, rc, hn, hi', rfl, rfl, HO, bP, bB, hsr, hB⟩ := hrel
      have HN := Lib.hid hn
      have hn6 : n ≤ 6 := by omega
      have y0 : wr.cell? ⟨Bx, 0, none⟩ = some (.int .i64 (r0 : Nat)) := (bB.cell 0).trans x0
      have y2 : wr.cell? ⟨Bx, 2, none⟩ = some (.int .i64 (hi : Nat)) := (bB.cell 2).trans x2
      by_cases hlt : n < r0 + hi
      · have hlt' : decide ((n : Int) < (r0 : Int) + (hi : Int)) = true := by rw [decide_eq_true_eq]; omega
        have HS := Lib.hid (show cellsR (gridG p) r0 c0 wi (i + 1) = cellsR (gridG p) r0 c0 wi i ++ (List.range wi).map fun j => ((gridG p n (c0 + j) : Nat) : Int) by rw [HSU.out, hn])
        have hll : (cellsR (gridG p) r0 c0 wi i).length ≤ 36 := by rw [HLN.out]; exact Nat.mul_le_mul (show i ≤ 6 by omega) hwi
        have HU := Lib.hid (HPC.out n (by omega))
        have HL2 := Lib.hid (show (cellsR (gridG p) r0 c0 wi (i + 1)).length = (cellsR (gridG p) r0 c0 wi i).length + wi by rw [HLN.out, HLN.out, Nat.succ_mul])
        clear hn
        generalize cellsR (gridG p) r0 c0 wi i = L at *
        generalize hU : ((List.range wi).map fun j => ((gridG p n (c0 + j) : Nat) : Int)) = U at *
        have HUL := Lib.hid (show U.length = wi by rw [← hU]; simp)
        clear hU
        have hlo := owns_lt HO.out
        have hb6 : n < 6 := by omega
        go_wp2
        refine wp_region_held (S := fun w' => HeldB w' Pl 49 C ∧ HeldB w' Bx 62 F) (by kernel_rfl) ?_
        have HO4 : Hid (({ wr with drawn := wr.drawn + 1 } : World).ownsRow (Bx + 1) 3 1 (.slice ro L.length rc) L.length (L.map (Value.int .i64))) := Lib.hid (by have := HO.out; exact this)
        have bS : HeldB ({ wr with drawn := wr.drawn + 1 } : World) Pl 49 C ∧ HeldB ({ wr with drawn := wr.drawn + 1 } : World) Bx 62 F := ⟨bP, bB⟩
        have hB4 : Below w.heap.size w ({ wr with drawn := wr.drawn + 1 } : World) := hB.trans (below_drewN _ wr 1)
        have hs4 : Bx + 1 ≤ ({ wr with drawn := wr.drawn + 1 } : World).heap.size := hsr
        generalize ({ wr with drawn := wr.drawn + 1 } : World) = W4 at *
        clear HO bP bB hB hsr y0 y2
        obtain ⟨ao5, cap5, w5, hrun5, hown5, hg5, hnew5⟩ := run_pushK (P := Try.prog) W4 (Bx + 1) 35 35 3 im (.int .i64 0) 1 8 Try.underlying35 hmi hmz hm1 hm2 rfl (by decide) ro L.length rc _ HO4.out (U.map (Value.int .i64)) wi Pl (3 + n * 6 + c0) (6 - c0) (by omega) (by rw [List.length_map, HUL.out, Nat.mul_one]) (fun j v hv => by rw [HeldB.cell bS.1]; exact HU.out j v hv) (fun v hv => by rw [List.mem_map] at hv; obtain ⟨x, _, rfl⟩ := hv; rfl) (by unfold maxLen; omega) (by omega) hs4
        have bP5 := kept_own bS.1 hg5 (fun a ha => by have := (hlo a ha).1; omega)
        have bB5 := kept_own bS.2 hg5 (fun a ha => by have := (hlo a ha).1; omega)
        have hB5 := below_of_grownBy' hB4 hg5 (fun a ha => by have := (hlo a ha).1; omega)
        have hs5 : Bx + 1 ≤ w5.heap.size := Nat.le_trans hs4 hg5.size
        change Go.wpAnyH Try.prog Region.Mode.any _ _ _ 14 (Array.replicate 14 false) _ _
        refine wpAnyH_take (i := 0) (v := .slice ro L.length rc) rfl (by kernel_rfl) (by kernel_rfl) (by kernel_rfl) (fun _ _ _ h => h) (Yields.yieldsIf (Or.inl ⟨by rfl, fun w => by go_simp⟩)) bS ?_
        refine wpAnyH_take (i := 1) (v := .int .i64 (n : Int)) rfl (by kernel_rfl) (by kernel_rfl) (by kernel_rfl) (fun _ _ _ h => h) (Yields.yieldsIf (Or.inl ⟨by rfl, fun w => by go_simp⟩)) bS ?_
        refine wpAnyH_take (i := 2) (v := .pointer (some ⟨Pl, 3, none⟩)) rfl (by kernel_rfl) (by kernel_rfl) (by kernel_rfl) (fun _ _ _ h => h) (Yields.yieldsIf (Or.inl ⟨by rfl, fun w => by go_simp⟩)) bS ?_
        have hnn : ((n : Int)).toNat = n := by omega
        have hni : (n : Int) < 6 := by omega
        have hni0 : (0 : Int) ≤ (n : Int) := by omega
        refine wpAnyH_take (i := 3) (v := .pointer (some ⟨Pl, 3 + n * 6, none⟩)) rfl (by kernel_rfl) (by kernel_rfl) (by kernel_rfl) (fun _ _ _ h => h) (Yields.yieldsIf (Or.inl ⟨by rfl, fun w => by go_simp⟩)) bS ?_
        refine wpAnyH_take (i := 4) (v := .pointer (some ⟨Bx, 1, none⟩)) rfl (by kernel_rfl) (by kernel_rfl) (by kernel_rfl) (fun _ _ _ h => h) (Yields.yieldsIf (Or.inl ⟨by rfl, fun w => by go_simp⟩)) bS ?_
        refine wpAnyH_take (i := 5) (v := .int .i64 (c0 : Nat)) rfl (by kernel_rfl) (by kernel_rfl) (by kernel_rfl) (fun _ _ _ h => h) (yieldsIf_loadC (by rfl) 3 _ rfl _ (fun w' hw => by have hc : w'.cell? ⟨Bx, 1, none⟩ = some (.int .i64 (c0 : Nat)) := (HeldB.cell hw.2 1).trans x1; go_simp)) bS ?_
        refine wpAnyH_take (i := 6) (v := .pointer (some ⟨Bx, 1, none⟩)) rfl (by kernel_rfl) (by kernel_rfl) (by kernel_rfl) (fun _ _ _ h => h) (Yields.yieldsIf (Or.inl ⟨by rfl, fun w => by go_simp⟩)) bS ?_
        refine wpAnyH_take (i := 7) (v := .int .i64 (c0 : Nat)) rfl (by kernel_rfl) (by kernel_rfl) (by kernel_rfl) (fun _ _ _ h => h) (yieldsIf_loadC (by rfl) 3 _ rfl _ (fun w' hw => by have hc : w'.cell? ⟨Bx, 1, none⟩ = some (.int .i64 (c0 : Nat)) := (HeldB.cell hw.2 1).trans x1; go_simp)) bS ?_
        refine wpAnyH_take (i := 8) (v := .pointer (some ⟨Bx, 3, none⟩)) rfl (by kernel_rfl) (by kernel_rfl) (by kernel_rfl) (fun _ _ _ h => h) (Yields.yieldsIf (Or.inl ⟨by rfl, fun w => by go_simp⟩)) bS ?_
        refine wpAnyH_take (i := 9) (v := .int .i64 (wi : Nat)) rfl (by kernel_rfl) (by kernel_rfl) (by kernel_rfl) (fun _ _ _ h => h) (yieldsIf_loadC (by rfl) 3 _ rfl _ (fun w' hw => by have hc : w'.cell? ⟨Bx, 3, none⟩ = some (.int .i64 (wi : Nat)) := (HeldB.cell hw.2 3).trans x3; go_simp)) bS ?_
        obtain ⟨e, he⟩ : ∃ e, e = c0 + wi := ⟨_, rfl⟩
        have hsum : IntKind.i64.wrap ((c0 : Int) + (wi : Int)) = (e : Int) := by rw [IntKind.wrap_i64]; omega
        refine wpAnyH_take (i := 10) (v := .int .i64 (e : Int)) rfl (by kernel_rfl) (by kernel_rfl) (by kernel_rfl) (fun _ _ _ h => h) (Yields.yieldsIf (Or.inl ⟨by rfl, fun w => by go_simp⟩)) bS ?_
        have he6 : (e : Int) ≤ 6 := by omega
        have hce : (c0 : Int) ≤ (e : Int) := by omega
        have hsl : ∀ w, (Instr.sliceAt 46 (.pointer (some ⟨Pl, 3 + n * 6, none⟩)) (some (.int .i64 (c0 : Nat))) (some (.int .i64 (e : Nat))) none).run Try.prog w = .ok (.slice (some ⟨Pl, 3 + n * 6 + c0, none⟩) wi (6 - c0)) w := fun w => by have := slice_six w Pl (3 + n * 6) c0 e (by omega) (by omega) (by omega); rwa [show e - c0 = wi by omega] at this
        clear he
        refine wpAnyH_take (i := 11) (v := .slice (some ⟨Pl, 3 + n * 6 + c0, none⟩) wi (6 - c0)) rfl (by kernel_rfl) (by kernel_rfl) (by kernel_rfl) (fun _ _ _ h => h) (Yields.yieldsIf (Or.inl ⟨by rfl, fun w => by go_simp⟩)) bS ?_
        clear hsl hsum
        refine wpAnyH_all (rs := [12]) (by kernel_rfl) (by decide) ?_
        intro i1 hi1
        simp only [List.mem_cons, List.not_mem_nil, or_false] at hi1
        subst hi1
        refine wpOp_go rfl (by rfl) ?_
        simp only [List.getElem_toArray, List.getElem_cons_succ, List.getElem_cons_zero, Act.put, List.setIfInBounds_toArray, List.set_cons_succ, List.set_cons_zero]
        refine wp_appendK W4 (.tmp 40) (.tmp 51) 35 rfl (.slice ro L.length rc) (.slice (some ⟨Pl, 3 + n * 6 + c0, none⟩) wi (6 - c0)) (.slice ao5 (L.length + wi) cap5) w5 (by rfl) (by rfl) hrun5 ?_
        refine ⟨⟨bP5, bB5⟩, ?_⟩
        refine wpAnyH_take (i := 13) (v := .slice ao5 (L.length + wi) cap5) rfl (by kernel_rfl) (by kernel_rfl) (by kernel_rfl) (fun _ _ _ h => h) (Yields.yieldsIf (Or.inl ⟨by rfl, fun w => by go_simp⟩)) ⟨bP5, bB5⟩ ?_
        refine wpAnyH_done (by kernel_rfl) ?_ _
        go_wp2
        go_roundw
        case rel => exact ⟨n + 1, i + 1, ao5, cap5, by rw [HN.out]; omega, by have := HN.out; omega, by go_num, by rw [HL2.out], Lib.hid (by rw [HL2.out, HS.out, List.map_append]; exact hown5), bP5, bB5, hs5, hB5⟩
        case measure => simp [intOf]; omega
      · have hlt' : decide ((n : Int) < (r0 : Int) + (hi : Int)) = false := by rw [decide_eq_false_iff_not]; omega
        obtain rfl : i = hi := by omega
        have hll : (cellsR (gridG p) r0 c0 wi i).length ≤ 36 := by rw [HLN.out]; exact Nat.mul_le_mul (show i ≤ 6 by omega) hwi
        have hlo := owns_lt HO.out
        have HCO := Lib.hid (compact_any (Bx + 1) ro rc _ _ wr rfl (by omega) HO.out)
        clear hn
        go_wp2_with (go_at_call 31; refine HCO.out.mono ?_; rintro e w6 ⟨rfl, ho6, hg6⟩)
        go_ret2
        exact ⟨⟨ro, rc, rfl, ownsRow_base ho6 (by omega)⟩, below_of_grownBy' hB hg6 (fun a ha => by have := (hlo a ha).1; omega)⟩

end Go.Proofs.Ytjdlapcikpmdgaa
