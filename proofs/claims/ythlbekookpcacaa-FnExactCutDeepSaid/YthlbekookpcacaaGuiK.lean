
/-
  Parts of plans: all of a plan. (Walk inside a fence.)
-/
import Derived.Test.YthlbekookpcacaaGui3
import Derived.Test.YthlbekookpcacaaAreas
namespace Go.Proofs.Ythlbekookpcacaa
open Go.RowKit Go.Shelf

attribute [local go_sem] Oper.semAt_some

theorem wpListIn_pushK {F : Fence} {nn : Nat} {P : Program} (w : World) {ops : Array Oper} {rest : List Oper} {o : Oper} {a : Act} {Q : Exit → Act → World → Prop} (hgd : o.guard = none) (s x : Operand) (t : TypeId)
    (ho : o.op = .call { callee := .builtin .append, args := #[s, x], argTypes := #[t, t] })
    (base : Nat) (e : TypeId) (i : TypeInfo) (z : Value) (size bytes : Nat) (ht : P.underlying t = some (.slice e)) (hi : P.info? e = some i) (hz : i.zero = some z)
    (hsize : i.size = size) (hby : i.bytes = bytes) (hzs : z.cells.size = size) (hs0 : 0 < size) (ao : Option Addr) (n cap : Nat) (xs : List Value) (hs : a.eval s = .slice ao n cap) (hown : w.ownsRow base e size (.slice ao n cap) n xs)
    (us : List Value) (m g off c : Nat) (hx : a.eval x = .slice (some ⟨g, off, none⟩) m c) (hm : 0 < m) (hl : us.length = m * size) (hu : ∀ j v, us[j]? = some v → w.cell? ⟨g, off + j, none⟩ = some v) (h1 : ∀ v ∈ us, v.oneCell' = true) (h63 : n + m ≤ maxLen) (hbytes : (n + m) * bytes ≤ 140737488355328) (hbase : base ≤ w.heap.size)
    (h : ∀ ao' cap' w', w'.ownsRow base e size (.slice ao' (n + m) cap') (n + m) (xs ++ us) → w.grownBy w' (Value.ownBlock (.slice ao n cap)) → NewOr w ao ao' → wpListIn F nn P ops Q rest (a.put o.dst (.slice ao' (n + m) cap')) w') : wpListIn F nn P ops Q (o :: rest) a w := by
  refine wpListIn_plain hgd fun K hK' => ?_
  obtain ⟨ao', cap', w', hrun, r1, r2, r3⟩ := run_pushK (P := P) w base t o.type e i z size bytes ht hi hz hsize hby hzs hs0 ao n cap xs hown us m g off c hm hl hu h1 h63 hbytes hbase
  unfold Oper.wpIn
  refine ⟨?_, ?_⟩
  · simp [Oper.about, ho, resolve, Target.leads, Sem.run_pure]
  · rw [Oper.semAt_plain F _ _ (by rw [ho]; intro c hc'; cases hc')]
    simp [execOp, ho, resolve, invoke, builtin, hs, hx, hrun, Result.andThen]
    exact hK' _ _ (h ao' cap' w' r1 r2 r3)

/-- the places of boxes -/
def bx5 (x : Bx) : Array Value := #[.int .i64 (x.room : Nat), .int .i64 (x.row : Nat), .int .i64 (x.col : Nat), .int .i64 (x.high : Nat), .int .i64 (x.wide : Nat)]
def bxsV (L : List Bx) : List Value := L.flatMap fun x => (bx5 x).toList
theorem bxsV_snoc (L : List Bx) (x : Bx) : bxsV (L ++ [x]) = bxsV L ++ (bx5 x).toList := by simp [bxsV]
theorem bx5_ones (x : Bx) : ∀ v ∈ (bx5 x).toList, v.oneCell' = true := fun v hv => by
  simp only [bx5, List.mem_cons, List.not_mem_nil, or_false] at hv
  rcases hv with rfl | rfl | rfl | rfl | rfl <;> rfl

set_option maxRecDepth 100000 in
set_option maxHeartbeats 4000000 in
theorem whole_in (n : Nat) (hn : 6 ≤ n) (h wd r : Nat) (g : Nat → Nat → Nat) (hh : h ≤ 6) (hw : wd ≤ 6) (hr9 : r ≤ 9) (w : World) :
    CallsIn Fence.wide n Try.prog 44 #[.agg (planC h wd r g)] w fun e W' => ∃ ro rc, e = .returned (.slice ro (scanB h wd g (h * wd)).length rc) ∧ W'.ownsRow w.heap.size 57 5 (.slice ro (scanB h wd g (h * wd)).length rc) (scanB h wd g (h * wd)).length (bxsV (scanB h wd g (h * wd))) ∧ Below w.heap.size w W' := by
  have hF : ∀ k, Fence.wide.fn k := fun _ => trivial
  have hn1 : 1 ≤ n := by omega
  have H2 := Lib.hid (planC_2 h wd r g)
  have HCS := Lib.hid (planC_size h wd r g)
  have HST := Lib.hid (fun (b : Nat) (w : World) (hp : w.heap[b]? = some (.cells (planC h wd r g) 50 (0, 0))) => boxes_stops (n - 1) (by omega) b h wd r g hh hw w hp)
  generalize planC h wd r g = C at *
  have hsz : (Try.prog.info? 50).map (·.size) = some C.size := by rw [HCS.out]; kernel_rfl
  have HSZ := Lib.hid hsz; clear hsz
  obtain ⟨it, hti, htz, ht1, ht2⟩ := info_parts Try.infoPl
  have hG : (w.alloc (.cells C 50)).heap[w.heap.size]? = some (.cells C 50 (0, 0)) := HeldB.new w 50 C
  have c2 : (w.alloc (.cells C 50)).cell? ⟨w.heap.size, 2, none⟩ = some (.int .i64 r) := ((HeldB.new w 50 C).cell 2).trans H2.out
  have hrn : it.bytes * r ≤ 281474976710656 := by rw [ht2]; omega
  have hrm : r ≤ maxLen := by unfold maxLen; omega
  refine callsIn_of_wp_marks Try.func44 rfl trivial ?_ rfl
  simp only [Try.ntmps44, List.size_toArray, List.length_cons, List.length_nil, Nat.reduceAdd, Nat.reduceSub, Array.replicate_succ, Array.replicate_zero, List.push_toArray, List.append_toArray, List.nil_append, List.cons_append]
  gi_wp2_with (first
    | (refine wpListIn_make_own _ rfl _ _ 41 rfl (w.heap.size + 1) 57 it (.agg #[.int .i64 0, .int .i64 0, .int .i64 0, .int .i64 0, .int .i64 0]) 5 Try.underlying41 hti htz ht1 .i64 .i64 _ r rfl rfl rfl hrn hrm (by simp) ?_; intro w2 hown hgrow; have hb2 := below_of_grownBy (B := w.heap.size + 1) hgrow (by simp) (by simp); have hP2 : (w2.alloc (.cells #[.slice (some ⟨w.heap.size + 1, 0, none⟩) 0 r] 41)).heap[w.heap.size]? = some (.cells C 50 (0, 0)) := HeldB.alloc ((HeldB.new w 50 C).kept hgrow (by simp)) _)
    | (refine wpListIn_load_row rfl 50 _ rfl w.heap.size rfl 50 C (0, 0) _ hP2 Try.underlying50 rfl HSZ.out ?_)
    | (gi_at_call 72; refine (boxes_in _ C _).mono ?_; rintro e w' ⟨rfl, rfl⟩))
  have hs2 := hb2.size
  rw [World.size_alloc] at hs2
  have bG := HeldB.new (w2.alloc (.cells #[.slice (some ⟨w.heap.size + 1, 0, none⟩) 0 r] 41)) 50 C
  rw [World.size_alloc] at bG
  have bT := (HeldB.new w2 41 #[.slice (some ⟨w.heap.size + 1, 0, none⟩) 0 r]).alloc (.cells C 50)
  have hown0 := (hown.alloc (.cells #[.slice (some ⟨w.heap.size + 1, 0, none⟩) 0 r] 41)).alloc (.cells C 50)
  have hB0 : Below w.heap.size w ((w2.alloc (.cells #[.slice (some ⟨w.heap.size + 1, 0, none⟩) 0 r] 41)).alloc (.cells C 50)) :=
    ((((below_alloc w (.cells C 50)).trans (hb2.mono (by omega))).alloc (by omega) _).alloc (by rw [World.size_alloc]; omega) _)
  have hsz0 : ((w2.alloc (.cells #[.slice (some ⟨w.heap.size + 1, 0, none⟩) 0 r] 41)).alloc (.cells C 50)).heap.size = w2.heap.size + 2 := by simp
  obtain ⟨W0, hW0⟩ : ∃ W0, (w2.alloc (.cells #[.slice (some ⟨w.heap.size + 1, 0, none⟩) 0 r] 41)).alloc (.cells C 50) = W0 := ⟨_, rfl⟩
  rw [World.size_alloc] at hown0
  rw [hW0] at bG bT hown0 hB0 hsz0 ⊢
  clear hW0 hP2 hgrow hown hG c2 hb2
  have hw1s : w.heap.size + 1 ≤ w2.heap.size := hs2
  have hownE : W0.ownsRow (w.heap.size + 1) 57 5 (.slice (some ⟨w.heap.size + 1, 0, none⟩) 0 r) 0 (bxsV []) := hown0
  refine wpIn_rangeFunc_ownH rfl hn1 (gf := 96) (lb := #[.pointer (some ⟨w2.heap.size + 1, 0, none⟩)]) rfl trivial (enters_of Try.func96 (by kernel_rfl) rfl)
    (HST.out (w2.heap.size + 1) W0 bG) (fun {A B D} (h1 : B.heap[w2.heap.size + 1]? = A.heap[w2.heap.size + 1]?) (h2 : D.heap[w2.heap.size + 1]? = B.heap[w2.heap.size + 1]?) => h2.trans h1)
    (fun W l o o' hl _ _ _ => World.putObj_heap_other (by omega)) (Below.refl _ _) (fun _ => rfl)
    (fun pre W => ((∃ v, Boxed W w2.heap.size 41 v ∧ W.ownsRow (w.heap.size + 1) 57 5 v (pre : List Bx).length (bxsV pre) ∧ True) ∧ HeldB W (w2.heap.size + 1) 50 C) ∧ Below w.heap.size w W)
    (fun c pre W => (c = .ret ∧ (pre : List Bx).length < 0) ∧ Below w.heap.size w W)
    (OwnFrom.and (OwnFrom.and (Own.from (holdsRow_own (w.heap.size + 1) w2.heap.size 41 57 5 (fun pre : List Bx => pre.length) bxsV (fun _ _ => True)) _) (Own.from (heldB_own _ _ (fun _ => C)) _)) (ownFrom_below (Nat.le_refl _) (by omega)))
    (fun c => OwnFrom.and (ownFrom_pure _ (fun pre => c = .ret ∧ (pre : List Bx).length < 0)) (ownFrom_below (Nat.le_refl _) (by omega)))
    ⟨⟨⟨_, bT, hownE, trivial⟩, bG⟩, hB0⟩
    (fun x a' W => ∃ B, w2.heap.size + 1 < B ∧ HeldB W B 55 #[.int .i64 x.row, .int .i64 x.col, .int .i64 x.high, .int .i64 x.wide] ∧ a' = { tmps := #[.agg C, .pointer (some ⟨w.heap.size, 0, none⟩), .slice none 0 0, .pointer (some ⟨w2.heap.size, 0, none⟩), .int .i64 x.room, .pointer (some ⟨B, 0, none⟩), .pointer (some ⟨w.heap.size, 2, none⟩), .int .i64 r, .slice (some ⟨w.heap.size + 1, 0, none⟩) 0 r, .agg C, .func (.func 96) #[] #[.pointer (some ⟨w2.heap.size + 1, 0, none⟩)], .int .i64 x.room, .agg #[.int .i64 x.row, .int .i64 x.col, .int .i64 x.high, .int .i64 x.wide], undef, undef, undef, undef, undef, undef, undef], defers := [] })
    (fun x a' _ X Y row hs hg hr => by obtain ⟨B, h1, h2, h3⟩ := hs; exact ⟨B, h1, heldB_own B 55 (fun (_ : Unit) => #[.int .i64 x.row, .int .i64 x.col, .int .i64 x.high, .int .i64 x.wide]) () X Y row h2 hg (fun r e => (hr r e).2), h3⟩)
    ?assign ?body ?done ?stop
  case assign =>
    rintro l pre x W K ⟨⟨⟨v, bT1, hown1, _⟩, bG1⟩, hB1⟩ hK
    simp only [encB]
    gi_wp2
    exact hK _ _ ((KeepsOthers.alloc _ _).from _) (Below.heap_alloc W _ _ bG1.lt) ⟨⟨⟨v, bT1.alloc _, hown1.alloc _, trivial⟩, bG1.alloc _⟩, hB1.alloc hB1.size _⟩ ⟨W.heap.size, bG1.lt, HeldB.new W _ _, rfl⟩
  case body =>
    rintro l pre x a' W hl ⟨rl, hr⟩ ⟨⟨⟨v, bT1, hown1, _⟩, bG1⟩, hB1⟩ ⟨B, hBB, bX, rfl⟩ hlt
    have h1' : 1 ≤ n - 1 - 1 := by omega
    have cX0 : W.cell? ⟨B, 0, none⟩ = some (.int .i64 x.row) := bX.cell 0
    have cX1 : W.cell? ⟨B, 1, none⟩ = some (.int .i64 x.col) := bX.cell 1
    have cX2 : W.cell? ⟨B, 2, none⟩ = some (.int .i64 x.high) := bX.cell 2
    have cX3 : W.cell? ⟨B, 3, none⟩ = some (.int .i64 x.wide) := bX.cell 3
    obtain ⟨so, sc, rfl⟩ := ownsRow_shape hown1
    have cT := bT1.cell
    have fT := bT1.frozen
    have hb1' : pre.length + 1 ≤ maxLen := by unfold maxLen; omega
    have hb2' : (pre.length + 1) * 40 ≤ 140737488355328 := by omega
    gi_wp2_with (refine wpListIn_pushK _ rfl _ _ 41 rfl (w.heap.size + 1) 57 it (.agg #[.int .i64 0, .int .i64 0, .int .i64 0, .int .i64 0, .int .i64 0]) 5 40 Try.underlying41 hti htz ht1 ht2 rfl (by decide) so pre.length sc _ rfl (hown1.alloc _) (bx5 x).toList 1 _ 0 1 rfl (by decide) rfl (cells_new _ _ _) (bx5_ones x) hb1' hb2' (by have := bT1.lt; simp; omega) ?_; intro so2 sc2 w4 hown4 hg4 hnew4; obtain ⟨y1, y2, y3, y4, y5⟩ := Boxed.appended (W := W) (n₀ := w.heap.size + 1) bT1 (by decide) hown1 (by have := bT1.lt; omega) (by omega) hown4 hg4; have d1 := y1.cell; have d2 := y1.frozen)
    have bG4 := ((bG1.alloc (.cells #[.int .i64 (x.room : Int), .int .i64 (x.row : Int), .int .i64 (x.col : Int), .int .i64 (x.high : Int), .int .i64 (x.wide : Int)] 57)).kept hg4 (heldB_not_row bG1 (by decide) hown1)).other (a := ⟨w2.heap.size, 0, none⟩) (by simp) (.slice so2 (pre.length + 1) sc2)
    exact ⟨y4.from _, bG4.trans (Eq.symm bG1), ⟨⟨⟨_, y2, by rw [List.length_append, bxsV_snoc]; exact y3, trivial⟩, bG4⟩, hB1.trans (y5.mono (by omega))⟩⟩
  case done =>
    rintro D ys W hD rfl ⟨⟨⟨v, bT1, hown1, _⟩, bG1⟩, hB1⟩ hK
    obtain ⟨so, sc, rfl⟩ := ownsRow_shape hown1
    have cT := bT1.cell
    have hown2 := ownsRow_putObj hown1 (.deferred none) hK rfl
    gi_wp2
    refine ⟨by simp, .inl ⟨_, _, rfl, run_takeDeferred hK, ?_⟩⟩
    refine ⟨.slice so (scanB h wd g (h * wd)).length sc, ?_, ⟨so, sc, rfl, ownsRow_base hown2 (by omega), hB1.trans (belowK_b (w := w) (Nat.le_refl _) W D _ _ (by omega) hK rfl rfl)⟩⟩
    simp [results, Try.f44, go_sem]
  case stop =>
    rintro D c pre W hD ⟨t, ht, rfl⟩ ⟨⟨rfl, hf⟩, hB1⟩ hK
    exact absurd hf (Nat.not_lt_zero _)

end Go.Proofs.Ythlbekookpcacaa
