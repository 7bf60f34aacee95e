/-
  Merged texts: Gui2 GuiK GuiO.
-/
import Derived.Test.YtamfnahbhhmiiaaGui3o1
import Derived.Test.YtamfnahbhhmiiaaSpecWXo1
import Derived.Test.YtamfnahbhhmiiaaListo1
import Derived.Test.YtamfnahbhhmiiaaSideSo1
import Derived.Test.YtamfnahbhhmiiaaCuto1
import Derived.Test.YtamfnahbhhmiiaaAreaso1
import Derived.BigQuiet

/-
  Merged texts: GuiL GuiA GuiB GuiC GuiD.
-/
/-
  Plans that are cut: what the model looks at is a rectangle of the plan. Plain mathematics; no function of the program is named.
-/
namespace Go.Proofs.Ytamfnahbhhmiiaa
open Go.RowKit

/-! # walls from end to end -/
/-! # the first of a list -/
/-! # texts and their cuts -/
/-! # rectangles of texts -/
end Go.Proofs.Ytamfnahbhhmiiaa

/-
  Plans that are cut: the model asks whether cells are of one room, for the first cut, and for both parts. (Walks.)
-/
namespace Go.Proofs.Ytamfnahbhhmiiaa
open Go.RowKit

end Go.Proofs.Ytamfnahbhhmiiaa

/-
  Plans that are cut: the model's parts of a cut. (Walks.)
-/
namespace Go.Proofs.Ytamfnahbhhmiiaa
open Go.RowKit

end Go.Proofs.Ytamfnahbhhmiiaa

/-
  Plans that are cut: the model's cut text. (Walks.)
-/
namespace Go.Proofs.Ytamfnahbhhmiiaa
open Go.RowKit

end Go.Proofs.Ytamfnahbhhmiiaa

/-
  Plans that are cut: the model's answers whether, and how, a plan is cut. (Walks.)
-/
namespace Go.Proofs.Ytamfnahbhhmiiaa
open Go.RowKit

/-- all of a plan -/
def allR (p : List ByteArray) : Rc := ⟨0, p.length, 0, wideB p⟩
/-- the first way to cut a plan -/
def treeP (p : List ByteArray) : Option Tr := if planB p = true then (allR p).tree (gridG p) 12 else none
theorem treeP_no {p : List ByteArray} (h : planB p = false) : treeP p = none := by unfold treeP; rw [h]; rfl
theorem treeP_yes {p : List ByteArray} (h : planB p = true) : treeP p = (allR p).tree (gridG p) 12 := if_pos h
theorem allR_fit {p : List ByteArray} (h : planB p = true) : (allR p).Fit p.length (wideB p) ∧ (allR p).h + (allR p).w ≤ 12 := by
  have hg := (planP_of h).grid
  have := hg.h1; have := hg.h6; have := hg.w1; have := hg.w6
  exact ⟨⟨by unfold allR; omega, by unfold allR; omega, by unfold allR; simp, by unfold allR; simp⟩, by unfold allR; simp only; omega⟩
end Go.Proofs.Ytamfnahbhhmiiaa

/-
  Parts of plans: all of a plan. (Walk inside a fence.)
-/
namespace Go.Proofs.Ytamfnahbhhmiiaa
open Go.RowKit Go.Shelf

attribute [local go_sem] Oper.semAt_some

theorem wpListIn_pushK {F : Fence} {nn : Nat} {P : Program} (w : World) {ops : Array Oper} {rest : List Oper} {o : Oper} {a : Act} {Q : Exit → Act → World → Prop} (hgd : o.guard = none) (s x : Operand) (t : TypeId)
    (ho : o.op = .call { callee := .builtin .append, args := #[s, x], argTypes := #[t, t] })
    (base : Nat) (e : TypeId) (i : TypeInfo) (z : Value) (size bytes : Nat) (ht : P.underlying t = some (.slice e)) (hi : P.info? e = some i) (hz : i.zero = some z)
    (hsize : i.size = size) (hby : i.bytes = bytes) (hzs : z.cells.size = size) (hs0 : 0 < size) (ao : Option Addr) (n cap : Nat) (xs : List Value) (hs : a.eval s = .slice ao n cap) (hown : w.ownsRow base e size (.slice ao n cap) n xs)
    (us : List Value) (m g off c : Nat) (hx : a.eval x = .slice (some ⟨g, off, none⟩) m c) (hm : 0 < m) (hl : us.length = m * size) (hu : ∀ j v, us[j]? = some v → w.cell? ⟨g, off + j, none⟩ = some v) (h1 : ∀ v ∈ us, v.oneCell' = true) (h63 : n + m ≤ maxLen) (hbytes : (n + m) * bytes ≤ 140737488355328) (hbase : base ≤ w.heap.size)
    (h : ∀ ao' cap' w', w'.ownsRow base e size (.slice ao' (n + m) cap') (n + m) (xs ++ us) → w.grownBy w' (Value.ownBlock (.slice ao n cap)) → NewOr w ao ao' → wpListIn F nn P ops Q rest (a.put o.dst (.slice ao' (n + m) cap')) w') : wpListIn F nn P ops Q (o :: rest) a w := by
  refine wpListIn_plain hgd fun K hK' => ?_
  obtain ⟨ao', cap', w', hrun, r1, r2, r3⟩ := run_pushK (P := P) w base t o.type e i z size bytes ht hi hz hsize hby hzs hs0 ao n cap xs hown us m g off c hm hl hu h1 h63 hbytes hbase
  unfold Oper.wpIn
  refine ⟨?_, ?_⟩
  · simp [Oper.about, ho, resolve, Target.leads, Sem.run_pure]
  · rw [Oper.semAt_plain F _ _ (by rw [ho]; intro c hc'; cases hc')]
    simp [execOp, ho, resolve, invoke, builtin, hs, hx, hrun, Result.andThen]
    exact hK' _ _ (h ao' cap' w' r1 r2 r3)

/-- the places of boxes -/
def bx5 (x : Bx) : Array Value := #[.int .i64 (x.room : Nat), .int .i64 (x.row : Nat), .int .i64 (x.col : Nat), .int .i64 (x.high : Nat), .int .i64 (x.wide : Nat)]
def bxsV (L : List Bx) : List Value := L.flatMap fun x => (bx5 x).toList
theorem bxsV_snoc (L : List Bx) (x : Bx) : bxsV (L ++ [x]) = bxsV L ++ (bx5 x).toList := by simp [bxsV]
theorem bx5_ones (x : Bx) : ∀ v ∈ (bx5 x).toList, v.oneCell' = true := fun v hv => by
  simp only [bx5, List.mem_cons, List.not_mem_nil, or_false] at hv
  rcases hv with rfl | rfl | rfl | rfl | rfl <;> rfl

set_option maxRecDepth 100000 in
set_option maxHeartbeats 4000000 in
theorem whole_in (n : Nat) (hn : 6 ≤ n) (h wd r : Nat) (g : Nat → Nat → Nat) (hh : h ≤ 6) (hw : wd ≤ 6) (hr9 : r ≤ 9) (w : World) :
    CallsIn Fence.wide n Try.prog 24 #[.agg (planC h wd r g)] w fun e W' => ∃ ro rc, e = .returned (.slice ro (scanB h wd g (h * wd)).length rc) ∧ W'.ownsRow w.heap.size 53 5 (.slice ro (scanB h wd g (h * wd)).length rc) (scanB h wd g (h * wd)).length (bxsV (scanB h wd g (h * wd))) ∧ Below w.heap.size w W' := by
  have hF : ∀ k, Fence.wide.fn k := fun _ => trivial
  have hn1 : 1 ≤ n := by omega
  have H2 := Lib.hid (planC_2 h wd r g)
  have HCS := Lib.hid (planC_size h wd r g)
  have HST := Lib.hid (fun (b : Nat) (w : World) (hp : w.heap[b]? = some (.cells (planC h wd r g) 44 (0, 0))) => boxes_stops (n - 1) (by omega) b h wd r g hh hw w hp)
  generalize planC h wd r g = C at *
  have hsz : (Try.prog.info? 44).map (·.size) = some C.size := by rw [HCS.out]; kernel_rfl
  have HSZ := Lib.hid hsz; clear hsz
  obtain ⟨it, hti, htz, ht1, ht2⟩ := info_parts Try.infoPl
  have hG : (w.alloc (.cells C 44)).heap[w.heap.size]? = some (.cells C 44 (0, 0)) := HeldB.new w 44 C
  have c2 : (w.alloc (.cells C 44)).cell? ⟨w.heap.size, 2, none⟩ = some (.int .i64 r) := ((HeldB.new w 44 C).cell 2).trans H2.out
  have hrn : it.bytes * r ≤ 281474976710656 := by rw [ht2]; omega
  have hrm : r ≤ maxLen := by unfold maxLen; omega
  refine callsIn_of_wp_marks Try.func24 rfl trivial ?_ rfl
  simp only [Try.ntmps24, List.size_toArray, List.length_cons, List.length_nil, Nat.reduceAdd, Nat.reduceSub, Array.replicate_succ, Array.replicate_zero, List.push_toArray, List.append_toArray, List.nil_append, List.cons_append]
  gi_wp2_with (first
    | (refine wpListIn_make_own _ rfl _ _ 48 rfl (w.heap.size + 1) 53 it (.agg #[.int .i64 0, .int .i64 0, .int .i64 0, .int .i64 0, .int .i64 0]) 5 Try.underlying48 hti htz ht1 .i64 .i64 _ r rfl rfl rfl hrn hrm (by simp) ?_; intro w2 hown hgrow; have hb2 := below_of_grownBy (B := w.heap.size + 1) hgrow (by simp) (by simp); have hP2 : (w2.alloc (.cells #[.slice (some ⟨w.heap.size + 1, 0, none⟩) 0 r] 48)).heap[w.heap.size]? = some (.cells C 44 (0, 0)) := HeldB.alloc ((HeldB.new w 44 C).kept hgrow (by simp)) _)
    | (refine wpListIn_load_row rfl 44 _ rfl w.heap.size rfl 44 C (0, 0) _ hP2 Try.underlying44 rfl HSZ.out ?_)
    | (gi_at_call 50; refine (boxes_in _ C _).mono ?_; rintro e w' ⟨rfl, rfl⟩))
  have hs2 := hb2.size
  rw [World.size_alloc] at hs2
  have bG := HeldB.new (w2.alloc (.cells #[.slice (some ⟨w.heap.size + 1, 0, none⟩) 0 r] 48)) 44 C
  rw [World.size_alloc] at bG
  have bT := (HeldB.new w2 48 #[.slice (some ⟨w.heap.size + 1, 0, none⟩) 0 r]).alloc (.cells C 44)
  have hown0 := (hown.alloc (.cells #[.slice (some ⟨w.heap.size + 1, 0, none⟩) 0 r] 48)).alloc (.cells C 44)
  have hB0 : Below w.heap.size w ((w2.alloc (.cells #[.slice (some ⟨w.heap.size + 1, 0, none⟩) 0 r] 48)).alloc (.cells C 44)) :=
    ((((below_alloc w (.cells C 44)).trans (hb2.mono (by omega))).alloc (by omega) _).alloc (by rw [World.size_alloc]; omega) _)
  have hsz0 : ((w2.alloc (.cells #[.slice (some ⟨w.heap.size + 1, 0, none⟩) 0 r] 48)).alloc (.cells C 44)).heap.size = w2.heap.size + 2 := by simp
  obtain ⟨W0, hW0⟩ : ∃ W0, (w2.alloc (.cells #[.slice (some ⟨w.heap.size + 1, 0, none⟩) 0 r] 48)).alloc (.cells C 44) = W0 := ⟨_, rfl⟩
  rw [World.size_alloc] at hown0
  rw [hW0] at bG bT hown0 hB0 hsz0 ⊢
  clear hW0 hP2 hgrow hown hG c2 hb2
  have hw1s : w.heap.size + 1 ≤ w2.heap.size := hs2
  have hownE : W0.ownsRow (w.heap.size + 1) 53 5 (.slice (some ⟨w.heap.size + 1, 0, none⟩) 0 r) 0 (bxsV []) := hown0
  refine wpIn_rangeFunc_ownH rfl hn1 (gf := 84) (lb := #[.pointer (some ⟨w2.heap.size + 1, 0, none⟩)]) rfl trivial (enters_of Try.func84 (by kernel_rfl) rfl)
    (HST.out (w2.heap.size + 1) W0 bG) (fun {A B D} (h1 : B.heap[w2.heap.size + 1]? = A.heap[w2.heap.size + 1]?) (h2 : D.heap[w2.heap.size + 1]? = B.heap[w2.heap.size + 1]?) => h2.trans h1)
    (fun W l o o' hl _ _ _ => World.putObj_heap_other (by omega)) (Below.refl _ _) (fun _ => rfl)
    (fun pre W => ((∃ v, Boxed W w2.heap.size 48 v ∧ W.ownsRow (w.heap.size + 1) 53 5 v (pre : List Bx).length (bxsV pre) ∧ True) ∧ HeldB W (w2.heap.size + 1) 44 C) ∧ Below w.heap.size w W)
    (fun c pre W => (c = .ret ∧ (pre : List Bx).length < 0) ∧ Below w.heap.size w W)
    (OwnFrom.and (OwnFrom.and (Own.from (holdsRow_own (w.heap.size + 1) w2.heap.size 48 53 5 (fun pre : List Bx => pre.length) bxsV (fun _ _ => True)) _) (Own.from (heldB_own _ _ (fun _ => C)) _)) (ownFrom_below (Nat.le_refl _) (by omega)))
    (fun c => OwnFrom.and (ownFrom_pure _ (fun pre => c = .ret ∧ (pre : List Bx).length < 0)) (ownFrom_below (Nat.le_refl _) (by omega)))
    ⟨⟨⟨_, bT, hownE, trivial⟩, bG⟩, hB0⟩
    (fun x a' W => ∃ B, w2.heap.size + 1 < B ∧ HeldB W B 51 #[.int .i64 x.row, .int .i64 x.col, .int .i64 x.high, .int .i64 x.wide] ∧ a' = { tmps := #[.agg C, .pointer (some ⟨w.heap.size, 0, none⟩), .slice none 0 0, .pointer (some ⟨w2.heap.size, 0, none⟩), .int .i64 x.room, .pointer (some ⟨B, 0, none⟩), .pointer (some ⟨w.heap.size, 2, none⟩), .int .i64 r, .slice (some ⟨w.heap.size + 1, 0, none⟩) 0 r, .agg C, .func (.func 84) #[] #[.pointer (some ⟨w2.heap.size + 1, 0, none⟩)], .int .i64 x.room, .agg #[.int .i64 x.row, .int .i64 x.col, .int .i64 x.high, .int .i64 x.wide], undef, undef, undef, undef, undef, undef, undef], defers := [] })
    (fun x a' _ X Y row hs hg hr => by obtain ⟨B, h1, h2, h3⟩ := hs; exact ⟨B, h1, heldB_own B 51 (fun (_ : Unit) => #[.int .i64 x.row, .int .i64 x.col, .int .i64 x.high, .int .i64 x.wide]) () X Y row h2 hg (fun r e => (hr r e).2), h3⟩)
    ?assign ?body ?done ?stop
  case assign =>
    rintro l pre x W K ⟨⟨⟨v, bT1, hown1, _⟩, bG1⟩, hB1⟩ hK
    simp only [encB]
    gi_wp2
    exact hK _ _ ((KeepsOthers.alloc _ _).from _) (Below.heap_alloc W _ _ bG1.lt) ⟨⟨⟨v, bT1.alloc _, hown1.alloc _, trivial⟩, bG1.alloc _⟩, hB1.alloc hB1.size _⟩ ⟨W.heap.size, bG1.lt, HeldB.new W _ _, rfl⟩
  case body =>
    rintro l pre x a' W hl ⟨rl, hr⟩ ⟨⟨⟨v, bT1, hown1, _⟩, bG1⟩, hB1⟩ ⟨B, hBB, bX, rfl⟩ hlt
    have h1' : 1 ≤ n - 1 - 1 := by omega
    have cX0 : W.cell? ⟨B, 0, none⟩ = some (.int .i64 x.row) := bX.cell 0
    have cX1 : W.cell? ⟨B, 1, none⟩ = some (.int .i64 x.col) := bX.cell 1
    have cX2 : W.cell? ⟨B, 2, none⟩ = some (.int .i64 x.high) := bX.cell 2
    have cX3 : W.cell? ⟨B, 3, none⟩ = some (.int .i64 x.wide) := bX.cell 3
    obtain ⟨so, sc, rfl⟩ := ownsRow_shape hown1
    have cT := bT1.cell
    have fT := bT1.frozen
    have hb1' : pre.length + 1 ≤ maxLen := by unfold maxLen; omega
    have hb2' : (pre.length + 1) * 40 ≤ 140737488355328 := by omega
    gi_wp2_with (refine wpListIn_pushK _ rfl _ _ 48 rfl (w.heap.size + 1) 53 it (.agg #[.int .i64 0, .int .i64 0, .int .i64 0, .int .i64 0, .int .i64 0]) 5 40 Try.underlying48 hti htz ht1 ht2 rfl (by decide) so pre.length sc _ rfl (hown1.alloc _) (bx5 x).toList 1 _ 0 1 rfl (by decide) rfl (cells_new _ _ _) (bx5_ones x) hb1' hb2' (by have := bT1.lt; simp; omega) ?_; intro so2 sc2 w4 hown4 hg4 hnew4; obtain ⟨y1, y2, y3, y4, y5⟩ := Boxed.appended (W := W) (n₀ := w.heap.size + 1) bT1 (by decide) hown1 (by have := bT1.lt; omega) (by omega) hown4 hg4; have d1 := y1.cell; have d2 := y1.frozen)
    have bG4 := ((bG1.alloc (.cells #[.int .i64 (x.room : Int), .int .i64 (x.row : Int), .int .i64 (x.col : Int), .int .i64 (x.high : Int), .int .i64 (x.wide : Int)] 53)).kept hg4 (heldB_not_row bG1 (by decide) hown1)).other (a := ⟨w2.heap.size, 0, none⟩) (by simp) (.slice so2 (pre.length + 1) sc2)
    exact ⟨y4.from _, bG4.trans (Eq.symm bG1), ⟨⟨⟨_, y2, by rw [List.length_append, bxsV_snoc]; exact y3, trivial⟩, bG4⟩, hB1.trans (y5.mono (by omega))⟩⟩
  case done =>
    rintro D ys W hD rfl ⟨⟨⟨v, bT1, hown1, _⟩, bG1⟩, hB1⟩ hK
    obtain ⟨so, sc, rfl⟩ := ownsRow_shape hown1
    have cT := bT1.cell
    have hown2 := ownsRow_putObj hown1 (.deferred none) hK rfl
    gi_wp2
    refine ⟨by simp, .inl ⟨_, _, rfl, run_takeDeferred hK, ?_⟩⟩
    refine ⟨.slice so (scanB h wd g (h * wd)).length sc, ?_, ⟨so, sc, rfl, ownsRow_base hown2 (by omega), hB1.trans (belowK_b (w := w) (Nat.le_refl _) W D _ _ (by omega) hK rfl rfl)⟩⟩
    simp [results, Try.f24, go_sem]
  case stop =>
    rintro D c pre W hD ⟨t, ht, rfl⟩ ⟨⟨rfl, hf⟩, hB1⟩ hK
    exact absurd hf (Nat.not_lt_zero _)

end Go.Proofs.Ytamfnahbhhmiiaa

/-
  The program asks whether a plan is cuttable. (Walks.)
-/
namespace Go.Proofs.Ytamfnahbhhmiiaa
open Go.RowKit

def noBx : Bx := ⟨0, 0, 0, 0, 0, by omega, by omega, by omega⟩
def bxP (p : List ByteArray) (a : Nat) : Bx := ((scanB p.length (wideB p) (gridG p) (p.length * wideB p))[a]?).getD noBx
theorem bxP_of {p : List ByteArray} (hp : PlanP p) {a : Nat} (ha : a < gridR p) : BoxOf p a (bxP p a) := by
  obtain ⟨x, hx, hb⟩ := hp.boxes.2 a ha
  unfold bxP; rw [hx]; exact hb
theorem boxy_of {p : List ByteArray} (hp : PlanP p) : Boxy p.length (wideB p) (gridG p) (gridR p) (bxP p) :=
  ⟨hp.grid.h6, hp.grid.w6, hp.few, hp.rect.of_same (fun i j i' j' a b c d => by rw [hp.mark i j a b, hp.mark i' j' c d]), fun i j hi hj => gridG_lt hi hj, fun a ha => (bxP_of hp ha).2.1, fun a ha => (bxP_of hp ha).2.2.1, fun a ha => (bxP_of hp ha).2.2.2.1, fun a ha => (bxP_of hp ha).2.2.2.2.1,
    fun a i j ha hi hj => by rw [← hp.mark i j hi hj]; exact (bxP_of hp ha).2.2.2.2.2 i j hi hj⟩
theorem bxsV_range {bx : Nat → Bx} {L : List Bx} (h : ∀ a, a < L.length → ∃ x, L[a]? = some x ∧ bx a = x ∧ x.room = a) : ∀ n, n ≤ L.length → bxsV (L.take n) = plL bx (List.range n)
  | 0, _ => rfl
  | n + 1, hn => by
    obtain ⟨x, hx, hb, hr⟩ := h n (by omega)
    have hxx := (List.getElem?_eq_some_iff.1 hx)
    rw [List.take_add_one, hx, List.range_succ, plL_snoc]
    show bxsV (L.take n ++ [x]) = _
    rw [bxsV_snoc, bxsV_range h n (by omega)]
    congr 1
    unfold bx5 pl1
    rw [hb, hr]
theorem bxsV_plan {p : List ByteArray} (hp : PlanP p) : bxsV (scanB p.length (wideB p) (gridG p) (p.length * wideB p)) = plL (bxP p) (List.range (gridR p)) ∧ (scanB p.length (wideB p) (gridG p) (p.length * wideB p)).length = gridR p := by
  obtain ⟨hl, hb⟩ := hp.boxes
  refine ⟨?_, hl⟩
  have := bxsV_range (bx := bxP p) (L := scanB p.length (wideB p) (gridG p) (p.length * wideB p)) (fun a ha => by
    rw [hl] at ha
    obtain ⟨x, hx, hbx⟩ := hb a ha
    exact ⟨x, hx, by unfold bxP; rw [hx]; rfl, hbx.1⟩) (gridR p) (by omega)
  rwa [List.take_of_length_le (by omega)] at this
theorem allR_clo {p : List ByteArray} (h : planB p = true) : (allR p).Clo (gridG p) p.length (wideB p) :=
  ⟨(allR_fit h).1, fun _ _ i' j' _ h1 h2 _ => by unfold allR Rc.has; simp; exact ⟨h1, h2⟩⟩
theorem allR_rooms {p : List ByteArray} (h : planB p = true) : (allR p).rooms (gridG p) (gridR p) = List.range (gridR p) := by
  unfold Rc.rooms
  rw [List.filter_eq_self]
  intro a ha
  rw [List.mem_range] at ha
  have hp := planP_of h
  have hb := bxP_of hp ha
  have h1 := hb.2.1; have h2 := hb.2.2.1; have h3 := hb.2.2.2.1; have h4 := hb.2.2.2.2.1
  rw [Rc.room_iff]
  refine ⟨(bxP p a).row, (bxP p a).col, ?_, ?_⟩
  · unfold allR Rc.has; simp only; omega
  · exact ((boxy_of hp).cell a _ _ ha (by omega) (by omega)).2 ⟨by omega, by omega, by omega, by omega⟩
theorem planR_le9 (p : List ByteArray) : planR p ≤ 9 := by
  unfold planR; split
  · rename_i h; exact (planP_of h).few
  · omega
/-- what is told of all of a plan -/
def CutRet (p : List ByteArray) (e : Ending) (w' : World) : Prop :=
  ∃ ro m rc, e = .returned (.tuple #[.slice ro m rc, .bool (treeP p).isSome]) ∧ (planB p = true → m = gridR p ∧ CellsAt w' ro (plL (bxP p) (List.range (gridR p))))
theorem whole_any (h wd r : Nat) (g : Nat → Nat → Nat) (hh : h ≤ 6) (hw : wd ≤ 6) (hr9 : r ≤ 9) (w : World) :
    Calls Try.prog 24 #[.agg (planC h wd r g)] w fun e W' => ∃ ro rc, e = .returned (.slice ro (scanB h wd g (h * wd)).length rc) ∧ W'.ownsRow w.heap.size 53 5 (.slice ro (scanB h wd g (h * wd)).length rc) (scanB h wd g (h * wd)).length (bxsV (scanB h wd g (h * wd))) ∧ Below w.heap.size w W' :=
  callsIn_wide.1 (whole_in 6 (Nat.le_refl _) h wd r g hh hw hr9 w)

set_option maxRecDepth 100000 in
set_option maxHeartbeats 4000000 in
theorem readCuttable_any (ao : Option Addr) (cap : Nat) (p : List ByteArray) (w : World) (hl : p.length ≤ 1048576) (hs : ∀ s ∈ p, s.size ≤ 1048576) (hc : CellsAt w ao (p.map Value.string)) :
    Calls Try.prog 30 #[.slice ao p.length cap] w fun e w' => CutRet p e w' ∧ Below w.heap.size w w' := by
  have HRD := Lib.hid (readPlan_any ao cap p w hl hs hc)
  have hN0 : ∀ W, (binOp .eql 48 (.slice none 0 0) (.slice none 0 0)).run Try.prog W = .ok (.bool true) W := fun W => Lib.run_eql_slice_nil_nil W _ _ Try.underlying48
  have hN1 : ∀ a m c W, (binOp .eql 48 (.slice (some a) m c) (.slice none 0 0)).run Try.prog W = .ok (.bool false) W := fun a m c W => Lib.run_eql_slice_some_nil W a m c Try.underlying48
  rw [readC_plan, readOk_eq] at HRD
  have HWH := Lib.hid (fun w => whole_any (planH p) (planW p) (planR p) (planG p) (planH_le p) (planW_le p) (planR_le9 p) w)
  have HSZ := Lib.hid (show (Try.prog.info? 44).map (·.size) = some (planC (planH p) (planW p) (planR p) (planG p)).size by rw [planC_size]; kernel_rfl)
  have HCS := Lib.hid (planC_size (planH p) (planW p) (planR p) (planG p))
  have HONE := Lib.hid (planC_one (planH p) (planW p) (planR p) (planG p))
  unfold CutRet
  cases h : planB p
  · rw [treeP_no h]
    rw [h] at HRD
    generalize planC (planH p) (planW p) (planR p) (planG p) = C at *
    generalize bxsV (scanB (planH p) (planW p) (planG p) (planH p * planW p)) = XV at *
    generalize (scanB (planH p) (planW p) (planG p) (planH p * planW p)).length = XN at *
    clear h hN0 hN1
    go_enter Try.func30, Try.ntmps30
    go_wp2_with fail
    refine HRD.out.mono ?_
    rintro e w1 ⟨rfl, hb1⟩
    have bC := HeldB.new w1 44 C
    go_wp2_with (first
      | (refine wpList_alloc_zero rfl 44 rfl zeroC zero_plan ?_)
      | (refine wpList_store_new rfl 44 _ _ rfl _ zeroC C rfl rfl rfl HSZ.out (by rw [HCS.out]; rfl) HONE.out ?_)
      | (refine wpList_load_row rfl 44 _ rfl w1.heap.size rfl 44 C (0, 0) _ bC Try.underlying44 rfl HSZ.out ?_)
      | (go_at_call 24; refine (HWH.out _).mono ?_; rintro e w2 ⟨ro, rc, rfl, hown, hb2⟩))
    go_ret2
    exact ⟨⟨_, _, _, rfl, fun h => by cases h⟩, below_step (hb1.alloc hb1.size _) (hb1.alloc hb1.size _).size hb2⟩
  · have hp := planP_of h
    have e1 : planH p = p.length := if_pos h
    have e2 : planW p = wideB p := if_pos h
    have e3 : planR p = gridR p := if_pos h
    have e4 : planG p = gridG p := if_pos h
    rw [h] at HRD
    rw [e1, e2, e3, e4] at HWH HRD HSZ HCS HONE
    rw [(bxsV_plan hp).1, (bxsV_plan hp).2] at HWH
    have hC := allR_clo h
    have HST := Lib.hid (fun po cap w hc => stuck_any (boxy_of hp) 12 (allR p) po cap w hC (allR_fit h).2 hc)
    rw [allR_rooms h, List.length_range] at HST
    have hts := Rc.tree_stuck (g := gridG p) (n := 12) (allR_fit h).1 (allR_fit h).2
    rw [treeP_yes h]
    generalize planC p.length (wideB p) (gridR p) (gridG p) = C at *
    have HTS := Lib.hid hts
    clear hts hC h e1 e2 e3 e4
    generalize (allR p).tree (gridG p) 12 = T at *
    generalize (allR p).stuck (gridG p) 12 = K at *
    go_enter Try.func30, Try.ntmps30
    go_wp2_with fail
    refine HRD.out.mono ?_
    rintro e w1 ⟨rfl, hb1⟩
    have bC := HeldB.new w1 44 C
    go_wp2_with (first
      | (refine wpList_alloc_zero rfl 44 rfl zeroC zero_plan ?_)
      | (refine wpList_store_new rfl 44 _ _ rfl _ zeroC C rfl rfl rfl HSZ.out (by rw [HCS.out]; rfl) HONE.out ?_)
      | (refine wpList_load_row rfl 44 _ rfl w1.heap.size rfl 44 C (0, 0) _ bC Try.underlying44 rfl HSZ.out ?_)
      | (go_at_call 24; refine (HWH.out _).mono ?_; rintro e w2 ⟨ro, rc, rfl, hown, hb2⟩; have hcl := ownsK_cells hown))
    refine (HST.out _ _ _ hcl).mono ?_
    rintro e w3 ⟨⟨so, sm, sc, rfl, hs1, hs2⟩, hb3⟩
    have hcl3 := hcl.below hb3
    have hbx := below_step (below_step (hb1.alloc hb1.size (.cells C 44)) (hb1.alloc hb1.size _).size hb2) (below_step (hb1.alloc hb1.size _) (hb1.alloc hb1.size _).size hb2).size hb3
    cases K with
    | none =>
      obtain ⟨rfl, rfl, rfl⟩ := hs1 rfl
      have ht : T.isSome = true := HTS.out.2 rfl
      have HT := Lib.hid ht
      clear hs1 hs2 ht
      go_wp2
      go_ret2
      exact ⟨⟨_, _, _, by rw [HT.out]; rfl, fun _ => ⟨rfl, hcl3⟩⟩, hbx⟩
    | some S =>
      obtain ⟨sa, rfl, rfl, hcs⟩ := hs2 S rfl
      have ht : T.isSome = false := by
        cases hT : T.isSome
        · rfl
        · have := HTS.out.1 hT; cases this
      have HT := Lib.hid ht
      clear hs1 hs2 ht hcs
      go_wp2
      go_ret2
      exact ⟨⟨_, _, _, by rw [HT.out]; rfl, fun _ => ⟨rfl, hcl3⟩⟩, hbx⟩
set_option maxRecDepth 100000 in
theorem implCutIs_any (ao : Option Addr) (cap : Nat) (p : List ByteArray) (w : World) (hl : p.length ≤ 1048576) (hs : ∀ s ∈ p, s.size ≤ 1048576) (hc : CellsAt w ao (p.map Value.string)) :
    Calls Try.prog 10 #[.slice ao p.length cap] w fun e w' => e = .returned (.bool (treeP p).isSome) ∧ Below w.heap.size w w' := by
  have HR := Lib.hid (readCuttable_any ao cap p w hl hs hc)
  go_enter Try.func10, Try.ntmps10
  go_wp2_with (go_at_call 30; refine HR.out.mono ?_; rintro e w1 ⟨⟨ro, m, rc, rfl, -⟩, hb1⟩)
  go_ret
  exact ⟨rfl, hb1⟩

end Go.Proofs.Ytamfnahbhhmiiaa
