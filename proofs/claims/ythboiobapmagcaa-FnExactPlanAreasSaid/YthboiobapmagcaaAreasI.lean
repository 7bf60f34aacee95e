/-
  The numbers of cells of rooms: the program's answer. (Walk inside a fence.)
-/
import Derived.Test.YthboiobapmagcaaAreasS
import Derived.Test.YthboiobapmagcaaImplK
import Derived.RangeFuncBox
import Derived.Test.YthboiobapmagcaaFence
namespace Go.Proofs.Ythboiobapmagcaa
open Go.RowKit Go.Shelf

attribute [local go_sem] Oper.semAt_some

/-- the areas of boxes -/
def areaL (L : List Bx) : List Int := L.map fun x => ((x.high * x.wide : Nat) : Int)
def areaV (L : List Bx) : List Value := (areaL L).map (Value.int .i64)
theorem areaV_snoc (L : List Bx) (x : Bx) : areaV (L ++ [x]) = areaV L ++ [.int .i64 ((x.high * x.wide : Nat) : Int)] := by simp [areaV, areaL]
theorem areaL_len (L : List Bx) : (areaL L).length = L.length := by simp [areaL]

theorem heldB_not_row {W : World} {B : Nat} {t e : TypeId} {cs : Array Value} (h : HeldB W B t cs) (hte : t ≠ e) {base size k : Nat} {v : Value} {xs : List Value} (hr : W.ownsRow base e size v k xs) : some B ≠ v.ownBlock := by
  rcases hr.2 with ⟨rfl, _⟩ | ⟨g, cap, cur, rfl, _, hgb, _⟩
  · simp [Value.ownBlock]
  · intro e'
    obtain rfl : B = g := by simpa [Value.ownBlock] using e'
    have := (show W.heap[B]? = _ from h).symm.trans hgb
    simp at this
    exact hte this.2

set_option maxRecDepth 100000 in
set_option maxHeartbeats 4000000 in
theorem areas_in (n : Nat) (hn : 6 ≤ n) (h wd r : Nat) (g : Nat → Nat → Nat) (hh : h ≤ 6) (hw : wd ≤ 6) (hr9 : r ≤ 9) (ao : Option Addr) (cap : Nat) (p : List ByteArray) (w : World) (hl : p.length ≤ 1048576) (hs : ∀ s ∈ p, s.size ≤ 1048576) (hc : CellsAt w ao (p.map Value.string)) (hr : readOk p = true) (hC : readC p = planC h wd r g) :
    CallsIn Fence.wide n Try.prog 47 #[.slice ao p.length cap] w fun e W' => NumsRet w.heap.size (areaL (scanB h wd g (h * wd))) true e W' ∧ Below w.heap.size w W' := by
  have hF : ∀ k, Fence.wide.fn k := fun _ => trivial
  have hn1 : 1 ≤ n := by omega
  have HRD := Lib.hid (by have := readPlan_any ao cap p w hl hs hc; rw [hr, hC] at this; exact this)
  have H2 := Lib.hid (planC_2 h wd r g)
  have HCS := Lib.hid (planC_size h wd r g)
  have HONE := Lib.hid (planC_one h wd r g)
  have HST := Lib.hid (fun (b : Nat) (w : World) (hp : w.heap[b]? = some (.cells (planC h wd r g) 51 (0, 0))) => boxes_stops (n - 1) (by omega) b h wd r g hh hw w hp)
  clear hC hr hc
  generalize planC h wd r g = C at *
  have hsz : (Try.prog.info? 51).map (·.size) = some C.size := by rw [HCS.out]; kernel_rfl
  have HSZ := Lib.hid hsz; clear hsz
  obtain ⟨it, hti, htz, ht1, ht2⟩ := info_parts Try.infoNum
  refine callsIn_of_wp_marks Try.func47 rfl trivial ?_ rfl
  simp only [Try.ntmps47, List.size_toArray, List.length_cons, List.length_nil, Nat.reduceAdd, Nat.reduceSub, Array.replicate_succ, Array.replicate_zero, List.push_toArray, List.append_toArray, List.nil_append, List.cons_append]
  gi_wp2_with fail
  refine (callsIn_wide.2 HRD.out).mono ?_
  rintro e w1 ⟨rfl, hb1⟩
  have hG : (w1.alloc (.cells C 51)).heap[w1.heap.size]? = some (.cells C 51 (0, 0)) := HeldB.new w1 51 C
  have c2 : (w1.alloc (.cells C 51)).cell? ⟨w1.heap.size, 2, none⟩ = some (.int .i64 r) := ((HeldB.new w1 51 C).cell 2).trans H2.out
  have hrn : it.bytes * r ≤ 281474976710656 := by rw [ht2]; omega
  have hrm : r ≤ maxLen := by unfold maxLen; omega
  gi_wp2_with (first
    | (refine wpListIn_alloc_zero rfl 51 rfl zeroC zero_plan ?_)
    | (refine wpListIn_store_new rfl 51 _ _ rfl w1 zeroC C rfl rfl rfl HSZ.out (by rw [HCS.out]; rfl) HONE.out ?_)
    | (refine wpListIn_make_own _ rfl _ _ 40 rfl (w1.heap.size + 1) 3 it (.int .i64 0) 1 Try.underlying40 hti htz ht1 .i64 .i64 _ r rfl rfl rfl hrn hrm (by simp) ?_; intro w2 hown hgrow; have hb2 := below_of_grownBy (B := w1.heap.size + 1) hgrow (by simp) (by simp); have hP2 : (w2.alloc (.cells #[.slice (some ⟨w1.heap.size + 1, 0, none⟩) 0 r] 40)).heap[w1.heap.size]? = some (.cells C 51 (0, 0)) := HeldB.alloc ((HeldB.new w1 51 C).kept hgrow (by simp)) _)
    | (refine wpListIn_load_row rfl 51 _ rfl w1.heap.size rfl 51 C (0, 0) _ hP2 Try.underlying51 rfl HSZ.out ?_)
    | (gi_at_call 88; refine (boxes_in _ C _).mono ?_; rintro e w' ⟨rfl, rfl⟩))
  have hs1 := hb1.size
  have hs2 := hb2.size
  rw [World.size_alloc] at hs2
  have bG := HeldB.new (w2.alloc (.cells #[.slice (some ⟨w1.heap.size + 1, 0, none⟩) 0 r] 40)) 51 C
  rw [World.size_alloc] at bG
  have bT := (HeldB.new w2 40 #[.slice (some ⟨w1.heap.size + 1, 0, none⟩) 0 r]).alloc (.cells C 51)
  have hown0 := (hown.alloc (.cells #[.slice (some ⟨w1.heap.size + 1, 0, none⟩) 0 r] 40)).alloc (.cells C 51)
  have hB0 : Below w.heap.size w ((w2.alloc (.cells #[.slice (some ⟨w1.heap.size + 1, 0, none⟩) 0 r] 40)).alloc (.cells C 51)) :=
    (((hb1.trans ((below_alloc w1 (.cells C 51)).mono hs1)).trans (hb2.mono (by omega))).alloc (by omega) _).alloc (by rw [World.size_alloc]; omega) _
  have hsz0 : ((w2.alloc (.cells #[.slice (some ⟨w1.heap.size + 1, 0, none⟩) 0 r] 40)).alloc (.cells C 51)).heap.size = w2.heap.size + 2 := by simp
  obtain ⟨W0, hW0⟩ : ∃ W0, (w2.alloc (.cells #[.slice (some ⟨w1.heap.size + 1, 0, none⟩) 0 r] 40)).alloc (.cells C 51) = W0 := ⟨_, rfl⟩
  rw [World.size_alloc] at hown0
  rw [hW0] at bG bT hown0 hB0 hsz0 ⊢
  clear hW0 hP2 hgrow hown hG c2 hb1 hb2
  have hw1s : w1.heap.size + 1 ≤ w2.heap.size := hs2
  refine wpIn_rangeFunc_ownH rfl hn1 (gf := 109) (lb := #[.pointer (some ⟨w2.heap.size + 1, 0, none⟩)]) rfl trivial (enters_of Try.func109 (by kernel_rfl) rfl)
    (HST.out (w2.heap.size + 1) W0 bG) (fun {A B D} (h1 : B.heap[w2.heap.size + 1]? = A.heap[w2.heap.size + 1]?) (h2 : D.heap[w2.heap.size + 1]? = B.heap[w2.heap.size + 1]?) => h2.trans h1)
    (fun W l o o' hl _ _ _ => World.putObj_heap_other (by omega)) (Below.refl _ _) (fun _ => rfl)
    (fun pre W => ((∃ v, Boxed W w2.heap.size 40 v ∧ W.ownsRow (w1.heap.size + 1) 3 1 v (pre : List Bx).length (areaV pre) ∧ True) ∧ HeldB W (w2.heap.size + 1) 51 C) ∧ Below w.heap.size w W)
    (fun c pre W => (c = .ret ∧ (pre : List Bx).length < 0) ∧ Below w.heap.size w W)
    (OwnFrom.and (OwnFrom.and (Own.from (holdsRow_own (w1.heap.size + 1) w2.heap.size 40 3 1 (fun pre : List Bx => pre.length) areaV (fun _ _ => True)) _) (Own.from (heldB_own _ _ (fun _ => C)) _)) (ownFrom_below (Nat.le_refl _) (by omega)))
    (fun c => OwnFrom.and (ownFrom_pure _ (fun pre => c = .ret ∧ (pre : List Bx).length < 0)) (ownFrom_below (Nat.le_refl _) (by omega)))
    ⟨⟨⟨_, bT, hown0, trivial⟩, bG⟩, hB0⟩
    (fun x a' W => ∃ B, w2.heap.size + 1 < B ∧ HeldB W B 57 #[.int .i64 x.row, .int .i64 x.col, .int .i64 x.high, .int .i64 x.wide] ∧ a' = { tmps := #[.slice ao p.length cap, undef, .slice none 0 0, .bool false, .pointer (some ⟨w1.heap.size, 0, none⟩), .bool true, .pointer (some ⟨w2.heap.size, 0, none⟩), undef, .pointer (some ⟨B, 0, none⟩), .tuple #[.agg C, .bool true], .slice ao p.length cap, .tuple #[.agg C, .bool true], .agg C, .bool true, .bool true, .bool false, .pointer (some ⟨w1.heap.size, 2, none⟩), .int .i64 r, .slice (some ⟨w1.heap.size + 1, 0, none⟩) 0 r, .agg C, .func (.func 109) #[] #[.pointer (some ⟨w2.heap.size + 1, 0, none⟩)], .int .i64 x.room, .agg #[.int .i64 x.row, .int .i64 x.col, .int .i64 x.high, .int .i64 x.wide], undef, undef, undef, undef, undef, undef], defers := [] })
    (fun x a' _ X Y row hs hg hr => by obtain ⟨B, h1, h2, h3⟩ := hs; exact ⟨B, h1, heldB_own B 57 (fun (_ : Unit) => #[.int .i64 x.row, .int .i64 x.col, .int .i64 x.high, .int .i64 x.wide]) () X Y row h2 hg (fun r e => (hr r e).2), h3⟩)
    ?assign ?body ?done ?stop
  case assign =>
    rintro l pre x W K ⟨⟨⟨v, bT1, hown1, _⟩, bG1⟩, hB1⟩ hK
    simp only [encB]
    gi_wp2
    exact hK _ _ ((KeepsOthers.alloc _ _).from _) (Below.heap_alloc W _ _ bG1.lt) ⟨⟨⟨v, bT1.alloc _, hown1.alloc _, trivial⟩, bG1.alloc _⟩, hB1.alloc hB1.size _⟩ ⟨W.heap.size, bG1.lt, HeldB.new W _ _, rfl⟩
  case body =>
    rintro l pre x a' W hl ⟨rl, hr⟩ ⟨⟨⟨v, bT1, hown1, _⟩, bG1⟩, hB1⟩ ⟨B, hBB, bX, rfl⟩ hlt
    have h1' : 1 ≤ n - 1 - 1 := by omega
    have cX0 : W.cell? ⟨B, 0, none⟩ = some (.int .i64 x.row) := bX.cell 0
    have cX1 : W.cell? ⟨B, 1, none⟩ = some (.int .i64 x.col) := bX.cell 1
    have cX2 : W.cell? ⟨B, 2, none⟩ = some (.int .i64 x.high) := bX.cell 2
    have cX3 : W.cell? ⟨B, 3, none⟩ = some (.int .i64 x.wide) := bX.cell 3
    obtain ⟨so, sc, rfl, _, _⟩ := ownsRow_cells hown1
    have cT := bT1.cell
    have fT := bT1.frozen
    gi_wp2
    refine wpIn_region_any (by kernel_rfl) ?_
    change wpAnyIn _ _ _ _ _ _ _ _ _ (World.drew _)
    have hb1' : pre.length + 1 ≤ maxLen := by unfold maxLen; omega
    have hb2' : (pre.length + 1) * 8 ≤ 140737488355328 := by omega
    refine wpAnyIn_ready (rs := [0, 1]) (by kernel_rfl) (by simp) ?_
    refine AllReadyIn.cons rfl (fun K hK => ?_) (AllReadyIn.cons rfl (fun K hK => ?_) AllReadyIn.nil)
    · go_simp
      refine hK _ _ ?_
      clear hK K
      refine wpAnyIn_ready (rs := [1]) (by kernel_rfl) (by simp) ?_
      refine AllReadyIn.cons rfl (fun K hK => ?_) AllReadyIn.nil
      go_simp
      refine hK _ _ ?_
      clear hK K
      refine wpAnyIn_ready (rs := [2]) (by kernel_rfl) (by simp) ?_
      refine AllReadyIn.cons rfl (fun K hK => ?_) AllReadyIn.nil
      go_simp
      gi_wp2_with fail
      refine (CallsIn.inRound l (callsIn_wide.2 (area_any _ _ _ _ _ (by have := x.hrow; omega) (by have := x.hcol; omega)))).mono ?_
      rintro e w3 ⟨rfl, hb3⟩
      have hb4 : Below W.heap.size W w3 := ⟨hb3.os, hb3.tape, hb3.output, hb3.size, hb3.block⟩
      have cT3 : w3.cell? ⟨w2.heap.size, 0, none⟩ = some (.slice so pre.length sc) := cell_below cT hb4
      have cT4 := fun o => cell_below cT3 (below_alloc w3 o)
      go_simp
      refine hK _ _ ?_
      clear hK K hb3
      refine wpAnyIn_ready (rs := [3]) (by kernel_rfl) (by simp) ?_
      refine AllReadyIn.cons rfl (fun K hK => ?_) AllReadyIn.nil
      go_simp
      refine hK _ _ ?_
      clear hK K
      refine wpAnyIn_ready (rs := [4]) (by kernel_rfl) (by simp) ?_
      refine AllReadyIn.cons rfl (fun K hK => ?_) AllReadyIn.nil
      rw [if_pos (by rfl)]
      refine wpIn_push (.tmp 23) (.tmp 26) 40 (by rfl) (w1.heap.size + 1) 3 it (.int .i64 0) 8 Try.underlying40 hti htz ht1 ht2 rfl so pre.length sc _ (by rfl) ((ownsRow_below hown1 hb4).alloc _) _ w3.heap.size 1 (by rfl) (cell_new _ _ _) rfl hb1' hb2' (by have := hb4.size; have := bT1.lt; simp; omega) ?_
      intro so2 sc2 w4 hown4 hg4 hnew4
      refine hK _ _ ?_
      clear hK K
      obtain ⟨y1, y2, y3, y4, y5⟩ := Boxed.appended (W := w3) (n₀ := w1.heap.size + 1) (Boxed.kept bT1 (grownBy_of_below hb4 none) (by simp)) (by decide) (ownsRow_below hown1 hb4) (by have := hb4.size; have := bT1.lt; omega) (by omega) hown4 hg4
      have d1 := y1.cell
      have d2 := y1.frozen
      refine wpAnyIn_ready (rs := [5]) (by kernel_rfl) (by simp) ?_
      refine AllReadyIn.cons rfl (fun K hK => ?_) AllReadyIn.nil
      go_simp
      refine hK _ _ ?_
      clear hK K
      refine wpAnyIn_done (by kernel_rfl) ?_ _
      gi_wp2
      have bG4 := (((bG1.below hb4).alloc (.cells #[.int .i64 ((x.high : Int) * (x.wide : Int))] 3)).kept hg4 (heldB_not_row ((bG1.below hb4).alloc (.cells #[.int .i64 ((x.high : Int) * (x.wide : Int))] 3)) (by decide) ((ownsRow_below hown1 hb4).alloc _))).other (a := ⟨w2.heap.size, 0, none⟩) (by simp) (.slice so2 (pre.length + 1) sc2)
      exact ⟨((keeps_below hb4).trans y4).from _, bG4.trans (Eq.symm bG1), ⟨⟨⟨_, y2, by rw [List.length_append, areaV_snoc, Int.natCast_mul]; exact y3, trivial⟩, bG4⟩, (below_step hB1 hB1.size hb4).trans (y5.mono (by omega))⟩⟩
    · go_simp
      refine hK _ _ ?_
      clear hK K
      refine wpAnyIn_ready (rs := [0, 2]) (by kernel_rfl) (by simp) ?_
      refine AllReadyIn.cons rfl (fun K hK => ?_) (AllReadyIn.cons rfl (fun K hK => ?_) AllReadyIn.nil)
      · go_simp
        refine hK _ _ ?_
        clear hK K
        refine wpAnyIn_ready (rs := [2]) (by kernel_rfl) (by simp) ?_
        refine AllReadyIn.cons rfl (fun K hK => ?_) AllReadyIn.nil
        go_simp
        gi_wp2_with fail
        refine (CallsIn.inRound l (callsIn_wide.2 (area_any _ _ _ _ _ (by have := x.hrow; omega) (by have := x.hcol; omega)))).mono ?_
        rintro e w3 ⟨rfl, hb3⟩
        have hb4 : Below W.heap.size W w3 := ⟨hb3.os, hb3.tape, hb3.output, hb3.size, hb3.block⟩
        have cT3 : w3.cell? ⟨w2.heap.size, 0, none⟩ = some (.slice so pre.length sc) := cell_below cT hb4
        have cT4 := fun o => cell_below cT3 (below_alloc w3 o)
        go_simp
        refine hK _ _ ?_
        clear hK K hb3
        refine wpAnyIn_ready (rs := [3]) (by kernel_rfl) (by simp) ?_
        refine AllReadyIn.cons rfl (fun K hK => ?_) AllReadyIn.nil
        go_simp
        refine hK _ _ ?_
        clear hK K
        refine wpAnyIn_ready (rs := [4]) (by kernel_rfl) (by simp) ?_
        refine AllReadyIn.cons rfl (fun K hK => ?_) AllReadyIn.nil
        rw [if_pos (by rfl)]
        refine wpIn_push (.tmp 23) (.tmp 26) 40 (by rfl) (w1.heap.size + 1) 3 it (.int .i64 0) 8 Try.underlying40 hti htz ht1 ht2 rfl so pre.length sc _ (by rfl) ((ownsRow_below hown1 hb4).alloc _) _ w3.heap.size 1 (by rfl) (cell_new _ _ _) rfl hb1' hb2' (by have := hb4.size; have := bT1.lt; simp; omega) ?_
        intro so2 sc2 w4 hown4 hg4 hnew4
        refine hK _ _ ?_
        clear hK K
        obtain ⟨y1, y2, y3, y4, y5⟩ := Boxed.appended (W := w3) (n₀ := w1.heap.size + 1) (Boxed.kept bT1 (grownBy_of_below hb4 none) (by simp)) (by decide) (ownsRow_below hown1 hb4) (by have := hb4.size; have := bT1.lt; omega) (by omega) hown4 hg4
        have d1 := y1.cell
        have d2 := y1.frozen
        refine wpAnyIn_ready (rs := [5]) (by kernel_rfl) (by simp) ?_
        refine AllReadyIn.cons rfl (fun K hK => ?_) AllReadyIn.nil
        go_simp
        refine hK _ _ ?_
        clear hK K
        refine wpAnyIn_done (by kernel_rfl) ?_ _
        gi_wp2
        have bG4 := (((bG1.below hb4).alloc (.cells #[.int .i64 ((x.high : Int) * (x.wide : Int))] 3)).kept hg4 (heldB_not_row ((bG1.below hb4).alloc (.cells #[.int .i64 ((x.high : Int) * (x.wide : Int))] 3)) (by decide) ((ownsRow_below hown1 hb4).alloc _))).other (a := ⟨w2.heap.size, 0, none⟩) (by simp) (.slice so2 (pre.length + 1) sc2)
        exact ⟨((keeps_below hb4).trans y4).from _, bG4.trans (Eq.symm bG1), ⟨⟨⟨_, y2, by rw [List.length_append, areaV_snoc, Int.natCast_mul]; exact y3, trivial⟩, bG4⟩, (below_step hB1 hB1.size hb4).trans (y5.mono (by omega))⟩⟩
      · go_simp
        gi_wp2_with fail
        refine (CallsIn.inRound l (callsIn_wide.2 (area_any _ _ _ _ _ (by have := x.hrow; omega) (by have := x.hcol; omega)))).mono ?_
        rintro e w3 ⟨rfl, hb3⟩
        have hb4 : Below W.heap.size W w3 := ⟨hb3.os, hb3.tape, hb3.output, hb3.size, hb3.block⟩
        have cT3 : w3.cell? ⟨w2.heap.size, 0, none⟩ = some (.slice so pre.length sc) := cell_below cT hb4
        have cT4 := fun o => cell_below cT3 (below_alloc w3 o)
        go_simp
        refine hK _ _ ?_
        clear hK K hb3
        refine wpAnyIn_ready (rs := [0, 3]) (by kernel_rfl) (by simp) ?_
        refine AllReadyIn.cons rfl (fun K hK => ?_) (AllReadyIn.cons rfl (fun K hK => ?_) AllReadyIn.nil)
        · go_simp
          refine hK _ _ ?_
          clear hK K
          refine wpAnyIn_ready (rs := [3]) (by kernel_rfl) (by simp) ?_
          refine AllReadyIn.cons rfl (fun K hK => ?_) AllReadyIn.nil
          go_simp
          refine hK _ _ ?_
          clear hK K
          refine wpAnyIn_ready (rs := [4]) (by kernel_rfl) (by simp) ?_
          refine AllReadyIn.cons rfl (fun K hK => ?_) AllReadyIn.nil
          rw [if_pos (by rfl)]
          refine wpIn_push (.tmp 23) (.tmp 26) 40 (by rfl) (w1.heap.size + 1) 3 it (.int .i64 0) 8 Try.underlying40 hti htz ht1 ht2 rfl so pre.length sc _ (by rfl) ((ownsRow_below hown1 hb4).alloc _) _ w3.heap.size 1 (by rfl) (cell_new _ _ _) rfl hb1' hb2' (by have := hb4.size; have := bT1.lt; simp; omega) ?_
          intro so2 sc2 w4 hown4 hg4 hnew4
          refine hK _ _ ?_
          clear hK K
          obtain ⟨y1, y2, y3, y4, y5⟩ := Boxed.appended (W := w3) (n₀ := w1.heap.size + 1) (Boxed.kept bT1 (grownBy_of_below hb4 none) (by simp)) (by decide) (ownsRow_below hown1 hb4) (by have := hb4.size; have := bT1.lt; omega) (by omega) hown4 hg4
          have d1 := y1.cell
          have d2 := y1.frozen
          refine wpAnyIn_ready (rs := [5]) (by kernel_rfl) (by simp) ?_
          refine AllReadyIn.cons rfl (fun K hK => ?_) AllReadyIn.nil
          go_simp
          refine hK _ _ ?_
          clear hK K
          refine wpAnyIn_done (by kernel_rfl) ?_ _
          gi_wp2
          have bG4 := (((bG1.below hb4).alloc (.cells #[.int .i64 ((x.high : Int) * (x.wide : Int))] 3)).kept hg4 (heldB_not_row ((bG1.below hb4).alloc (.cells #[.int .i64 ((x.high : Int) * (x.wide : Int))] 3)) (by decide) ((ownsRow_below hown1 hb4).alloc _))).other (a := ⟨w2.heap.size, 0, none⟩) (by simp) (.slice so2 (pre.length + 1) sc2)
          exact ⟨((keeps_below hb4).trans y4).from _, bG4.trans (Eq.symm bG1), ⟨⟨⟨_, y2, by rw [List.length_append, areaV_snoc, Int.natCast_mul]; exact y3, trivial⟩, bG4⟩, (below_step hB1 hB1.size hb4).trans (y5.mono (by omega))⟩⟩
        · go_simp
          refine hK _ _ ?_
          clear hK K
          refine wpAnyIn_ready (rs := [0]) (by kernel_rfl) (by simp) ?_
          refine AllReadyIn.cons rfl (fun K hK => ?_) AllReadyIn.nil
          go_simp
          refine hK _ _ ?_
          clear hK K
          refine wpAnyIn_ready (rs := [4]) (by kernel_rfl) (by simp) ?_
          refine AllReadyIn.cons rfl (fun K hK => ?_) AllReadyIn.nil
          rw [if_pos (by rfl)]
          refine wpIn_push (.tmp 23) (.tmp 26) 40 (by rfl) (w1.heap.size + 1) 3 it (.int .i64 0) 8 Try.underlying40 hti htz ht1 ht2 rfl so pre.length sc _ (by rfl) ((ownsRow_below hown1 hb4).alloc _) _ w3.heap.size 1 (by rfl) (cell_new _ _ _) rfl hb1' hb2' (by have := hb4.size; have := bT1.lt; simp; omega) ?_
          intro so2 sc2 w4 hown4 hg4 hnew4
          refine hK _ _ ?_
          clear hK K
          obtain ⟨y1, y2, y3, y4, y5⟩ := Boxed.appended (W := w3) (n₀ := w1.heap.size + 1) (Boxed.kept bT1 (grownBy_of_below hb4 none) (by simp)) (by decide) (ownsRow_below hown1 hb4) (by have := hb4.size; have := bT1.lt; omega) (by omega) hown4 hg4
          have d1 := y1.cell
          have d2 := y1.frozen
          refine wpAnyIn_ready (rs := [5]) (by kernel_rfl) (by simp) ?_
          refine AllReadyIn.cons rfl (fun K hK => ?_) AllReadyIn.nil
          go_simp
          refine hK _ _ ?_
          clear hK K
          refine wpAnyIn_done (by kernel_rfl) ?_ _
          gi_wp2
          have bG4 := (((bG1.below hb4).alloc (.cells #[.int .i64 ((x.high : Int) * (x.wide : Int))] 3)).kept hg4 (heldB_not_row ((bG1.below hb4).alloc (.cells #[.int .i64 ((x.high : Int) * (x.wide : Int))] 3)) (by decide) ((ownsRow_below hown1 hb4).alloc _))).other (a := ⟨w2.heap.size, 0, none⟩) (by simp) (.slice so2 (pre.length + 1) sc2)
          exact ⟨((keeps_below hb4).trans y4).from _, bG4.trans (Eq.symm bG1), ⟨⟨⟨_, y2, by rw [List.length_append, areaV_snoc, Int.natCast_mul]; exact y3, trivial⟩, bG4⟩, (below_step hB1 hB1.size hb4).trans (y5.mono (by omega))⟩⟩
  case done =>
    rintro D ys W hD rfl ⟨⟨⟨v, bT1, hown1, _⟩, bG1⟩, hB1⟩ hK
    obtain ⟨so, sc, rfl, _, _⟩ := ownsRow_cells hown1
    have cT := bT1.cell
    have HLN := Lib.hid (areaL_len (scanB h wd g (h * wd)))
    have hown2 := ownsRow_putObj hown1 (.deferred none) hK rfl
    gi_wp2
    refine ⟨by simp, .inl ⟨_, _, rfl, run_takeDeferred hK, ?_⟩⟩
    refine ⟨.tuple #[.slice so (scanB h wd g (h * wd)).length sc, .bool true], ?_, ⟨so, sc, by rw [HLN.out], ?_⟩, hB1.trans (belowK_b (w := w) (Nat.le_refl _) W D _ _ (by omega) hK rfl rfl)⟩
    · simp [results, Try.f47, go_sem]
    · rw [HLN.out]; exact ownsRow_base hown2 (by omega)
  case stop =>
    rintro D c pre W hD ⟨t, ht, rfl⟩ ⟨⟨rfl, hf⟩, hB1⟩ hK
    exact absurd hf (Nat.not_lt_zero _)

end Go.Proofs.Ythboiobapmagcaa
