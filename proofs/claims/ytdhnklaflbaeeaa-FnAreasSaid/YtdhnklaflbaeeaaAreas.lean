
/-
  Merged texts: AreasS AreasI AreasA SumM.
-/
import Derived.Test.YtdhnklaflbaeeaaRoomA
import Derived.Test.YtdhnklaflbaeeaaImplT
import Derived.Test.YtdhnklaflbaeeaaImplK
import Derived.Test.YtdhnklaflbaeeaaFence
import Derived.Test.YtdhnklaflbaeeaaWideA
import Derived.Test.YtdhnklaflbaeeaaRoomsA
import Derived.RangeFuncBox
import Derived.BigQuiet

/-
  The numbers of cells of rooms: the model's answer. (Walk.)
-/
namespace Go.Proofs.Ytdhnklaflbaeeaa
open Go.RowKit

/-- the numbers of cells of so many rooms -/
def areasL (p : List ByteArray) (n : Nat) : List Int := (List.range n).map fun r : Nat => cellsB p (r : Int)
def areasOr (p : List ByteArray) : List Int := if planB p then areasL p (roomsB p).toNat else []
theorem areasOr_yes {p : List ByteArray} (h : planB p = true) : areasOr p = areasL p (roomsB p).toNat := by unfold areasOr; rw [h]; rfl
theorem areasOr_no {p : List ByteArray} (h : planB p = false) : areasOr p = [] := by unfold areasOr; rw [h]; rfl
theorem areasL_len (p : List ByteArray) (n : Nat) : (areasL p n).length = n := by simp [areasL]
theorem areasL_succ (p : List ByteArray) (n : Nat) : (areasL p (n + 1)).map (Value.int .i64) = (areasL p n).map (Value.int .i64) ++ [.int .i64 (cellsB p (n : Int))] := by simp [areasL, List.range_succ]

/-- a call hands back numbers of the call's own, and a word whether there are any -/
def NumsRet (base : Nat) (T : List Int) (b : Bool) (e : Ending) (w' : World) : Prop :=
  ∃ ro rc, e = .returned (.tuple #[.slice ro T.length rc, .bool b]) ∧ w'.ownsRow base 3 1 (.slice ro T.length rc) T.length (T.map (Value.int .i64))

set_option maxHeartbeats 1000000 in
theorem specAreas_any (ao : Option Addr) (cap : Nat) (p : List ByteArray) (w : World) (hl : p.length ≤ 1048576) (hs : ∀ s ∈ p, s.size ≤ 1048576) (hc : CellsAt w ao (p.map Value.string)) :
    Calls Try.prog 60 #[.slice ao p.length cap] w fun e w' => NumsRet w.heap.size (areasOr p) (planB p) e w' ∧ Below w.heap.size w w' := by
  obtain ⟨it, hti, htz, ht1, ht2⟩ := info_parts Try.infoNum
  have hb0 := below_alloc w (.cells #[] 3)
  have hc0 := hc.below hb0
  have hr0 : (w.alloc (.cells #[] 3)).ownsRow w.heap.size 3 1 (.slice (some ⟨w.heap.size, 0, none⟩) 0 0) 0 (([] : List Int).map (Value.int .i64)) := World.ownsRow_made w #[] 0 (Nat.le_refl _) (Nat.zero_le _) rfl
  cases hp : planB p
  · rw [areasOr_no hp]
    go_enter Try.func60, Try.ntmps60
    go_wp2_with (go_at_call 21; refine (specPlanIn_any _ _ _ _ hl hs hc0).mono ?_; rw [hp]; rintro e w1 ⟨rfl, hb1⟩)
    go_ret2
    exact ⟨⟨_, _, rfl, ownsRow_below hr0 hb1⟩, below_step hb0 hb0.size hb1⟩
  · rw [areasOr_yes hp]
    have hbd := roomsF_bound p
    obtain ⟨n, hn⟩ : ∃ n : Nat, roomsB p = (n : Int) := ⟨(roomsB p).toNat, by omega⟩
    have hn256 : n ≤ 256 := by omega
    have HRN := Lib.hid hn
    rw [hn, Int.toNat_natCast]
    clear hbd hn
    go_enter Try.func60, Try.ntmps60
    go_wp2_with (go_at_call 21; refine (specPlanIn_any _ _ _ _ hl hs hc0).mono ?_; rw [hp]; rintro e w1 ⟨rfl, hb1⟩)
    have hb2 := below_step hb0 hb0.size hb1
    have hr1 : w1.ownsRow w.heap.size 3 1 (.slice (some ⟨w.heap.size, 0, none⟩) 0 0) 0 ((areasL p 0).map (Value.int .i64)) := ownsRow_below hr0 hb1
    clear hb1 hr0 hb0 hc0
    go_loopw [4, 5] (fun vo vi wr => ∃ (i : Nat) (ro : Option Addr) (rc : Nat), i ≤ n ∧ vi = .int .i64 i ∧ vo = .slice ro i rc ∧ wr.ownsRow w.heap.size 3 1 (.slice ro i rc) i ((areasL p i).map (Value.int .i64)) ∧ Below w.heap.size w wr) (fun _ vi _ => n - (intOf vi).toNat)
    case atStart => exact ⟨0, _, _, Nat.zero_le _, rfl, rfl, hr1, hb2⟩
    case round =>
      clear hr1 hb2
      obtain ⟨i, ro, rc, hi, rfl, rfl, hrow, hb⟩ := hrel
      have hcr := hc.below hb
      have hbs := hb.size
      go_wp2_with fail
      refine (l1Rooms_any _ _ _ _ hl hs hcr).mono ?_
      rw [HRN.out]
      rintro e w2 ⟨rfl, rfl⟩
      by_cases hlt : i < n
      · have hb1' : i + 1 ≤ maxLen := by unfold maxLen; omega
        have hb2' : (i + 1) * 8 ≤ 140737488355328 := by omega
        have HSU := Lib.hid (areasL_succ p i)
        go_wp2_with fail
        refine (l1Cells_any _ _ _ _ _ hl hs hcr).mono ?_
        rintro e w3 ⟨rfl, rfl⟩
        generalize cellsB p (i : Int) = cv at *
        go_wp2_with (at_builtin; refine wpList_push _ rfl (.tmp 17) (.tmp 21) 32 rfl w.heap.size 3 it (.int .i64 0) 8 Try.underlying32 hti htz ht1 ht2 rfl ro i rc _ rfl (hrow.alloc _) _ _ _ rfl (cell_new _ _ _) rfl hb1' hb2' (by simp; omega) ?_; intro ro2 rc2 w4 hrow2 hg2 hnew2)
        go_roundw
        case rel => exact ⟨i + 1, ro2, rc2, by omega, by go_num, rfl, owns_eq hrow2 HSU.out.symm, below_push hb hbs hg2 (fun a ha => (owns_lt hrow a ha).1)⟩
        case measure => simp [intOf]; omega
      · obtain rfl : i = n := by omega
        go_wp2
        go_ret2
        exact ⟨⟨_, _, by rw [areasL_len]; rfl, by rw [areasL_len]; exact hrow⟩, hb⟩

end Go.Proofs.Ytdhnklaflbaeeaa

/-
  The numbers of cells of rooms: the program's answer. (Walk inside a fence.)
-/
namespace Go.Proofs.Ytdhnklaflbaeeaa
open Go.RowKit Go.Shelf

attribute [local go_sem] Oper.semAt_some

/-- the areas of boxes -/
def areaL (L : List Bx) : List Int := L.map fun x => ((x.high * x.wide : Nat) : Int)
def areaV (L : List Bx) : List Value := (areaL L).map (Value.int .i64)
theorem areaV_snoc (L : List Bx) (x : Bx) : areaV (L ++ [x]) = areaV L ++ [.int .i64 ((x.high * x.wide : Nat) : Int)] := by simp [areaV, areaL]
theorem areaL_len (L : List Bx) : (areaL L).length = L.length := by simp [areaL]

theorem heldB_not_row {W : World} {B : Nat} {t e : TypeId} {cs : Array Value} (h : HeldB W B t cs) (hte : t ≠ e) {base size k : Nat} {v : Value} {xs : List Value} (hr : W.ownsRow base e size v k xs) : some B ≠ v.ownBlock := by
  rcases hr.2 with ⟨rfl, _⟩ | ⟨g, cap, cur, rfl, _, hgb, _⟩
  · simp [Value.ownBlock]
  · intro e'
    obtain rfl : B = g := by simpa [Value.ownBlock] using e'
    have := (show W.heap[B]? = _ from h).symm.trans hgb
    simp at this
    exact hte this.2

set_option maxRecDepth 100000 in
set_option maxHeartbeats 4000000 in
theorem areas_in (n : Nat) (hn : 6 ≤ n) (h wd r : Nat) (g : Nat → Nat → Nat) (hh : h ≤ 6) (hw : wd ≤ 6) (hr9 : r ≤ 9) (ao : Option Addr) (cap : Nat) (p : List ByteArray) (w : World) (hl : p.length ≤ 1048576) (hs : ∀ s ∈ p, s.size ≤ 1048576) (hc : CellsAt w ao (p.map Value.string)) (hr : readOk p = true) (hC : readC p = planC h wd r g) :
    CallsIn Fence.wide n Try.prog 31 #[.slice ao p.length cap] w fun e W' => NumsRet w.heap.size (areaL (scanB h wd g (h * wd))) true e W' ∧ Below w.heap.size w W' := by
  have hF : ∀ k, Fence.wide.fn k := fun _ => trivial
  have hn1 : 1 ≤ n := by omega
  have HRD := Lib.hid (by have := readPlan_any ao cap p w hl hs hc; rw [hr, hC] at this; exact this)
  have H2 := Lib.hid (planC_2 h wd r g)
  have HCS := Lib.hid (planC_size h wd r g)
  have HONE := Lib.hid (planC_one h wd r g)
  have HST := Lib.hid (fun (b : Nat) (w : World) (hp : w.heap[b]? = some (.cells (planC h wd r g) 62 (0, 0))) => boxes_stops (n - 1) (by omega) b h wd r g hh hw w hp)
  clear hC hr hc
  generalize planC h wd r g = C at *
  have hsz : (Try.prog.info? 62).map (·.size) = some C.size := by rw [HCS.out]; kernel_rfl
  have HSZ := Lib.hid hsz; clear hsz
  obtain ⟨it, hti, htz, ht1, ht2⟩ := info_parts Try.infoNum
  refine callsIn_of_wp_marks Try.func31 rfl trivial ?_ rfl
  simp only [Try.ntmps31, List.size_toArray, List.length_cons, List.length_nil, Nat.reduceAdd, Nat.reduceSub, Array.replicate_succ, Array.replicate_zero, List.push_toArray, List.append_toArray, List.nil_append, List.cons_append]
  gi_wp2_with fail
  refine (callsIn_wide.2 HRD.out).mono ?_
  rintro e w1 ⟨rfl, hb1⟩
  have hG : (w1.alloc (.cells C 62)).heap[w1.heap.size]? = some (.cells C 62 (0, 0)) := HeldB.new w1 62 C
  have c2 : (w1.alloc (.cells C 62)).cell? ⟨w1.heap.size, 2, none⟩ = some (.int .i64 r) := ((HeldB.new w1 62 C).cell 2).trans H2.out
  have hrn : it.bytes * r ≤ 281474976710656 := by rw [ht2]; omega
  have hrm : r ≤ maxLen := by unfold maxLen; omega
  gi_wp2_with (first
    | (refine wpListIn_alloc_zero rfl 62 rfl zeroC zero_plan ?_)
    | (refine wpListIn_store_new rfl 62 _ _ rfl w1 zeroC C rfl rfl rfl HSZ.out (by rw [HCS.out]; rfl) HONE.out ?_)
    | (refine wpListIn_make_own _ rfl _ _ 32 rfl (w1.heap.size + 1) 3 it (.int .i64 0) 1 Try.underlying32 hti htz ht1 .i64 .i64 _ r rfl rfl rfl hrn hrm (by simp) ?_; intro w2 hown hgrow; have hb2 := below_of_grownBy (B := w1.heap.size + 1) hgrow (by simp) (by simp); have hP2 : (w2.alloc (.cells #[.slice (some ⟨w1.heap.size + 1, 0, none⟩) 0 r] 32)).heap[w1.heap.size]? = some (.cells C 62 (0, 0)) := HeldB.alloc ((HeldB.new w1 62 C).kept hgrow (by simp)) _)
    | (refine wpListIn_load_row rfl 62 _ rfl w1.heap.size rfl 62 C (0, 0) _ hP2 Try.underlying62 rfl HSZ.out ?_)
    | (gi_at_call 93; refine (boxes_in _ C _).mono ?_; rintro e w' ⟨rfl, rfl⟩))
  have hs1 := hb1.size
  have hs2 := hb2.size
  rw [World.size_alloc] at hs2
  have bG := HeldB.new (w2.alloc (.cells #[.slice (some ⟨w1.heap.size + 1, 0, none⟩) 0 r] 32)) 62 C
  rw [World.size_alloc] at bG
  have bT := (HeldB.new w2 32 #[.slice (some ⟨w1.heap.size + 1, 0, none⟩) 0 r]).alloc (.cells C 62)
  have hown0 := (hown.alloc (.cells #[.slice (some ⟨w1.heap.size + 1, 0, none⟩) 0 r] 32)).alloc (.cells C 62)
  have hB0 : Below w.heap.size w ((w2.alloc (.cells #[.slice (some ⟨w1.heap.size + 1, 0, none⟩) 0 r] 32)).alloc (.cells C 62)) :=
    (((hb1.trans ((below_alloc w1 (.cells C 62)).mono hs1)).trans (hb2.mono (by omega))).alloc (by omega) _).alloc (by rw [World.size_alloc]; omega) _
  have hsz0 : ((w2.alloc (.cells #[.slice (some ⟨w1.heap.size + 1, 0, none⟩) 0 r] 32)).alloc (.cells C 62)).heap.size = w2.heap.size + 2 := by simp
  obtain ⟨W0, hW0⟩ : ∃ W0, (w2.alloc (.cells #[.slice (some ⟨w1.heap.size + 1, 0, none⟩) 0 r] 32)).alloc (.cells C 62) = W0 := ⟨_, rfl⟩
  rw [World.size_alloc] at hown0
  rw [hW0] at bG bT hown0 hB0 hsz0 ⊢
  clear hW0 hP2 hgrow hown hG c2 hb1 hb2
  have hw1s : w1.heap.size + 1 ≤ w2.heap.size := hs2
  refine wpIn_rangeFunc_ownH rfl hn1 (gf := 137) (lb := #[.pointer (some ⟨w2.heap.size + 1, 0, none⟩)]) rfl trivial (enters_of Try.func137 (by kernel_rfl) rfl)
    (HST.out (w2.heap.size + 1) W0 bG) (fun {A B D} (h1 : B.heap[w2.heap.size + 1]? = A.heap[w2.heap.size + 1]?) (h2 : D.heap[w2.heap.size + 1]? = B.heap[w2.heap.size + 1]?) => h2.trans h1)
    (fun W l o o' hl _ _ _ => World.putObj_heap_other (by omega)) (Below.refl _ _) (fun _ => rfl)
    (fun pre W => ((∃ v, Boxed W w2.heap.size 32 v ∧ W.ownsRow (w1.heap.size + 1) 3 1 v (pre : List Bx).length (areaV pre) ∧ True) ∧ HeldB W (w2.heap.size + 1) 62 C) ∧ Below w.heap.size w W)
    (fun c pre W => (c = .ret ∧ (pre : List Bx).length < 0) ∧ Below w.heap.size w W)
    (OwnFrom.and (OwnFrom.and (Own.from (holdsRow_own (w1.heap.size + 1) w2.heap.size 32 3 1 (fun pre : List Bx => pre.length) areaV (fun _ _ => True)) _) (Own.from (heldB_own _ _ (fun _ => C)) _)) (ownFrom_below (Nat.le_refl _) (by omega)))
    (fun c => OwnFrom.and (ownFrom_pure _ (fun pre => c = .ret ∧ (pre : List Bx).length < 0)) (ownFrom_below (Nat.le_refl _) (by omega)))
    ⟨⟨⟨_, bT, hown0, trivial⟩, bG⟩, hB0⟩
    (fun x a' W => ∃ B, w2.heap.size + 1 < B ∧ HeldB W B 80 #[.int .i64 x.row, .int .i64 x.col, .int .i64 x.high, .int .i64 x.wide] ∧ a' = { tmps := #[.slice ao p.length cap, undef, .slice none 0 0, .bool false, .pointer (some ⟨w1.heap.size, 0, none⟩), .bool true, .pointer (some ⟨w2.heap.size, 0, none⟩), undef, .pointer (some ⟨B, 0, none⟩), .tuple #[.agg C, .bool true], .slice ao p.length cap, .tuple #[.agg C, .bool true], .agg C, .bool true, .bool true, .bool false, .pointer (some ⟨w1.heap.size, 2, none⟩), .int .i64 r, .slice (some ⟨w1.heap.size + 1, 0, none⟩) 0 r, .agg C, .func (.func 137) #[] #[.pointer (some ⟨w2.heap.size + 1, 0, none⟩)], .int .i64 x.room, .agg #[.int .i64 x.row, .int .i64 x.col, .int .i64 x.high, .int .i64 x.wide], undef, undef, undef, undef, undef, undef], defers := [] })
    (fun x a' _ X Y row hs hg hr => by obtain ⟨B, h1, h2, h3⟩ := hs; exact ⟨B, h1, heldB_own B 80 (fun (_ : Unit) => #[.int .i64 x.row, .int .i64 x.col, .int .i64 x.high, .int .i64 x.wide]) () X Y row h2 hg (fun r e => (hr r e).2), h3⟩)
    ?assign ?body ?done ?stop
  case assign =>
    rintro l pre x W K ⟨⟨⟨v, bT1, hown1, _⟩, bG1⟩, hB1⟩ hK
    simp only [encB]
    gi_wp2
    exact hK _ _ ((KeepsOthers.alloc _ _).from _) (Below.heap_alloc W _ _ bG1.lt) ⟨⟨⟨v, bT1.alloc _, hown1.alloc _, trivial⟩, bG1.alloc _⟩, hB1.alloc hB1.size _⟩ ⟨W.heap.size, bG1.lt, HeldB.new W _ _, rfl⟩
  case body =>
    rintro l pre x a' W hl ⟨rl, hr⟩ ⟨⟨⟨v, bT1, hown1, _⟩, bG1⟩, hB1⟩ ⟨B, hBB, bX, rfl⟩ hlt
    have h1' : 1 ≤ n - 1 - 1 := by omega
    have cX0 : W.cell? ⟨B, 0, none⟩ = some (.int .i64 x.row) := bX.cell 0
    have cX1 : W.cell? ⟨B, 1, none⟩ = some (.int .i64 x.col) := bX.cell 1
    have cX2 : W.cell? ⟨B, 2, none⟩ = some (.int .i64 x.high) := bX.cell 2
    have cX3 : W.cell? ⟨B, 3, none⟩ = some (.int .i64 x.wide) := bX.cell 3
    obtain ⟨so, sc, rfl, _, _⟩ := ownsRow_cells hown1
    have cT := bT1.cell
    have fT := bT1.frozen
    gi_wp2
    refine wpIn_region_any (by kernel_rfl) ?_
    change wpAnyIn _ _ _ _ _ _ _ _ _ (World.drew _)
    have hb1' : pre.length + 1 ≤ maxLen := by unfold maxLen; omega
    have hb2' : (pre.length + 1) * 8 ≤ 140737488355328 := by omega
    refine wpAnyIn_ready (rs := [0, 1]) (by kernel_rfl) (by simp) ?_
    refine AllReadyIn.cons rfl (fun K hK => ?_) (AllReadyIn.cons rfl (fun K hK => ?_) AllReadyIn.nil)
    · go_simp
      refine hK _ _ ?_
      clear hK K
      refine wpAnyIn_ready (rs := [1]) (by kernel_rfl) (by simp) ?_
      refine AllReadyIn.cons rfl (fun K hK => ?_) AllReadyIn.nil
      go_simp
      refine hK _ _ ?_
      clear hK K
      refine wpAnyIn_ready (rs := [2]) (by kernel_rfl) (by simp) ?_
      refine AllReadyIn.cons rfl (fun K hK => ?_) AllReadyIn.nil
      go_simp
      gi_wp2_with fail
      refine (CallsIn.inRound l (callsIn_wide.2 (area_any _ _ _ _ _ (by have := x.hrow; omega) (by have := x.hcol; omega)))).mono ?_
      rintro e w3 ⟨rfl, hb3⟩
      have hb4 : Below W.heap.size W w3 := ⟨hb3.os, hb3.tape, hb3.output, hb3.size, hb3.block⟩
      have cT3 : w3.cell? ⟨w2.heap.size, 0, none⟩ = some (.slice so pre.length sc) := cell_below cT hb4
      have cT4 := fun o => cell_below cT3 (below_alloc w3 o)
      go_simp
      refine hK _ _ ?_
      clear hK K hb3
      refine wpAnyIn_ready (rs := [3]) (by kernel_rfl) (by simp) ?_
      refine AllReadyIn.cons rfl (fun K hK => ?_) AllReadyIn.nil
      go_simp
      refine hK _ _ ?_
      clear hK K
      refine wpAnyIn_ready (rs := [4]) (by kernel_rfl) (by simp) ?_
      refine AllReadyIn.cons rfl (fun K hK => ?_) AllReadyIn.nil
      rw [if_pos (by rfl)]
      refine wpIn_push (.tmp 23) (.tmp 26) 32 (by rfl) (w1.heap.size + 1) 3 it (.int .i64 0) 8 Try.underlying32 hti htz ht1 ht2 rfl so pre.length sc _ (by rfl) ((ownsRow_below hown1 hb4).alloc _) _ w3.heap.size 1 (by rfl) (cell_new _ _ _) rfl hb1' hb2' (by have := hb4.size; have := bT1.lt; simp; omega) ?_
      intro so2 sc2 w4 hown4 hg4 hnew4
      refine hK _ _ ?_
      clear hK K
      obtain ⟨y1, y2, y3, y4, y5⟩ := Boxed.appended (W := w3) (n₀ := w1.heap.size + 1) (Boxed.kept bT1 (grownBy_of_below hb4 none) (by simp)) (by decide) (ownsRow_below hown1 hb4) (by have := hb4.size; have := bT1.lt; omega) (by omega) hown4 hg4
      have d1 := y1.cell
      have d2 := y1.frozen
      refine wpAnyIn_ready (rs := [5]) (by kernel_rfl) (by simp) ?_
      refine AllReadyIn.cons rfl (fun K hK => ?_) AllReadyIn.nil
      go_simp
      refine hK _ _ ?_
      clear hK K
      refine wpAnyIn_done (by kernel_rfl) ?_ _
      gi_wp2
      have bG4 := (((bG1.below hb4).alloc (.cells #[.int .i64 ((x.high : Int) * (x.wide : Int))] 3)).kept hg4 (heldB_not_row ((bG1.below hb4).alloc (.cells #[.int .i64 ((x.high : Int) * (x.wide : Int))] 3)) (by decide) ((ownsRow_below hown1 hb4).alloc _))).other (a := ⟨w2.heap.size, 0, none⟩) (by simp) (.slice so2 (pre.length + 1) sc2)
      exact ⟨((keeps_below hb4).trans y4).from _, bG4.trans (Eq.symm bG1), ⟨⟨⟨_, y2, by rw [List.length_append, areaV_snoc, Int.natCast_mul]; exact y3, trivial⟩, bG4⟩, (below_step hB1 hB1.size hb4).trans (y5.mono (by omega))⟩⟩
    · go_simp
      refine hK _ _ ?_
      clear hK K
      refine wpAnyIn_ready (rs := [0, 2]) (by kernel_rfl) (by simp) ?_
      refine AllReadyIn.cons rfl (fun K hK => ?_) (AllReadyIn.cons rfl (fun K hK => ?_) AllReadyIn.nil)
      · go_simp
        refine hK _ _ ?_
        clear hK K
        refine wpAnyIn_ready (rs := [2]) (by kernel_rfl) (by simp) ?_
        refine AllReadyIn.cons rfl (fun K hK => ?_) AllReadyIn.nil
        go_simp
        gi_wp2_with fail
        refine (CallsIn.inRound l (callsIn_wide.2 (area_any _ _ _ _ _ (by have := x.hrow; omega) (by have := x.hcol; omega)))).mono ?_
        rintro e w3 ⟨rfl, hb3⟩
        have hb4 : Below W.heap.size W w3 := ⟨hb3.os, hb3.tape, hb3.output, hb3.size, hb3.block⟩
        have cT3 : w3.cell? ⟨w2.heap.size, 0, none⟩ = some (.slice so pre.length sc) := cell_below cT hb4
        have cT4 := fun o => cell_below cT3 (below_alloc w3 o)
        go_simp
        refine hK _ _ ?_
        clear hK K hb3
        refine wpAnyIn_ready (rs := [3]) (by kernel_rfl) (by simp) ?_
        refine AllReadyIn.cons rfl (fun K hK => ?_) AllReadyIn.nil
        go_simp
        refine hK _ _ ?_
        clear hK K
        refine wpAnyIn_ready (rs := [4]) (by kernel_rfl) (by simp) ?_
        refine AllReadyIn.cons rfl (fun K hK => ?_) AllReadyIn.nil
        rw [if_pos (by rfl)]
        refine wpIn_push (.tmp 23) (.tmp 26) 32 (by rfl) (w1.heap.size + 1) 3 it (.int .i64 0) 8 Try.underlying32 hti htz ht1 ht2 rfl so pre.length sc _ (by rfl) ((ownsRow_below hown1 hb4).alloc _) _ w3.heap.size 1 (by rfl) (cell_new _ _ _) rfl hb1' hb2' (by have := hb4.size; have := bT1.lt; simp; omega) ?_
        intro so2 sc2 w4 hown4 hg4 hnew4
        refine hK _ _ ?_
        clear hK K
        obtain ⟨y1, y2, y3, y4, y5⟩ := Boxed.appended (W := w3) (n₀ := w1.heap.size + 1) (Boxed.kept bT1 (grownBy_of_below hb4 none) (by simp)) (by decide) (ownsRow_below hown1 hb4) (by have := hb4.size; have := bT1.lt; omega) (by omega) hown4 hg4
        have d1 := y1.cell
        have d2 := y1.frozen
        refine wpAnyIn_ready (rs := [5]) (by kernel_rfl) (by simp) ?_
        refine AllReadyIn.cons rfl (fun K hK => ?_) AllReadyIn.nil
        go_simp
        refine hK _ _ ?_
        clear hK K
        refine wpAnyIn_done (by kernel_rfl) ?_ _
        gi_wp2
        have bG4 := (((bG1.below hb4).alloc (.cells #[.int .i64 ((x.high : Int) * (x.wide : Int))] 3)).kept hg4 (heldB_not_row ((bG1.below hb4).alloc (.cells #[.int .i64 ((x.high : Int) * (x.wide : Int))] 3)) (by decide) ((ownsRow_below hown1 hb4).alloc _))).other (a := ⟨w2.heap.size, 0, none⟩) (by simp) (.slice so2 (pre.length + 1) sc2)
        exact ⟨((keeps_below hb4).trans y4).from _, bG4.trans (Eq.symm bG1), ⟨⟨⟨_, y2, by rw [List.length_append, areaV_snoc, Int.natCast_mul]; exact y3, trivial⟩, bG4⟩, (below_step hB1 hB1.size hb4).trans (y5.mono (by omega))⟩⟩
      · go_simp
        gi_wp2_with fail
        refine (CallsIn.inRound l (callsIn_wide.2 (area_any _ _ _ _ _ (by have := x.hrow; omega) (by have := x.hcol; omega)))).mono ?_
        rintro e w3 ⟨rfl, hb3⟩
        have hb4 : Below W.heap.size W w3 := ⟨hb3.os, hb3.tape, hb3.output, hb3.size, hb3.block⟩
        have cT3 : w3.cell? ⟨w2.heap.size, 0, none⟩ = some (.slice so pre.length sc) := cell_below cT hb4
        have cT4 := fun o => cell_below cT3 (below_alloc w3 o)
        go_simp
        refine hK _ _ ?_
        clear hK K hb3
        refine wpAnyIn_ready (rs := [0, 3]) (by kernel_rfl) (by simp) ?_
        refine AllReadyIn.cons rfl (fun K hK => ?_) (AllReadyIn.cons rfl (fun K hK => ?_) AllReadyIn.nil)
        · go_simp
          refine hK _ _ ?_
          clear hK K
          refine wpAnyIn_ready (rs := [3]) (by kernel_rfl) (by simp) ?_
          refine AllReadyIn.cons rfl (fun K hK => ?_) AllReadyIn.nil
          go_simp
          refine hK _ _ ?_
          clear hK K
          refine wpAnyIn_ready (rs := [4]) (by kernel_rfl) (by simp) ?_
          refine AllReadyIn.cons rfl (fun K hK => ?_) AllReadyIn.nil
          rw [if_pos (by rfl)]
          refine wpIn_push (.tmp 23) (.tmp 26) 32 (by rfl) (w1.heap.size + 1) 3 it (.int .i64 0) 8 Try.underlying32 hti htz ht1 ht2 rfl so pre.length sc _ (by rfl) ((ownsRow_below hown1 hb4).alloc _) _ w3.heap.size 1 (by rfl) (cell_new _ _ _) rfl hb1' hb2' (by have := hb4.size; have := bT1.lt; simp; omega) ?_
          intro so2 sc2 w4 hown4 hg4 hnew4
          refine hK _ _ ?_
          clear hK K
          obtain ⟨y1, y2, y3, y4, y5⟩ := Boxed.appended (W := w3) (n₀ := w1.heap.size + 1) (Boxed.kept bT1 (grownBy_of_below hb4 none) (by simp)) (by decide) (ownsRow_below hown1 hb4) (by have := hb4.size; have := bT1.lt; omega) (by omega) hown4 hg4
          have d1 := y1.cell
          have d2 := y1.frozen
          refine wpAnyIn_ready (rs := [5]) (by kernel_rfl) (by simp) ?_
          refine AllReadyIn.cons rfl (fun K hK => ?_) AllReadyIn.nil
          go_simp
          refine hK _ _ ?_
          clear hK K
          refine wpAnyIn_done (by kernel_rfl) ?_ _
          gi_wp2
          have bG4 := (((bG1.below hb4).alloc (.cells #[.int .i64 ((x.high : Int) * (x.wide : Int))] 3)).kept hg4 (heldB_not_row ((bG1.below hb4).alloc (.cells #[.int .i64 ((x.high : Int) * (x.wide : Int))] 3)) (by decide) ((ownsRow_below hown1 hb4).alloc _))).other (a := ⟨w2.heap.size, 0, none⟩) (by simp) (.slice so2 (pre.length + 1) sc2)
          exact ⟨((keeps_below hb4).trans y4).from _, bG4.trans (Eq.symm bG1), ⟨⟨⟨_, y2, by rw [List.length_append, areaV_snoc, Int.natCast_mul]; exact y3, trivial⟩, bG4⟩, (below_step hB1 hB1.size hb4).trans (y5.mono (by omega))⟩⟩
        · go_simp
          refine hK _ _ ?_
          clear hK K
          refine wpAnyIn_ready (rs := [0]) (by kernel_rfl) (by simp) ?_
          refine AllReadyIn.cons rfl (fun K hK => ?_) AllReadyIn.nil
          go_simp
          refine hK _ _ ?_
          clear hK K
          refine wpAnyIn_ready (rs := [4]) (by kernel_rfl) (by simp) ?_
          refine AllReadyIn.cons rfl (fun K hK => ?_) AllReadyIn.nil
          rw [if_pos (by rfl)]
          refine wpIn_push (.tmp 23) (.tmp 26) 32 (by rfl) (w1.heap.size + 1) 3 it (.int .i64 0) 8 Try.underlying32 hti htz ht1 ht2 rfl so pre.length sc _ (by rfl) ((ownsRow_below hown1 hb4).alloc _) _ w3.heap.size 1 (by rfl) (cell_new _ _ _) rfl hb1' hb2' (by have := hb4.size; have := bT1.lt; simp; omega) ?_
          intro so2 sc2 w4 hown4 hg4 hnew4
          refine hK _ _ ?_
          clear hK K
          obtain ⟨y1, y2, y3, y4, y5⟩ := Boxed.appended (W := w3) (n₀ := w1.heap.size + 1) (Boxed.kept bT1 (grownBy_of_below hb4 none) (by simp)) (by decide) (ownsRow_below hown1 hb4) (by have := hb4.size; have := bT1.lt; omega) (by omega) hown4 hg4
          have d1 := y1.cell
          have d2 := y1.frozen
          refine wpAnyIn_ready (rs := [5]) (by kernel_rfl) (by simp) ?_
          refine AllReadyIn.cons rfl (fun K hK => ?_) AllReadyIn.nil
          go_simp
          refine hK _ _ ?_
          clear hK K
          refine wpAnyIn_done (by kernel_rfl) ?_ _
          gi_wp2
          have bG4 := (((bG1.below hb4).alloc (.cells #[.int .i64 ((x.high : Int) * (x.wide : Int))] 3)).kept hg4 (heldB_not_row ((bG1.below hb4).alloc (.cells #[.int .i64 ((x.high : Int) * (x.wide : Int))] 3)) (by decide) ((ownsRow_below hown1 hb4).alloc _))).other (a := ⟨w2.heap.size, 0, none⟩) (by simp) (.slice so2 (pre.length + 1) sc2)
          exact ⟨((keeps_below hb4).trans y4).from _, bG4.trans (Eq.symm bG1), ⟨⟨⟨_, y2, by rw [List.length_append, areaV_snoc, Int.natCast_mul]; exact y3, trivial⟩, bG4⟩, (below_step hB1 hB1.size hb4).trans (y5.mono (by omega))⟩⟩
  case done =>
    rintro D ys W hD rfl ⟨⟨⟨v, bT1, hown1, _⟩, bG1⟩, hB1⟩ hK
    obtain ⟨so, sc, rfl, _, _⟩ := ownsRow_cells hown1
    have cT := bT1.cell
    have HLN := Lib.hid (areaL_len (scanB h wd g (h * wd)))
    have hown2 := ownsRow_putObj hown1 (.deferred none) hK rfl
    gi_wp2
    refine ⟨by simp, .inl ⟨_, _, rfl, run_takeDeferred hK, ?_⟩⟩
    refine ⟨.tuple #[.slice so (scanB h wd g (h * wd)).length sc, .bool true], ?_, ⟨so, sc, by rw [HLN.out], ?_⟩, hB1.trans (belowK_b (w := w) (Nat.le_refl _) W D _ _ (by omega) hK rfl rfl)⟩
    · simp [results, Try.f31, go_sem]
    · rw [HLN.out]; exact ownsRow_base hown2 (by omega)
  case stop =>
    rintro D c pre W hD ⟨t, ht, rfl⟩ ⟨⟨rfl, hf⟩, hB1⟩ hK
    exact absurd hf (Nat.not_lt_zero _)

end Go.Proofs.Ytdhnklaflbaeeaa

/-
  The numbers of cells of rooms: the program's answer is the model's. (Walk inside a fence.)
-/
namespace Go.Proofs.Ytdhnklaflbaeeaa
open Go.RowKit Go.Shelf

attribute [local go_sem] Oper.semAt_some

theorem areas_math {p : List ByteArray} (h : planB p = true) : areasOr p = areaL (scanB p.length (wideB p) (gridG p) (p.length * wideB p)) := by
  have hp := planP_of h
  obtain ⟨hlen, hbox⟩ := hp.boxes
  rw [areasOr_yes h, hp.rooms, Int.toNat_natCast]
  generalize scanB p.length (wideB p) (gridG p) (p.length * wideB p) = L at *
  apply List.ext_getElem
  · rw [areasL_len, areaL_len, hlen]
  · intro r h1 h2
    rw [areasL_len] at h1
    rw [areaL_len] at h2
    obtain ⟨x, hL, hx⟩ := hbox r h1
    have he : L[r] = x := by rw [List.getElem?_eq_getElem h2] at hL; exact Option.some.inj hL
    have e1 : (areasL p (gridR p))[r]'(by rw [areasL_len]; exact h1) = cellsB p (r : Int) := by simp [areasL]
    have e2 : (areaL L)[r]'(by rw [areaL_len]; exact h2) = ((L[r].high * L[r].wide : Nat) : Int) := by simp [areaL]
    rw [e1, e2, he]
    exact cellsB_box hp hx

set_option maxHeartbeats 800000 in
theorem areas_no (n : Nat) (hn : 6 ≤ n) (ao : Option Addr) (cap : Nat) (p : List ByteArray) (w : World) (hl : p.length ≤ 1048576) (hs : ∀ s ∈ p, s.size ≤ 1048576) (hc : CellsAt w ao (p.map Value.string)) (hr : readOk p = false) :
    CallsIn Fence.wide n Try.prog 31 #[.slice ao p.length cap] w fun e W' => NumsRet w.heap.size [] false e W' ∧ Below w.heap.size w W' := by
  have hF : ∀ k, Fence.wide.fn k := fun _ => trivial
  have hn1 : 1 ≤ n := by omega
  have HRD := Lib.hid (by have := readPlan_any ao cap p w hl hs hc; rw [hr] at this; exact this)
  have HCS := Lib.hid (readC_39 p)
  have HONE := Lib.hid (readC_one p)
  have HSZ := Lib.hid (readC_size p)
  clear hr hc
  generalize readC p = C at *
  refine callsIn_of_wp_marks Try.func31 rfl trivial ?_ rfl
  simp only [Try.ntmps31, List.size_toArray, List.length_cons, List.length_nil, Nat.reduceAdd, Nat.reduceSub, Array.replicate_succ, Array.replicate_zero, List.push_toArray, List.append_toArray, List.nil_append, List.cons_append]
  gi_wp2_with fail
  refine (callsIn_wide.2 HRD.out).mono ?_
  rintro e w1 ⟨rfl, hb1⟩
  gi_wp2_with (first
    | (refine wpListIn_alloc_zero rfl 62 rfl zeroC zero_plan ?_)
    | (refine wpListIn_store_new rfl 62 _ _ rfl w1 zeroC C rfl rfl rfl HSZ.out (by rw [HCS.out]; rfl) HONE.out ?_))
  refine ⟨.tuple #[.slice none 0 0, .bool false], ?_, ⟨none, 0, rfl, ⟨rfl, .inl ⟨rfl, rfl⟩⟩⟩, hb1.trans ((below_alloc w1 _).mono hb1.size)⟩
  simp [results, Try.f31, go_sem]

theorem implAreas_any (ao : Option Addr) (cap : Nat) (p : List ByteArray) (w : World) (hl : p.length ≤ 1048576) (hs : ∀ s ∈ p, s.size ≤ 1048576) (hc : CellsAt w ao (p.map Value.string)) :
    Calls Try.prog 31 #[.slice ao p.length cap] w fun e w' => NumsRet w.heap.size (areasOr p) (planB p) e w' ∧ Below w.heap.size w w' := by
  cases hp : planB p
  · rw [areasOr_no hp]
    exact callsIn_wide.1 (areas_no 6 (Nat.le_refl _) ao cap p w hl hs hc (by rw [readOk_eq]; exact hp))
  · rw [areas_math hp]
    have hr : readOk p = true := by rw [readOk_eq]; exact hp
    have hd := nameDraw_dims (ok_of_read hr)
    exact callsIn_wide.1 (areas_in 6 (Nat.le_refl _) p.length (wideB p) (gridR p) (gridG p) hd.2.1.2 hd.2.2.1.2 hd.2.2.2.1 ao cap p w hl hs hc hr (readC_ok hr))

theorem areas_few (p : List ByteArray) : (areasOr p).length ≤ 1048576 := by
  cases hp : planB p
  · rw [areasOr_no hp]; exact Nat.zero_le _
  · rw [areas_math hp, areaL_len]
    have := scanB_len p.length (wideB p) (gridG p) (p.length * wideB p)
    have hg := (planP_of hp).grid
    have := Nat.mul_le_mul hg.h6 hg.w6
    omega

end Go.Proofs.Ytdhnklaflbaeeaa

/-
  Areas fill the plan; a list of numbers is added up. (Mathematics and a walk.)
-/
namespace Go.Proofs.Ytdhnklaflbaeeaa
open Go.RowKit

theorem sum_range (f : Nat → Nat) : ∀ n, ((List.range n).map fun r => ((f r : Nat) : Int)).sum = ((sumN n f : Nat) : Int)
  | 0 => rfl
  | n + 1 => by rw [List.range_succ, List.map_append, List.sum_append, sum_range f n]; simp [sumN]
theorem cnt_total {h wd R : Nat} {m : Nat → Nat → Nat} (hm : ∀ i j, i < h → j < wd → m i j < R) : sumN R (fun r => cntG h wd (fun i j => m i j == r)) = h * wd := by
  unfold cntG
  rw [sumN_comm]
  rw [sumN_congr (g := fun _ => wd) fun i hi => ?_, sumN_const]
  rw [sumN_comm]
  rw [sumN_congr (g := fun _ => 1) fun j hj => ?_, sumN_const, Nat.mul_one]
  refine (sumN_congr fun r _ => ?_).trans (sumN_pick R (m i j) (hm i j hi hj))
  by_cases he : m i j = r
  · rw [if_pos he, if_pos (by simp [he])]
  · rw [if_neg he, if_neg (by simp [he])]
theorem areas_cnt {p : List ByteArray} (h : planB p = true) : areasOr p = (List.range (gridR p)).map fun r => ((cntG p.length (wideB p) (fun i j => markN p i j == r) : Nat) : Int) := by
  have hP := planP_of h
  rw [areasOr_yes h, hP.rooms, Int.toNat_natCast]
  unfold areasL
  exact List.map_congr_left fun r _ => cellsB_eq hP.grid r
theorem areas_sum {p : List ByteArray} (h : planB p = true) : (areasOr p).sum = ((p.length * wideB p : Nat) : Int) := by
  rw [areas_cnt h, sum_range, cnt_total fun i j hi hj => (planP_of h).lt hi hj]
theorem areas_len {p : List ByteArray} (h : planB p = true) : ((areasOr p).length : Int) = roomsOr p ∧ 1 ≤ roomsOr p ∧ (areasOr p).length ≤ 9 := by
  have hP := planP_of h
  have h1 := hP.grid.h1; have w1 := hP.grid.w1
  have := gridG_lt (p := p) (i := 0) (j := 0) (by omega) (by omega)
  have := hP.few
  rw [roomsOr_yes h, areasOr_yes h, areasL_len, hP.rooms, Int.toNat_natCast]
  omega
theorem areas_bound {p : List ByteArray} (h : planB p = true) : ∀ x ∈ areasOr p, 1 ≤ x ∧ x ≤ 36 := fun x hx => by
  have hP := planP_of h
  have := hP.grid.h6; have := hP.grid.w6
  rw [areas_math h] at hx
  obtain ⟨hlen, hbox⟩ := hP.boxes
  unfold areaL at hx
  rw [List.mem_map] at hx
  obtain ⟨b, hb, rfl⟩ := hx
  obtain ⟨k, hk, rfl⟩ := List.mem_iff_getElem.1 hb
  obtain ⟨y, hy, hbx⟩ := hbox k (by omega)
  rw [List.getElem?_eq_getElem hk] at hy
  obtain rfl := Option.some.inj hy
  obtain ⟨_, a1, a2, a3, a4, _⟩ := hbx
  have e1 : 1 * 1 ≤ _ * _ := Nat.mul_le_mul a1 a2
  have e2 : _ * _ ≤ 6 * 6 := Nat.mul_le_mul (show ((scanB p.length (wideB p) (gridG p) (p.length * wideB p))[k]).high ≤ 6 by omega) (show ((scanB p.length (wideB p) (gridG p) (p.length * wideB p))[k]).wide ≤ 6 by omega)
  omega

theorem sum_take {l : List Int} {i : Nat} (hi : i < l.length) : (l.take (i + 1)).sum = (l.take i).sum + l.getD i 0 := by
  rw [take_succ_getD l i 0 hi, List.sum_append]; simp
theorem sum_bound {l : List Int} (hl : ∀ x ∈ l, 0 ≤ x ∧ x ≤ 100) : ∀ i, 0 ≤ (l.take i).sum ∧ (l.take i).sum ≤ 100 * (i : Int)
  | 0 => by simp
  | i + 1 => by
    have ih := sum_bound hl i
    by_cases hi : i < l.length
    · have := hl _ (getD_mem 0 hi)
      rw [sum_take hi]; omega
    · rw [List.take_of_length_le (show l.length ≤ i + 1 by omega)]
      rw [List.take_of_length_le (show l.length ≤ i by omega)] at ih
      omega

set_option maxRecDepth 100000 in
theorem total_any (ao : Option Addr) (cap : Nat) (l : List Int) (w : World) (hl : l.length ≤ 1000) (hb : ∀ x ∈ l, 0 ≤ x ∧ x ≤ 100) (hc : CellsAt w ao (l.map (Value.int .i64))) :
    Calls Try.prog 32 #[.slice ao l.length cap] w fun e w' => e = .returned (.int .i64 l.sum) ∧ w' = w := by
  have HB := Lib.hid (sum_bound hb)
  have HE := Lib.hid hb
  clear hb
  go_enter Try.func32, Try.ntmps32
  go_wp2
  go_loopw [3, 4] (fun vn vi wr => ∃ i : Nat, i ≤ l.length ∧ vi = .int .i64 i ∧ vn = .int .i64 (l.take i).sum ∧ wr = w) (fun _ vi _ => l.length - (intOf vi).toNat)
  case atStart => exact ⟨0, Nat.zero_le _, rfl, rfl, rfl⟩
  case round =>
    obtain ⟨i, hi, rfl, rfl, rfl⟩ := hrel
    obtain ⟨b1, b2⟩ := HB.out i
    by_cases hlt : i < l.length
    · have hlt' : decide ((i : Int) < (l.length : Int)) = true := by rw [decide_eq_true_eq]; omega
      obtain ⟨b, o, rfl, hcell⟩ := hc.int i hlt
      have HS := Lib.hid (sum_take hlt)
      have hx := HE.out _ (getD_mem 0 hlt)
      generalize l.getD i 0 = x at *
      generalize (l.take i).sum = s at *
      go_wp2
      go_roundw
      case rel => exact ⟨i + 1, by omega, by go_num, by rw [HS.out], trivial⟩
      case measure => simp [intOf]; omega
    · obtain rfl : i = l.length := by omega
      have hlt' : decide ((l.length : Int) < (l.length : Int)) = false := by rw [decide_eq_false_iff_not]; omega
      rw [List.take_length] at *
      go_wp2
      go_ret
      exact ⟨rfl, rfl⟩

end Go.Proofs.Ytdhnklaflbaeeaa
