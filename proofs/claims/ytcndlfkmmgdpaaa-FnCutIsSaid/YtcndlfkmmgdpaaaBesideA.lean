
/-
  Merged texts: LaterA ImplO UnderA BesideA.
-/
import Derived.Test.YtcndlfkmmgdpaaaTurns
import Derived.Test.YtcndlfkmmgdpaaaImplW
import Derived.Test.YtcndlfkmmgdpaaaBytes
import Derived.Test.YtcndlfkmmgdpaaaWideA
import Derived.Deep.RegionHeld3
import Derived.Deep.AppendLies

/-
  The model calls rooms by letters further on. (Walk.)
-/
namespace Go.Proofs.Ytcndlfkmmgdpaaa
open Go.RowKit

/-- texts whose rooms are called by letters nine further on -/
def laterB (p : List ByteArray) : List ByteArray := rowsT p.length (wideB p) (fun i j => 9 + markN p i j)

end Go.Proofs.Ytcndlfkmmgdpaaa

/-
  The program puts two plans together. (Walks.)
-/
namespace Go.Proofs.Ytcndlfkmmgdpaaa
open Go.RowKit

/-- marks of two plans beside each other -/
def besM (wd : Nat) (g g' : Nat → Nat → Nat) (i j : Nat) : Nat := if j < wd then g i j else 9 + g' i (j - wd)
/-- marks of two plans below each other -/
def undM (h : Nat) (g g' : Nat → Nat → Nat) (i j : Nat) : Nat := if i < h then g i j else 9 + g' (i - h) j

set_option maxHeartbeats 400000 in
theorem besMark_any (B K h wd r h' wd' r' : Nat) (g g' : Nat → Nat → Nat) (w : World) (hB : HeldB w B 48 (planC h wd r g)) (hK : HeldB w K 48 (planC h' wd' r' g')) (hh : h ≤ 6) (hw : wd ≤ 6) (hw' : wd' ≤ 6) (hg' : ∀ i j, g' i j ≤ 9) (i j : Nat) (hi : i < h) (hj : j < wd + wd') :
    Calls Try.prog 74 #[.int .i64 i, .int .i64 j, .pointer (some ⟨B, 0, none⟩), .pointer (some ⟨K, 0, none⟩)] w
      fun e w' => e = .returned (.int .i64 (besM wd g g' i j : Nat)) ∧ Below w.heap.size w w' := by
  have c1 : w.cell? ⟨B, 1, none⟩ = some (.int .i64 wd) := (hB.cell 1).trans (planC_1 _ _ _ _)
  have hi6 : i < 6 := by omega
  by_cases hx : j < wd
  · have e1 : besM wd g g' i j = g i j := if_pos hx
    rw [e1]
    have hj6 : j < 6 := by omega
    have cc : w.cell? ⟨B, 3 + i * 6 + j, none⟩ = some (.int .i64 (g i j : Nat)) := (hB.cell _).trans (planC_at _ _ _ _ i j hi6 hj6)
    clear hB hK e1
    go_enter Try.func74, Try.ntmps74
    go_wp2
    go_ret
    exact ⟨rfl, Below.refl _ _⟩
  · have e1 : besM wd g g' i j = 9 + g' i (j - wd) := if_neg hx
    rw [e1]
    obtain ⟨t, ht⟩ : ∃ t, t = j - wd := ⟨_, rfl⟩
    rw [← ht]
    have ht6 : t < 6 := by omega
    have e2 : (j : Int) - (wd : Int) = (t : Int) := by omega
    have hgt := hg' i t
    have cc : w.cell? ⟨K, 3 + i * 6 + t, none⟩ = some (.int .i64 (g' i t : Nat)) := (hK.cell _).trans (planC_at _ _ _ _ i t hi6 ht6)
    clear hB hK e1 ht
    generalize g' i t = x at *
    go_enter Try.func74, Try.ntmps74
    go_wp2
    go_quiet (fail)
    go_wp2
    go_ret
    exact ⟨ret_int (by omega), below_drewN _ _ _⟩

set_option maxRecDepth 100000 in
set_option maxHeartbeats 800000 in
theorem beside_any (h wd r h' wd' r' : Nat) (g g' : Nat → Nat → Nat) (w : World) (hh : h ≤ 6) (hw : wd ≤ 6) (hw' : wd' ≤ 6) (hg : ∀ i j, g i j ≤ 9) (hg' : ∀ i j, g' i j ≤ 9) :
    Calls Try.prog 42 #[.agg (planC h wd r g), .agg (planC h' wd' r' g')] w
      fun e w' => e = .returned (.tuple #[.agg (ifC (decide (h = h')) (drawC (h : Nat) (wd + wd' : Nat) (besM wd g g'))), .bool (decide (h = h') && drawOk (h : Nat) (wd + wd' : Nat) (besM wd g g'))]) ∧ Below w.heap.size w w' := by
  have hP := ((HeldB.new w 48 (planC h wd r g)).alloc (.cells (planC h' wd' r' g') 48)).alloc (.cells zeroC 48)
  have hQ := (HeldB.new (w.alloc (.cells (planC h wd r g) 48)) 48 (planC h' wd' r' g')).alloc (.cells zeroC 48)
  have hZ := HeldB.new ((w.alloc (.cells (planC h wd r g) 48)).alloc (.cells (planC h' wd' r' g') 48)) 48 zeroC
  simp only [World.size_alloc] at hQ hZ
  have hb0 : Below w.heap.size w (((w.alloc (.cells (planC h wd r g) 48)).alloc (.cells (planC h' wd' r' g') 48)).alloc (.cells zeroC 48)) := ((((Below.refl _ w).alloc (Nat.le_refl _) _).alloc (by simp) _).alloc (by simp; omega) _)
  have c0 := (hP.cell 0).trans (planC_0 _ _ _ _)
  have c1 := (hP.cell 1).trans (planC_1 _ _ _ _)
  have d0 := (hQ.cell 0).trans (planC_0 _ _ _ _)
  have d1 := (hQ.cell 1).trans (planC_1 _ _ _ _)
  by_cases he : h = h'
  · rw [decide_eq_true he, ifC_yes rfl, Bool.true_and, Int.natCast_add]
    have HD := Lib.hid (fun (W : World) (h1 : HeldB W w.heap.size 48 (planC h wd r g)) (h2 : HeldB W (w.heap.size + 1) 48 (planC h' wd' r' g')) => drawPlan_any 74 #[.pointer (some ⟨w.heap.size, 0, none⟩), .pointer (some ⟨w.heap.size + 1, 0, none⟩)] ((h : Int)) ((wd : Int) + (wd' : Int)) (besM wd g g') W Try.call74 (fun i j => by unfold besM; split <;> first | exact Nat.lt_of_le_of_lt (hg _ _) (by omega) | exact Nat.lt_of_le_of_lt (Nat.add_le_add_left (hg' _ _) 9) (by omega))
      (fun W2 hb2 i j hi hj => besMark_any w.heap.size (w.heap.size + 1) h wd r h' wd' r' g g' W2 (h1.below hb2) (h2.below hb2) hh hw hw' hg' i j (by omega) (by omega)))
    have HS := Lib.hid (drawC_size ((h : Int)) ((wd : Int) + (wd' : Int)) (besM wd g g'))
    have H39 := Lib.hid (drawC_39 ((h : Int)) ((wd : Int) + (wd' : Int)) (besM wd g g'))
    have HO := Lib.hid (drawC_one ((h : Int)) ((wd : Int) + (wd' : Int)) (besM wd g g'))
    have HP := Lib.hid hP; have HQ := Lib.hid hQ; have HZ := Lib.hid hZ
    have hne : ((h : Int) != (h' : Int)) = false := by rw [bne_eq_false_iff_eq]; omega
    have hbe : ((h : Int) == (h' : Int)) = true := beq_iff_eq.2 (by omega)
    clear hP hQ hZ he
    generalize drawC ((h : Int)) ((wd : Int) + (wd' : Int)) (besM wd g g') = D at *
    generalize drawOk ((h : Int)) ((wd : Int) + (wd' : Int)) (besM wd g g') = b at *
    generalize planC h wd r g = C at *
    generalize planC h' wd' r' g' = C' at *
    go_enter Try.func42, Try.ntmps42
    go_wp2_with (first
      | (refine wpList_alloc_zero rfl 48 rfl zeroC zero_plan ?_)
      | (go_at_call 68; refine (HD.out _ HP.out HQ.out).mono ?_; rintro e w2 ⟨rfl, hb2⟩; have hZ2 := HZ.out.below hb2; have hrow : w2.heap[w.heap.size + 1 + 1]? = some (.cells zeroC 48 (0, 0)) := hZ2)
      | (refine wpList_store_row rfl 48 _ _ rfl (w.heap.size + 1 + 1) D rfl rfl _ _ hrow HS.out (by rw [H39.out]; rfl) HO.out ?_))
    refine bodyPost_ret (results_plan rfl rfl (hZ2.setRow D) H39.out rfl) rfl ⟨rfl, below_setRowB (below_step hb0 hb0.size hb2) (by omega) _⟩
  · rw [decide_eq_false he, ifC_no rfl, Bool.false_and]
    have hZr : (((w.alloc (.cells (planC h wd r g) 48)).alloc (.cells (planC h' wd' r' g') 48)).alloc (.cells zeroC 48)).heap[w.heap.size + 1 + 1]? = some (.cells zeroC 48 (0, 0)) := hZ
    have hne : ((h : Int) != (h' : Int)) = true := by rw [bne_iff_ne]; omega
    have hbe : ((h : Int) == (h' : Int)) = false := beq_eq_false_iff_ne.2 (by omega)
    clear hP hQ he
    generalize planC h wd r g = C at *
    generalize planC h' wd' r' g' = C' at *
    go_enter Try.func42, Try.ntmps42
    go_wp2_with (first
      | (refine wpList_alloc_zero rfl 48 rfl zeroC zero_plan ?_)
      | (refine wpList_build_as rfl 48 _ rfl zeroC (by simp only [List.map_toArray, List.map_nil]; exact built_zero) ?_)
      | (refine wpList_store_row rfl 48 _ _ rfl (w.heap.size + 1 + 1) zeroC rfl rfl _ _ hZr (plan_size _ _ _ _) rfl (planC_one _ _ _ _) ?_))
    refine bodyPost_ret (results_plan rfl rfl (hZ.setRow zeroC) (planC_size _ _ _ _) rfl) rfl ⟨rfl, below_setRowB hb0 (by omega) _⟩

set_option maxRecDepth 100000 in
set_option maxHeartbeats 800000 in
theorem joinChange_any (fid : Nat) (bd : Bool) (D : Array Value) (A2 A3 : Nat) (C1 : Array Value) (hC1 : C1.size = 39) (bo : Option Addr) (capb : Nat) (q : List ByteArray) (w : World) (hl : q.length ≤ 1048576) (hs : ∀ s ∈ q, s.size ≤ 1048576) (hc : CellsAt w bo (q.map Value.string))
    (h2 : HeldB w A2 23 #[.slice bo q.length capb]) (h3 : HeldB w A3 50 #[.func (.func fid) #[] #[]])
    (eg : ∀ args w, (callFunc fid args).run Try.prog w = .ok (.enter fid args) w) (hD : D.size = 39) (hD1 : D.all (·.oneCell') = true)
    (hch : readOk q = true → ∀ W, Calls Try.prog fid #[.agg C1, .agg (readC q)] W fun e W' => e = .returned (.tuple #[.agg D, .bool bd]) ∧ Below W.heap.size W W') :
    Calls Try.prog 73 #[.agg C1, .pointer (some ⟨A2, 0, none⟩), .pointer (some ⟨A3, 0, none⟩)] w fun e w' => e = .returned (.tuple #[.agg (ifC (readOk q) D), .bool (readOk q && bd)]) ∧ Below w.heap.size w w' := by
  have HSZ := Lib.hid (readC_size q)
  have HS39 := Lib.hid (readC_39 q)
  have HONE := Lib.hid (readC_one q)
  have HD39 := Lib.hid hD
  have HDS := Lib.hid (show (Try.prog.info? 48).map (·.size) = some D.size by rw [hD]; kernel_rfl)
  have HD1 := Lib.hid hD1
  have H1S := Lib.hid (show (Try.prog.info? 48).map (·.size) = some C1.size by rw [hC1]; kernel_rfl)
  have hP := (HeldB.new w 48 C1).alloc (.cells zeroC 48)
  have hZ := HeldB.new (w.alloc (.cells C1 48)) 48 zeroC
  simp only [World.size_alloc] at hZ
  have hb0 : Below w.heap.size w ((w.alloc (.cells C1 48)).alloc (.cells zeroC 48)) := (((Below.refl _ w).alloc (Nat.le_refl _) _).alloc (by simp) _)
  have c2 : ((w.alloc (.cells C1 48)).alloc (.cells zeroC 48)).cell? ⟨A2, 0, none⟩ = some (.slice bo q.length capb) := ((h2.alloc _).alloc _).cell 0
  have HP := Lib.hid hP; have HZ := Lib.hid hZ
  have H3 := Lib.hid ((h3.alloc (.cells C1 48)).alloc (.cells zeroC 48))
  have hc0 := hc.below hb0
  have HRD := Lib.hid (fun W (h : CellsAt W bo (q.map Value.string)) => readPlan_any bo capb q W hl hs h)
  clear hP hZ hC1 hD hD1 h2 h3 hc
  obtain ⟨C2, hC2⟩ : ∃ C2, readC q = C2 := ⟨_, rfl⟩
  rw [hC2] at HSZ HS39 HONE HRD hch
  clear hC2
  cases hr : readOk q
  · rw [ifC_no rfl, Bool.false_and]
    clear hch H3
    go_enter Try.func73, Try.ntmps73
    go_wp2_with (first
      | (refine wpList_alloc_zero rfl 48 rfl zeroC zero_plan ?_))
    refine (HRD.out _ hc0).mono ?_
    rw [hr]
    rintro e w1 ⟨rfl, hb1⟩
    have hZ1 := (HZ.out.below hb1).alloc (.cells C2 48)
    have hrow : (w1.alloc (.cells C2 48)).heap[w.heap.size + 1]? = some (.cells zeroC 48 (0, 0)) := hZ1
    go_wp2_with (first
      | (refine wpList_alloc_zero rfl 48 rfl zeroC zero_plan ?_)
      | (refine wpList_store_new rfl 48 _ _ rfl w1 zeroC C2 rfl rfl rfl HSZ.out (by rw [HS39.out]; rfl) HONE.out ?_)
      | (refine wpList_build_as rfl 48 _ rfl zeroC (by simp only [List.map_toArray, List.map_nil]; exact built_zero) ?_)
      | (refine wpList_store_row rfl 48 _ _ rfl (w.heap.size + 1) zeroC rfl rfl _ _ hrow (plan_size _ _ _ _) rfl (planC_one _ _ _ _) ?_))
    have z1 := below_step hb0 hb0.size hb1
    refine bodyPost_ret (results_plan rfl rfl (hZ1.setRow zeroC) (planC_size _ _ _ _) rfl) rfl ⟨rfl, below_setRowB (z1.alloc z1.size _) (by omega) _⟩
  · rw [ifC_yes rfl, Bool.true_and]
    have HCH := Lib.hid (hch hr)
    clear hch
    go_enter Try.func73, Try.ntmps73
    go_wp2_with (first
      | (refine wpList_alloc_zero rfl 48 rfl zeroC zero_plan ?_))
    refine (HRD.out _ hc0).mono ?_
    rw [hr]
    rintro e w1 ⟨rfl, hb1⟩
    have hZ1 := (HZ.out.below hb1).alloc (.cells C2 48)
    have hP1 := (HP.out.below hb1).alloc (.cells C2 48)
    have c3 := ((H3.out.below hb1).alloc (.cells C2 48)).cell 0
    have hrowP : (w1.alloc (.cells C2 48)).heap[w.heap.size]? = some (.cells C1 48 (0, 0)) := hP1
    have hrowQ : (w1.alloc (.cells C2 48)).heap[w1.heap.size]? = some (.cells C2 48 (0, 0)) := HeldB.new w1 48 C2
    have HZ1 := Lib.hid hZ1
    clear hZ1 hP1
    go_wp2_with (first
      | (refine wpList_alloc_zero rfl 48 rfl zeroC zero_plan ?_)
      | (refine wpList_store_new rfl 48 _ _ rfl w1 zeroC C2 rfl rfl rfl HSZ.out (by rw [HS39.out]; rfl) HONE.out ?_)
      | (refine wpList_load_row rfl 48 _ rfl w.heap.size rfl 48 C1 (0, 0) _ hrowP Try.underlying48 rfl H1S.out ?_)
      | (refine wpList_load_row rfl 48 _ rfl w1.heap.size rfl 48 C2 (0, 0) _ hrowQ Try.underlying48 rfl HSZ.out ?_))
    refine (HCH.out _).mono ?_
    rintro e w2 ⟨rfl, hb2⟩
    have hZ2 := HZ1.out.below hb2
    have hrow : w2.heap[w.heap.size + 1]? = some (.cells zeroC 48 (0, 0)) := hZ2
    go_wp2_with (refine wpList_store_row rfl 48 _ _ rfl (w.heap.size + 1) D rfl rfl _ _ hrow HDS.out (by rw [HD39.out]; rfl) HD1.out ?_)
    have z1 := below_step hb0 hb0.size hb1
    have z2 := z1.alloc z1.size (.cells C2 48)
    refine bodyPost_ret (results_plan rfl rfl (hZ2.setRow D) HD39.out rfl) rfl ⟨rfl, below_setRowB (below_step z2 z2.size hb2) (by omega) _⟩

set_option maxHeartbeats 800000 in
theorem join_any (fid : Nat) (bd : Bool) (D : Array Value) (h wd r : Nat) (g : Nat → Nat → Nat) (ao : Option Addr) (cap : Nat) (p : List ByteArray) (bo : Option Addr) (capb : Nat) (q : List ByteArray) (w : World)
    (hl : p.length ≤ 1048576) (hs : ∀ s ∈ p, s.size ≤ 1048576) (hc : CellsAt w ao (p.map Value.string)) (hl' : q.length ≤ 1048576) (hs' : ∀ s ∈ q, s.size ≤ 1048576) (hc' : CellsAt w bo (q.map Value.string))
    (eg : ∀ args w, (callFunc fid args).run Try.prog w = .ok (.enter fid args) w) (hD : D.size = 39) (hD1 : D.all (·.oneCell') = true)
    (hch : readOk p = true → readOk q = true → ∀ W, Calls Try.prog fid #[.agg (readC p), .agg (readC q)] W fun e W' => e = .returned (.tuple #[.agg D, .bool bd]) ∧ Below W.heap.size W W')
    (hb : bd = true → D = planC h wd r g ∧ h ≤ 6 ∧ wd ≤ 6 ∧ ∀ i j, g i j ≤ 100) :
    Calls Try.prog 41 #[.slice ao p.length cap, .slice bo q.length capb, .func (.func fid) #[] #[]] w fun e w' => TextsRet w.heap.size (orNone (readOk p && (readOk q && bd)) (rowsT h wd g)) (readOk p && (readOk q && bd)) e w' ∧ Below w.heap.size w w' := by
  have h2 := (HeldB.new w 23 #[.slice bo q.length capb]).alloc (.cells #[.func (.func fid) #[] #[]] 50)
  have h3 := HeldB.new (w.alloc (.cells #[.slice bo q.length capb] 23)) 50 #[.func (.func fid) #[] #[]]
  simp only [World.size_alloc] at h3
  have hb0 : Below w.heap.size w ((w.alloc (.cells #[.slice bo q.length capb] 23)).alloc (.cells #[.func (.func fid) #[] #[]] 50)) := (((Below.refl _ w).alloc (Nat.le_refl _) _).alloc (by simp) _)
  have hc0 := hc.below hb0
  have hc0' := hc'.below hb0
  have HR := Lib.hid (redraw_any 73 #[.pointer (some ⟨w.heap.size, 0, none⟩), .pointer (some ⟨w.heap.size + 1, 0, none⟩)] (readOk q && bd) (ifC (readOk q) D) h wd r g ao cap p
    ((w.alloc (.cells #[.slice bo q.length capb] 23)).alloc (.cells #[.func (.func fid) #[] #[]] 50)) hl hs hc0 Try.call73
    (fun hr W hb => joinChange_any fid bd D w.heap.size (w.heap.size + 1) (readC p) (readC_39 p) bo capb q W hl' hs' (hc0'.below hb) (h2.below hb) (h3.below hb) eg hD hD1 (fun hq W => hch hr hq W))
    (fun hbb => by
      rw [Bool.and_eq_true] at hbb
      rw [ifC_yes hbb.1]
      exact hb hbb.2))
  clear h2 h3 hb hch eg
  generalize (readOk p && (readOk q && bd)) = bb at *
  go_enter Try.func41, Try.ntmps41
  go_wp2_with (go_at_call 37; refine (HR.out).mono ?_; rintro e w1 ⟨⟨ro, rc, rfl, hown1⟩, hb1⟩)
  go_ret2
  exact ⟨⟨ro, rc, rfl, ownsRow_base hown1 hb0.size⟩, below_step hb0 hb0.size hb1⟩

end Go.Proofs.Ytcndlfkmmgdpaaa

/-
  Plans below each other: the model's answer and the program's. (Walks.)
-/
namespace Go.Proofs.Ytcndlfkmmgdpaaa
open Go.RowKit

def underT (p q : List ByteArray) : List ByteArray := rowsT (p.length + q.length) (wideB p) (undM p.length (markN p) (markN q))
def underOk (p q : List ByteArray) : Bool := planB p && (planB q && (decide (wideB p = wideB q) && doneB (underT p q)))

theorem rowsT_append (h h' wd : Nat) (g g2 : Nat → Nat → Nat) : rowsT h wd g ++ rowsT h' wd g2 = rowsT (h + h') wd (fun i j => if i < h then g i j else g2 (i - h) j) := by
  unfold rowsT
  rw [List.range_add, List.map_append, List.map_map]
  congr 1
  · refine List.map_congr_left fun i hi => ?_
    rw [List.mem_range] at hi
    congr 2
    unfold rowT
    exact List.map_congr_left fun j _ => by show _ = UInt8.ofNat (97 + if i < h then g i j else g2 (i - h) j); rw [if_pos hi]
  · refine List.map_congr_left fun i _ => ?_
    show _ = (⟨_⟩ : ByteArray)
    congr 2
    unfold rowT
    exact List.map_congr_left fun j _ => by show _ = UInt8.ofNat (97 + if h + i < h then g (h + i) j else g2 (h + i - h) j); rw [if_neg (by omega), Nat.add_sub_cancel_left]

theorem under_text {p q : List ByteArray} (hp : GridP p) (he : wideB p = wideB q) : p ++ laterB q = underT p q := by
  conv => lhs; rw [text_of hp]
  unfold laterB underT
  rw [← he, rowsT_append]
  rfl

theorem under_math {p q : List ByteArray} (h : planB p = true) (h' : planB q = true) (he : wideB p = wideB q) :
    doneB (underT p q) = drawOk (p.length + q.length : Nat) (wideB p) (undM p.length (gridG p) (gridG q)) ∧
    orNone (doneB (underT p q)) (namesB (underT p q)) = orNone (drawOk (p.length + q.length : Nat) (wideB p) (undM p.length (gridG p) (gridG q))) (rowsT (p.length + q.length) (wideB p) (renG (p.length + q.length) (wideB p) (undM p.length (gridG p) (gridG q)))) := by
  have hp := planP_of h
  have hq := planP_of h'
  have h1 := hp.grid.h1
  refine same_rows (by omega) hp.grid.w1 (fun i j hi hj => ?_) (sameG_of_eq fun i j hi hj => ?_)
  · unfold undM
    split
    · exact markN_lt p i j
    · have := hq.lt (i := i - p.length) (j := j) (by omega) (by omega)
      have := hq.few
      omega
  · unfold undM
    split
    · exact hp.mark i j (by omega) hj
    · rw [hq.mark (i - p.length) j (by omega) (by omega)]

theorem under_few (p q : List ByteArray) : (orNone (underOk p q) (namesB (underT p q))).length ≤ 1048576 := by
  cases h : underOk p q
  · rw [orNone_no rfl]; exact Nat.zero_le _
  · unfold underOk at h
    simp only [Bool.and_eq_true] at h
    have := names_few (underT p q)
    rw [h.2.2.2] at this
    exact this

end Go.Proofs.Ytcndlfkmmgdpaaa

/-
  Plans beside each other: the model's answer and the program's. (Walks.)
-/
namespace Go.Proofs.Ytcndlfkmmgdpaaa
open Go.RowKit

def besideT (p q : List ByteArray) : List ByteArray := rowsT p.length (wideB p + wideB q) (besM (wideB p) (markN p) (markN q))
def besideOk (p q : List ByteArray) : Bool := planB p && (planB q && (decide (p.length = q.length) && doneB (besideT p q)))

theorem rowT_append (wd wd' i : Nat) (g g2 : Nat → Nat → Nat) : rowT wd g i ++ rowT wd' g2 i = rowT (wd + wd') (fun i j => if j < wd then g i j else g2 i (j - wd)) i := by
  unfold rowT
  rw [List.range_add, List.map_append, List.map_map]
  congr 1
  · refine List.map_congr_left fun j hj => ?_
    rw [List.mem_range] at hj
    show _ = UInt8.ofNat (97 + if j < wd then g i j else g2 i (j - wd))
    rw [if_pos hj]
  · refine List.map_congr_left fun j _ => ?_
    show _ = UInt8.ofNat (97 + if wd + j < wd then g i (wd + j) else g2 i (wd + j - wd))
    rw [if_neg (by omega), Nat.add_sub_cancel_left]
theorem beside_math {p q : List ByteArray} (h : planB p = true) (h' : planB q = true) (he : p.length = q.length) :
    doneB (besideT p q) = drawOk p.length (wideB p + wideB q : Nat) (besM (wideB p) (gridG p) (gridG q)) ∧
    orNone (doneB (besideT p q)) (namesB (besideT p q)) = orNone (drawOk p.length (wideB p + wideB q : Nat) (besM (wideB p) (gridG p) (gridG q))) (rowsT p.length (wideB p + wideB q) (renG p.length (wideB p + wideB q) (besM (wideB p) (gridG p) (gridG q)))) := by
  have hp := planP_of h
  have hq := planP_of h'
  have h1 := hp.grid.w1
  refine same_rows hp.grid.h1 (by omega) (fun i j hi hj => ?_) (sameG_of_eq fun i j hi hj => ?_)
  · unfold besM
    split
    · exact markN_lt p i j
    · have := hq.lt (i := i) (j := j - wideB p) (by omega) (by omega)
      have := hq.few
      omega
  · unfold besM
    split
    · exact hp.mark i j hi (by omega)
    · rw [hq.mark i (j - wideB p) (by omega) (by omega)]

theorem beside_few (p q : List ByteArray) : (orNone (besideOk p q) (namesB (besideT p q))).length ≤ 1048576 := by
  cases h : besideOk p q
  · rw [orNone_no rfl]; exact Nat.zero_le _
  · unfold besideOk at h
    simp only [Bool.and_eq_true] at h
    have := names_few (besideT p q)
    rw [h.2.2.2] at this
    exact this

theorem implBeside_any (ao bo : Option Addr) (cap capb : Nat) (p q : List ByteArray) (w : World) (hl : p.length ≤ 1048576) (hs : ∀ s ∈ p, s.size ≤ 1048576) (hl' : q.length ≤ 1048576) (hs' : ∀ s ∈ q, s.size ≤ 1048576) (hc : CellsAt w ao (p.map Value.string)) (hc' : CellsAt w bo (q.map Value.string)) :
    Calls Try.prog 15 #[.slice ao p.length cap, .slice bo q.length capb] w fun e w' => TextsRet w.heap.size (orNone (besideOk p q) (namesB (besideT p q))) (besideOk p q) e w' ∧ Below w.heap.size w w' := by
  have hT : besideOk p q = (readOk p && (readOk q && (decide (p.length = q.length) && drawOk p.length (wideB p + wideB q : Nat) (besM (wideB p) (gridG p) (gridG q))))) ∧
      orNone (besideOk p q) (namesB (besideT p q)) = orNone (readOk p && (readOk q && (decide (p.length = q.length) && drawOk p.length (wideB p + wideB q : Nat) (besM (wideB p) (gridG p) (gridG q))))) (rowsT p.length (wideB p + wideB q) (renG p.length (wideB p + wideB q) (besM (wideB p) (gridG p) (gridG q)))) := by
    rw [readOk_eq, readOk_eq]
    unfold besideOk
    cases hp : planB p
    · exact ⟨rfl, rfl⟩
    · cases hq : planB q
      · exact ⟨rfl, rfl⟩
      · cases he : decide (p.length = q.length)
        · exact ⟨rfl, rfl⟩
        · have := beside_math hp hq (of_decide_eq_true he)
          simp only [Bool.true_and]
          exact this
  have HR := Lib.hid (join_any 42 (decide (p.length = q.length) && drawOk p.length (wideB p + wideB q : Nat) (besM (wideB p) (gridG p) (gridG q)))
    (ifC (decide (p.length = q.length)) (drawC p.length (wideB p + wideB q : Nat) (besM (wideB p) (gridG p) (gridG q)))) p.length (wideB p + wideB q) (markF p.length (wideB p + wideB q) (besM (wideB p) (gridG p) (gridG q))).length
    (renG p.length (wideB p + wideB q) (besM (wideB p) (gridG p) (gridG q))) ao cap p bo capb q w hl hs hc hl' hs' hc' Try.call42 (ifC_39 _ (drawC_39 _ _ _)) (ifC_one _ (drawC_one _ _ _))
    (fun hr hr' W => by
      have hd := read_dims hr
      have hd' := read_dims hr'
      have := beside_any p.length (wideB p) (gridR p) q.length (wideB q) (gridR q) (gridG p) (gridG q) W hd.1 hd.2.1 hd'.2.1 hd.2.2 hd'.2.2
      rw [← readC_ok hr, ← readC_ok hr'] at this
      exact this)
    (fun hb => by
      rw [Bool.and_eq_true] at hb
      rw [ifC_yes hb.1]
      exact drawC_ok hb.2))
  rw [hT.1] at *
  rw [hT.2]
  clear hT
  generalize (readOk p && (readOk q && (decide (p.length = q.length) && drawOk p.length (wideB p + wideB q : Nat) (besM (wideB p) (gridG p) (gridG q))))) = b at *
  go_enter Try.func15, Try.ntmps15
  go_wp2_with (go_at_call 41; refine (HR.out).mono ?_; rintro e w1 ⟨⟨ro, rc, rfl, hown1⟩, hb1⟩)
  go_ret2
  exact ⟨⟨ro, rc, rfl, hown1⟩, hb1⟩

end Go.Proofs.Ytcndlfkmmgdpaaa
