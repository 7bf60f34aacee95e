
/-
  The program puts two plans together. (Walks.)
-/
import Derived.Test.YtdhnklaflbaeeaaImplW
namespace Go.Proofs.Ytdhnklaflbaeeaa
open Go.RowKit

/-- marks of two plans beside each other -/
def besM (wd : Nat) (g g' : Nat → Nat → Nat) (i j : Nat) : Nat := if j < wd then g i j else 9 + g' i (j - wd)
/-- marks of two plans below each other -/
def undM (h : Nat) (g g' : Nat → Nat → Nat) (i j : Nat) : Nat := if i < h then g i j else 9 + g' (i - h) j

set_option maxHeartbeats 400000 in
theorem besMark_any (B K h wd r h' wd' r' : Nat) (g g' : Nat → Nat → Nat) (w : World) (hB : HeldB w B 62 (planC h wd r g)) (hK : HeldB w K 62 (planC h' wd' r' g')) (hh : h ≤ 6) (hw : wd ≤ 6) (hw' : wd' ≤ 6) (hg' : ∀ i j, g' i j ≤ 9) (i j : Nat) (hi : i < h) (hj : j < wd + wd') :
    Calls Try.prog 144 #[.int .i64 i, .int .i64 j, .pointer (some ⟨B, 0, none⟩), .pointer (some ⟨K, 0, none⟩)] w
      fun e w' => e = .returned (.int .i64 (besM wd g g' i j : Nat)) ∧ Below w.heap.size w w' := by
  have c1 : w.cell? ⟨B, 1, none⟩ = some (.int .i64 wd) := (hB.cell 1).trans (planC_1 _ _ _ _)
  have hi6 : i < 6 := by omega
  by_cases hx : j < wd
  · have e1 : besM wd g g' i j = g i j := if_pos hx
    rw [e1]
    have hj6 : j < 6 := by omega
    have cc : w.cell? ⟨B, 3 + i * 6 + j, none⟩ = some (.int .i64 (g i j : Nat)) := (hB.cell _).trans (planC_at _ _ _ _ i j hi6 hj6)
    clear hB hK e1
    go_enter Try.func144, Try.ntmps144
    go_wp2
    go_ret
    exact ⟨rfl, Below.refl _ _⟩
  · have e1 : besM wd g g' i j = 9 + g' i (j - wd) := if_neg hx
    rw [e1]
    obtain ⟨t, ht⟩ : ∃ t, t = j - wd := ⟨_, rfl⟩
    rw [← ht]
    have ht6 : t < 6 := by omega
    have e2 : (j : Int) - (wd : Int) = (t : Int) := by omega
    have hgt := hg' i t
    have cc : w.cell? ⟨K, 3 + i * 6 + t, none⟩ = some (.int .i64 (g' i t : Nat)) := (hK.cell _).trans (planC_at _ _ _ _ i t hi6 ht6)
    clear hB hK e1 ht
    generalize g' i t = x at *
    go_enter Try.func144, Try.ntmps144
    go_wp2
    go_quiet (fail)
    go_wp2
    go_ret
    exact ⟨ret_int (by omega), below_drewN _ _ _⟩

set_option maxHeartbeats 400000 in
theorem undMark_any (B K h wd r h' wd' r' : Nat) (g g' : Nat → Nat → Nat) (w : World) (hB : HeldB w B 62 (planC h wd r g)) (hK : HeldB w K 62 (planC h' wd' r' g')) (hh : h ≤ 6) (hw : wd ≤ 6) (hh' : h' ≤ 6) (hg' : ∀ i j, g' i j ≤ 9) (i j : Nat) (hi : i < h + h') (hj : j < wd) :
    Calls Try.prog 145 #[.int .i64 i, .int .i64 j, .pointer (some ⟨B, 0, none⟩), .pointer (some ⟨K, 0, none⟩)] w
      fun e w' => e = .returned (.int .i64 (undM h g g' i j : Nat)) ∧ Below w.heap.size w w' := by
  have c1 : w.cell? ⟨B, 0, none⟩ = some (.int .i64 h) := (hB.cell 0).trans (planC_0 _ _ _ _)
  have hj6 : j < 6 := by omega
  by_cases hx : i < h
  · have e1 : undM h g g' i j = g i j := if_pos hx
    rw [e1]
    have hi6 : i < 6 := by omega
    have cc : w.cell? ⟨B, 3 + i * 6 + j, none⟩ = some (.int .i64 (g i j : Nat)) := (hB.cell _).trans (planC_at _ _ _ _ i j hi6 hj6)
    clear hB hK e1
    go_enter Try.func145, Try.ntmps145
    go_wp2
    go_ret
    exact ⟨rfl, Below.refl _ _⟩
  · have e1 : undM h g g' i j = 9 + g' (i - h) j := if_neg hx
    rw [e1]
    obtain ⟨t, ht⟩ : ∃ t, t = i - h := ⟨_, rfl⟩
    rw [← ht]
    have ht6 : t < 6 := by omega
    have e2 : (i : Int) - (h : Int) = (t : Int) := by omega
    have hgt := hg' t j
    have cc : w.cell? ⟨K, 3 + t * 6 + j, none⟩ = some (.int .i64 (g' t j : Nat)) := (hK.cell _).trans (planC_at _ _ _ _ t j ht6 hj6)
    clear hB hK e1 ht
    generalize g' t j = x at *
    go_enter Try.func145, Try.ntmps145
    go_wp2
    go_ret
    exact ⟨ret_int (by omega), Below.refl _ _⟩

set_option maxRecDepth 100000 in
set_option maxHeartbeats 800000 in
theorem beside_any (h wd r h' wd' r' : Nat) (g g' : Nat → Nat → Nat) (w : World) (hh : h ≤ 6) (hw : wd ≤ 6) (hw' : wd' ≤ 6) (hg : ∀ i j, g i j ≤ 9) (hg' : ∀ i j, g' i j ≤ 9) :
    Calls Try.prog 111 #[.agg (planC h wd r g), .agg (planC h' wd' r' g')] w
      fun e w' => e = .returned (.tuple #[.agg (ifC (decide (h = h')) (drawC (h : Nat) (wd + wd' : Nat) (besM wd g g'))), .bool (decide (h = h') && drawOk (h : Nat) (wd + wd' : Nat) (besM wd g g'))]) ∧ Below w.heap.size w w' := by
  have hP := ((HeldB.new w 62 (planC h wd r g)).alloc (.cells (planC h' wd' r' g') 62)).alloc (.cells zeroC 62)
  have hQ := (HeldB.new (w.alloc (.cells (planC h wd r g) 62)) 62 (planC h' wd' r' g')).alloc (.cells zeroC 62)
  have hZ := HeldB.new ((w.alloc (.cells (planC h wd r g) 62)).alloc (.cells (planC h' wd' r' g') 62)) 62 zeroC
  simp only [World.size_alloc] at hQ hZ
  have hb0 : Below w.heap.size w (((w.alloc (.cells (planC h wd r g) 62)).alloc (.cells (planC h' wd' r' g') 62)).alloc (.cells zeroC 62)) := ((((Below.refl _ w).alloc (Nat.le_refl _) _).alloc (by simp) _).alloc (by simp; omega) _)
  have c0 := (hP.cell 0).trans (planC_0 _ _ _ _)
  have c1 := (hP.cell 1).trans (planC_1 _ _ _ _)
  have d0 := (hQ.cell 0).trans (planC_0 _ _ _ _)
  have d1 := (hQ.cell 1).trans (planC_1 _ _ _ _)
  by_cases he : h = h'
  · rw [decide_eq_true he, ifC_yes rfl, Bool.true_and, Int.natCast_add]
    have HD := Lib.hid (fun (W : World) (h1 : HeldB W w.heap.size 62 (planC h wd r g)) (h2 : HeldB W (w.heap.size + 1) 62 (planC h' wd' r' g')) => drawPlan_any 144 #[.pointer (some ⟨w.heap.size, 0, none⟩), .pointer (some ⟨w.heap.size + 1, 0, none⟩)] ((h : Int)) ((wd : Int) + (wd' : Int)) (besM wd g g') W Try.call144 (fun i j => by unfold besM; split <;> first | exact Nat.lt_of_le_of_lt (hg _ _) (by omega) | exact Nat.lt_of_le_of_lt (Nat.add_le_add_left (hg' _ _) 9) (by omega))
      (fun W2 hb2 i j hi hj => besMark_any w.heap.size (w.heap.size + 1) h wd r h' wd' r' g g' W2 (h1.below hb2) (h2.below hb2) hh hw hw' hg' i j (by omega) (by omega)))
    have HS := Lib.hid (drawC_size ((h : Int)) ((wd : Int) + (wd' : Int)) (besM wd g g'))
    have H39 := Lib.hid (drawC_39 ((h : Int)) ((wd : Int) + (wd' : Int)) (besM wd g g'))
    have HO := Lib.hid (drawC_one ((h : Int)) ((wd : Int) + (wd' : Int)) (besM wd g g'))
    have HP := Lib.hid hP; have HQ := Lib.hid hQ; have HZ := Lib.hid hZ
    have hne : ((h : Int) != (h' : Int)) = false := by rw [bne_eq_false_iff_eq]; omega
    have hbe : ((h : Int) == (h' : Int)) = true := beq_iff_eq.2 (by omega)
    clear hP hQ hZ he
    generalize drawC ((h : Int)) ((wd : Int) + (wd' : Int)) (besM wd g g') = D at *
    generalize drawOk ((h : Int)) ((wd : Int) + (wd' : Int)) (besM wd g g') = b at *
    generalize planC h wd r g = C at *
    generalize planC h' wd' r' g' = C' at *
    go_enter Try.func111, Try.ntmps111
    go_wp2_with (first
      | (refine wpList_alloc_zero rfl 62 rfl zeroC zero_plan ?_)
      | (go_at_call 133; refine (HD.out _ HP.out HQ.out).mono ?_; rintro e w2 ⟨rfl, hb2⟩; have hZ2 := HZ.out.below hb2; have hrow : w2.heap[w.heap.size + 1 + 1]? = some (.cells zeroC 62 (0, 0)) := hZ2)
      | (refine wpList_store_row rfl 62 _ _ rfl (w.heap.size + 1 + 1) D rfl rfl _ _ hrow HS.out (by rw [H39.out]; rfl) HO.out ?_))
    refine bodyPost_ret (results_plan rfl rfl (hZ2.setRow D) H39.out rfl) rfl ⟨rfl, below_setRowB (below_step hb0 hb0.size hb2) (by omega) _⟩
  · rw [decide_eq_false he, ifC_no rfl, Bool.false_and]
    have hZr : (((w.alloc (.cells (planC h wd r g) 62)).alloc (.cells (planC h' wd' r' g') 62)).alloc (.cells zeroC 62)).heap[w.heap.size + 1 + 1]? = some (.cells zeroC 62 (0, 0)) := hZ
    have hne : ((h : Int) != (h' : Int)) = true := by rw [bne_iff_ne]; omega
    have hbe : ((h : Int) == (h' : Int)) = false := beq_eq_false_iff_ne.2 (by omega)
    clear hP hQ he
    generalize planC h wd r g = C at *
    generalize planC h' wd' r' g' = C' at *
    go_enter Try.func111, Try.ntmps111
    go_wp2_with (first
      | (refine wpList_alloc_zero rfl 62 rfl zeroC zero_plan ?_)
      | (refine wpList_build_as rfl 62 _ rfl zeroC (by simp only [List.map_toArray, List.map_nil]; exact built_zero) ?_)
      | (refine wpList_store_row rfl 62 _ _ rfl (w.heap.size + 1 + 1) zeroC rfl rfl _ _ hZr (plan_size _ _ _ _) rfl (planC_one _ _ _ _) ?_))
    refine bodyPost_ret (results_plan rfl rfl (hZ.setRow zeroC) (planC_size _ _ _ _) rfl) rfl ⟨rfl, below_setRowB hb0 (by omega) _⟩

set_option maxRecDepth 100000 in
set_option maxHeartbeats 800000 in
theorem under_any (h wd r h' wd' r' : Nat) (g g' : Nat → Nat → Nat) (w : World) (hh : h ≤ 6) (hw : wd ≤ 6) (hh' : h' ≤ 6) (hg : ∀ i j, g i j ≤ 9) (hg' : ∀ i j, g' i j ≤ 9) :
    Calls Try.prog 112 #[.agg (planC h wd r g), .agg (planC h' wd' r' g')] w
      fun e w' => e = .returned (.tuple #[.agg (ifC (decide (wd = wd')) (drawC (h + h' : Nat) (wd : Nat) (undM h g g'))), .bool (decide (wd = wd') && drawOk (h + h' : Nat) (wd : Nat) (undM h g g'))]) ∧ Below w.heap.size w w' := by
  have hP := ((HeldB.new w 62 (planC h wd r g)).alloc (.cells (planC h' wd' r' g') 62)).alloc (.cells zeroC 62)
  have hQ := (HeldB.new (w.alloc (.cells (planC h wd r g) 62)) 62 (planC h' wd' r' g')).alloc (.cells zeroC 62)
  have hZ := HeldB.new ((w.alloc (.cells (planC h wd r g) 62)).alloc (.cells (planC h' wd' r' g') 62)) 62 zeroC
  simp only [World.size_alloc] at hQ hZ
  have hb0 : Below w.heap.size w (((w.alloc (.cells (planC h wd r g) 62)).alloc (.cells (planC h' wd' r' g') 62)).alloc (.cells zeroC 62)) := ((((Below.refl _ w).alloc (Nat.le_refl _) _).alloc (by simp) _).alloc (by simp; omega) _)
  have c0 := (hP.cell 0).trans (planC_0 _ _ _ _)
  have c1 := (hP.cell 1).trans (planC_1 _ _ _ _)
  have d0 := (hQ.cell 0).trans (planC_0 _ _ _ _)
  have d1 := (hQ.cell 1).trans (planC_1 _ _ _ _)
  by_cases he : wd = wd'
  · rw [decide_eq_true he, ifC_yes rfl, Bool.true_and, Int.natCast_add]
    have HD := Lib.hid (fun (W : World) (h1 : HeldB W w.heap.size 62 (planC h wd r g)) (h2 : HeldB W (w.heap.size + 1) 62 (planC h' wd' r' g')) => drawPlan_any 145 #[.pointer (some ⟨w.heap.size, 0, none⟩), .pointer (some ⟨w.heap.size + 1, 0, none⟩)] ((h : Int) + (h' : Int)) ((wd : Int)) (undM h g g') W Try.call145 (fun i j => by unfold undM; split <;> first | exact Nat.lt_of_le_of_lt (hg _ _) (by omega) | exact Nat.lt_of_le_of_lt (Nat.add_le_add_left (hg' _ _) 9) (by omega))
      (fun W2 hb2 i j hi hj => undMark_any w.heap.size (w.heap.size + 1) h wd r h' wd' r' g g' W2 (h1.below hb2) (h2.below hb2) hh hw hh' hg' i j (by omega) (by omega)))
    have HS := Lib.hid (drawC_size ((h : Int) + (h' : Int)) ((wd : Int)) (undM h g g'))
    have H39 := Lib.hid (drawC_39 ((h : Int) + (h' : Int)) ((wd : Int)) (undM h g g'))
    have HO := Lib.hid (drawC_one ((h : Int) + (h' : Int)) ((wd : Int)) (undM h g g'))
    have HP := Lib.hid hP; have HQ := Lib.hid hQ; have HZ := Lib.hid hZ
    have hne : ((wd : Int) != (wd' : Int)) = false := by rw [bne_eq_false_iff_eq]; omega
    have hbe : ((wd : Int) == (wd' : Int)) = true := beq_iff_eq.2 (by omega)
    clear hP hQ hZ he
    generalize drawC ((h : Int) + (h' : Int)) ((wd : Int)) (undM h g g') = D at *
    generalize drawOk ((h : Int) + (h' : Int)) ((wd : Int)) (undM h g g') = b at *
    generalize planC h wd r g = C at *
    generalize planC h' wd' r' g' = C' at *
    go_enter Try.func112, Try.ntmps112
    go_wp2_with (first
      | (refine wpList_alloc_zero rfl 62 rfl zeroC zero_plan ?_)
      | (go_at_call 133; refine (HD.out _ HP.out HQ.out).mono ?_; rintro e w2 ⟨rfl, hb2⟩; have hZ2 := HZ.out.below hb2; have hrow : w2.heap[w.heap.size + 1 + 1]? = some (.cells zeroC 62 (0, 0)) := hZ2)
      | (refine wpList_store_row rfl 62 _ _ rfl (w.heap.size + 1 + 1) D rfl rfl _ _ hrow HS.out (by rw [H39.out]; rfl) HO.out ?_))
    refine bodyPost_ret (results_plan rfl rfl (hZ2.setRow D) H39.out rfl) rfl ⟨rfl, below_setRowB (below_step hb0 hb0.size hb2) (by omega) _⟩
  · rw [decide_eq_false he, ifC_no rfl, Bool.false_and]
    have hZr : (((w.alloc (.cells (planC h wd r g) 62)).alloc (.cells (planC h' wd' r' g') 62)).alloc (.cells zeroC 62)).heap[w.heap.size + 1 + 1]? = some (.cells zeroC 62 (0, 0)) := hZ
    have hne : ((wd : Int) != (wd' : Int)) = true := by rw [bne_iff_ne]; omega
    have hbe : ((wd : Int) == (wd' : Int)) = false := beq_eq_false_iff_ne.2 (by omega)
    clear hP hQ he
    generalize planC h wd r g = C at *
    generalize planC h' wd' r' g' = C' at *
    go_enter Try.func112, Try.ntmps112
    go_wp2_with (first
      | (refine wpList_alloc_zero rfl 62 rfl zeroC zero_plan ?_)
      | (refine wpList_build_as rfl 62 _ rfl zeroC (by simp only [List.map_toArray, List.map_nil]; exact built_zero) ?_)
      | (refine wpList_store_row rfl 62 _ _ rfl (w.heap.size + 1 + 1) zeroC rfl rfl _ _ hZr (plan_size _ _ _ _) rfl (planC_one _ _ _ _) ?_))
    refine bodyPost_ret (results_plan rfl rfl (hZ.setRow zeroC) (planC_size _ _ _ _) rfl) rfl ⟨rfl, below_setRowB hb0 (by omega) _⟩

set_option maxRecDepth 100000 in
set_option maxHeartbeats 800000 in
theorem joinChange_any (fid : Nat) (bd : Bool) (D : Array Value) (A2 A3 : Nat) (C1 : Array Value) (hC1 : C1.size = 39) (bo : Option Addr) (capb : Nat) (q : List ByteArray) (w : World) (hl : q.length ≤ 1048576) (hs : ∀ s ∈ q, s.size ≤ 1048576) (hc : CellsAt w bo (q.map Value.string))
    (h2 : HeldB w A2 23 #[.slice bo q.length capb]) (h3 : HeldB w A3 91 #[.func (.func fid) #[] #[]])
    (eg : ∀ args w, (callFunc fid args).run Try.prog w = .ok (.enter fid args) w) (hD : D.size = 39) (hD1 : D.all (·.oneCell') = true)
    (hch : readOk q = true → ∀ W, Calls Try.prog fid #[.agg C1, .agg (readC q)] W fun e W' => e = .returned (.tuple #[.agg D, .bool bd]) ∧ Below W.heap.size W W') :
    Calls Try.prog 143 #[.agg C1, .pointer (some ⟨A2, 0, none⟩), .pointer (some ⟨A3, 0, none⟩)] w fun e w' => e = .returned (.tuple #[.agg (ifC (readOk q) D), .bool (readOk q && bd)]) ∧ Below w.heap.size w w' := by
  have HSZ := Lib.hid (readC_size q)
  have HS39 := Lib.hid (readC_39 q)
  have HONE := Lib.hid (readC_one q)
  have HD39 := Lib.hid hD
  have HDS := Lib.hid (show (Try.prog.info? 62).map (·.size) = some D.size by rw [hD]; kernel_rfl)
  have HD1 := Lib.hid hD1
  have H1S := Lib.hid (show (Try.prog.info? 62).map (·.size) = some C1.size by rw [hC1]; kernel_rfl)
  have hP := (HeldB.new w 62 C1).alloc (.cells zeroC 62)
  have hZ := HeldB.new (w.alloc (.cells C1 62)) 62 zeroC
  simp only [World.size_alloc] at hZ
  have hb0 : Below w.heap.size w ((w.alloc (.cells C1 62)).alloc (.cells zeroC 62)) := (((Below.refl _ w).alloc (Nat.le_refl _) _).alloc (by simp) _)
  have c2 : ((w.alloc (.cells C1 62)).alloc (.cells zeroC 62)).cell? ⟨A2, 0, none⟩ = some (.slice bo q.length capb) := ((h2.alloc _).alloc _).cell 0
  have HP := Lib.hid hP; have HZ := Lib.hid hZ
  have H3 := Lib.hid ((h3.alloc (.cells C1 62)).alloc (.cells zeroC 62))
  have hc0 := hc.below hb0
  have HRD := Lib.hid (fun W (h : CellsAt W bo (q.map Value.string)) => readPlan_any bo capb q W hl hs h)
  clear hP hZ hC1 hD hD1 h2 h3 hc
  obtain ⟨C2, hC2⟩ : ∃ C2, readC q = C2 := ⟨_, rfl⟩
  rw [hC2] at HSZ HS39 HONE HRD hch
  clear hC2
  cases hr : readOk q
  · rw [ifC_no rfl, Bool.false_and]
    clear hch H3
    go_enter Try.func143, Try.ntmps143
    go_wp2_with (first
      | (refine wpList_alloc_zero rfl 62 rfl zeroC zero_plan ?_))
    refine (HRD.out _ hc0).mono ?_
    rw [hr]
    rintro e w1 ⟨rfl, hb1⟩
    have hZ1 := (HZ.out.below hb1).alloc (.cells C2 62)
    have hrow : (w1.alloc (.cells C2 62)).heap[w.heap.size + 1]? = some (.cells zeroC 62 (0, 0)) := hZ1
    go_wp2_with (first
      | (refine wpList_alloc_zero rfl 62 rfl zeroC zero_plan ?_)
      | (refine wpList_store_new rfl 62 _ _ rfl w1 zeroC C2 rfl rfl rfl HSZ.out (by rw [HS39.out]; rfl) HONE.out ?_)
      | (refine wpList_build_as rfl 62 _ rfl zeroC (by simp only [List.map_toArray, List.map_nil]; exact built_zero) ?_)
      | (refine wpList_store_row rfl 62 _ _ rfl (w.heap.size + 1) zeroC rfl rfl _ _ hrow (plan_size _ _ _ _) rfl (planC_one _ _ _ _) ?_))
    have z1 := below_step hb0 hb0.size hb1
    refine bodyPost_ret (results_plan rfl rfl (hZ1.setRow zeroC) (planC_size _ _ _ _) rfl) rfl ⟨rfl, below_setRowB (z1.alloc z1.size _) (by omega) _⟩
  · rw [ifC_yes rfl, Bool.true_and]
    have HCH := Lib.hid (hch hr)
    clear hch
    go_enter Try.func143, Try.ntmps143
    go_wp2_with (first
      | (refine wpList_alloc_zero rfl 62 rfl zeroC zero_plan ?_))
    refine (HRD.out _ hc0).mono ?_
    rw [hr]
    rintro e w1 ⟨rfl, hb1⟩
    have hZ1 := (HZ.out.below hb1).alloc (.cells C2 62)
    have hP1 := (HP.out.below hb1).alloc (.cells C2 62)
    have c3 := ((H3.out.below hb1).alloc (.cells C2 62)).cell 0
    have hrowP : (w1.alloc (.cells C2 62)).heap[w.heap.size]? = some (.cells C1 62 (0, 0)) := hP1
    have hrowQ : (w1.alloc (.cells C2 62)).heap[w1.heap.size]? = some (.cells C2 62 (0, 0)) := HeldB.new w1 62 C2
    have HZ1 := Lib.hid hZ1
    clear hZ1 hP1
    go_wp2_with (first
      | (refine wpList_alloc_zero rfl 62 rfl zeroC zero_plan ?_)
      | (refine wpList_store_new rfl 62 _ _ rfl w1 zeroC C2 rfl rfl rfl HSZ.out (by rw [HS39.out]; rfl) HONE.out ?_)
      | (refine wpList_load_row rfl 62 _ rfl w.heap.size rfl 62 C1 (0, 0) _ hrowP Try.underlying62 rfl H1S.out ?_)
      | (refine wpList_load_row rfl 62 _ rfl w1.heap.size rfl 62 C2 (0, 0) _ hrowQ Try.underlying62 rfl HSZ.out ?_))
    refine (HCH.out _).mono ?_
    rintro e w2 ⟨rfl, hb2⟩
    have hZ2 := HZ1.out.below hb2
    have hrow : w2.heap[w.heap.size + 1]? = some (.cells zeroC 62 (0, 0)) := hZ2
    go_wp2_with (refine wpList_store_row rfl 62 _ _ rfl (w.heap.size + 1) D rfl rfl _ _ hrow HDS.out (by rw [HD39.out]; rfl) HD1.out ?_)
    have z1 := below_step hb0 hb0.size hb1
    have z2 := z1.alloc z1.size (.cells C2 62)
    refine bodyPost_ret (results_plan rfl rfl (hZ2.setRow D) HD39.out rfl) rfl ⟨rfl, below_setRowB (below_step z2 z2.size hb2) (by omega) _⟩

set_option maxHeartbeats 800000 in
theorem join_any (fid : Nat) (bd : Bool) (D : Array Value) (h wd r : Nat) (g : Nat → Nat → Nat) (ao : Option Addr) (cap : Nat) (p : List ByteArray) (bo : Option Addr) (capb : Nat) (q : List ByteArray) (w : World)
    (hl : p.length ≤ 1048576) (hs : ∀ s ∈ p, s.size ≤ 1048576) (hc : CellsAt w ao (p.map Value.string)) (hl' : q.length ≤ 1048576) (hs' : ∀ s ∈ q, s.size ≤ 1048576) (hc' : CellsAt w bo (q.map Value.string))
    (eg : ∀ args w, (callFunc fid args).run Try.prog w = .ok (.enter fid args) w) (hD : D.size = 39) (hD1 : D.all (·.oneCell') = true)
    (hch : readOk p = true → readOk q = true → ∀ W, Calls Try.prog fid #[.agg (readC p), .agg (readC q)] W fun e W' => e = .returned (.tuple #[.agg D, .bool bd]) ∧ Below W.heap.size W W')
    (hb : bd = true → D = planC h wd r g ∧ h ≤ 6 ∧ wd ≤ 6 ∧ ∀ i j, g i j ≤ 100) :
    Calls Try.prog 110 #[.slice ao p.length cap, .slice bo q.length capb, .func (.func fid) #[] #[]] w fun e w' => TextsRet w.heap.size (orNone (readOk p && (readOk q && bd)) (rowsT h wd g)) (readOk p && (readOk q && bd)) e w' ∧ Below w.heap.size w w' := by
  have h2 := (HeldB.new w 23 #[.slice bo q.length capb]).alloc (.cells #[.func (.func fid) #[] #[]] 91)
  have h3 := HeldB.new (w.alloc (.cells #[.slice bo q.length capb] 23)) 91 #[.func (.func fid) #[] #[]]
  simp only [World.size_alloc] at h3
  have hb0 : Below w.heap.size w ((w.alloc (.cells #[.slice bo q.length capb] 23)).alloc (.cells #[.func (.func fid) #[] #[]] 91)) := (((Below.refl _ w).alloc (Nat.le_refl _) _).alloc (by simp) _)
  have hc0 := hc.below hb0
  have hc0' := hc'.below hb0
  have HR := Lib.hid (redraw_any 143 #[.pointer (some ⟨w.heap.size, 0, none⟩), .pointer (some ⟨w.heap.size + 1, 0, none⟩)] (readOk q && bd) (ifC (readOk q) D) h wd r g ao cap p
    ((w.alloc (.cells #[.slice bo q.length capb] 23)).alloc (.cells #[.func (.func fid) #[] #[]] 91)) hl hs hc0 Try.call143
    (fun hr W hb => joinChange_any fid bd D w.heap.size (w.heap.size + 1) (readC p) (readC_39 p) bo capb q W hl' hs' (hc0'.below hb) (h2.below hb) (h3.below hb) eg hD hD1 (fun hq W => hch hr hq W))
    (fun hbb => by
      rw [Bool.and_eq_true] at hbb
      rw [ifC_yes hbb.1]
      exact hb hbb.2))
  clear h2 h3 hb hch eg
  generalize (readOk p && (readOk q && bd)) = bb at *
  go_enter Try.func110, Try.ntmps110
  go_wp2_with (go_at_call 86; refine (HR.out).mono ?_; rintro e w1 ⟨⟨ro, rc, rfl, hown1⟩, hb1⟩)
  go_ret2
  exact ⟨⟨ro, rc, rfl, ownsRow_base hown1 hb0.size⟩, below_step hb0 hb0.size hb1⟩

end Go.Proofs.Ytdhnklaflbaeeaa
