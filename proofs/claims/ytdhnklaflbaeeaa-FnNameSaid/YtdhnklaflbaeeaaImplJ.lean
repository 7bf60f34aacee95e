
/-
  The program turns a plan, reads it backwards, exchanges its rows and columns. (Walks.)
-/
import Derived.Test.YtdhnklaflbaeeaaImplI
namespace Go.Proofs.Ytdhnklaflbaeeaa
open Go.RowKit

set_option maxHeartbeats 400000 in
theorem turnMark_any (B h wd r : Nat) (g : Nat → Nat → Nat) (w : World) (hB : HeldB w B 62 (planC h wd r g)) (hh : h ≤ 6) (hw : wd ≤ 6) (i j : Nat) (hi : i < wd) (hj : j < h) :
    Calls Try.prog 135 #[.int .i64 i, .int .i64 j, .pointer (some ⟨B, 0, none⟩)] w
      fun e w' => e = .returned (.int .i64 (g (h - 1 - j) i : Nat)) ∧ Below w.heap.size w w' := by
  have c0 : w.cell? ⟨B, 0, none⟩ = some (.int .i64 h) := (hB.cell 0).trans (planC_0 _ _ _ _)
  obtain ⟨r', hr⟩ : ∃ r', r' = h - 1 - j := ⟨_, rfl⟩
  have hr6 : r' < 6 := by omega
  have e1 : (h : Int) - 1 - (j : Int) = (r' : Int) := by omega
  have cc : w.cell? ⟨B, 3 + r' * 6 + i, none⟩ = some (.int .i64 (g r' i : Nat)) := (hB.cell _).trans (planC_at _ _ _ _ r' i hr6 (by omega))
  rw [← hr]
  have hi6 : i < 6 := by omega
  clear hr hB
  go_enter Try.func135, Try.ntmps135
  go_wp2
  go_ret
  exact ⟨rfl, Below.refl _ _⟩

set_option maxHeartbeats 400000 in
theorem transMark_any (B h wd r : Nat) (g : Nat → Nat → Nat) (w : World) (hB : HeldB w B 62 (planC h wd r g)) (hh : h ≤ 6) (hw : wd ≤ 6) (i j : Nat) (hi : i < wd) (hj : j < h) :
    Calls Try.prog 146 #[.int .i64 i, .int .i64 j, .pointer (some ⟨B, 0, none⟩)] w
      fun e w' => e = .returned (.int .i64 (g j i : Nat)) ∧ Below w.heap.size w w' := by
  have cc : w.cell? ⟨B, 3 + j * 6 + i, none⟩ = some (.int .i64 (g j i : Nat)) := (hB.cell _).trans (planC_at _ _ _ _ j i (by omega) (by omega))
  have hi6 : i < 6 := by omega
  have hj6 : j < 6 := by omega
  clear hB
  go_enter Try.func146, Try.ntmps146
  go_wp2
  go_ret
  exact ⟨rfl, Below.refl _ _⟩

set_option maxHeartbeats 400000 in
theorem flipMark_any (B h wd r : Nat) (g : Nat → Nat → Nat) (w : World) (hB : HeldB w B 62 (planC h wd r g)) (hh : h ≤ 6) (hw : wd ≤ 6) (i j : Nat) (hi : i < h) (hj : j < wd) :
    Calls Try.prog 136 #[.int .i64 i, .int .i64 j, .pointer (some ⟨B, 0, none⟩)] w
      fun e w' => e = .returned (.int .i64 (g i (wd - 1 - j) : Nat)) ∧ Below w.heap.size w w' := by
  have c1 : w.cell? ⟨B, 1, none⟩ = some (.int .i64 wd) := (hB.cell 1).trans (planC_1 _ _ _ _)
  obtain ⟨r', hr⟩ : ∃ r', r' = wd - 1 - j := ⟨_, rfl⟩
  have hr6 : r' < 6 := by omega
  have e1 : (wd : Int) - 1 - (j : Int) = (r' : Int) := by omega
  have cc : w.cell? ⟨B, 3 + i * 6 + r', none⟩ = some (.int .i64 (g i r' : Nat)) := (hB.cell _).trans (planC_at _ _ _ _ i r' (by omega) (by omega))
  rw [← hr]
  have hi6 : i < 6 := by omega
  clear hr hB
  go_enter Try.func136, Try.ntmps136
  go_wp2
  go_quiet (fail)
  go_wp2
  go_ret
  exact ⟨rfl, below_drewN _ _ _⟩

theorem drawC_ok {h wd : Nat} {m : Nat → Nat → Nat} (hd : drawOk h wd m = true) : drawC h wd m = planC h wd (markF h wd m).length (renG h wd m) ∧ h ≤ 6 ∧ wd ≤ 6 ∧ ∀ i j, renG h wd m i j ≤ 100 := by
  obtain ⟨a, b, c, _⟩ := drawOk_iff.1 hd
  refine ⟨?_, by omega, by omega, fun i j => Nat.le_trans (renG_le _ _ _ _ _) (by omega)⟩
  unfold drawC
  rw [hd]
  rfl
theorem drawC_39 (h wd : Int) (m : Nat → Nat → Nat) : (drawC h wd m).size = 39 := by unfold drawC; split <;> exact planC_size _ _ _ _
theorem drawC_size (h wd : Int) (m : Nat → Nat → Nat) : (Try.prog.info? 62).map (·.size) = some (drawC h wd m).size := by rw [drawC_39]; kernel_rfl
theorem drawC_one (h wd : Int) (m : Nat → Nat → Nat) : (drawC h wd m).all (·.oneCell') = true := by unfold drawC; split <;> exact planC_one _ _ _ _

set_option maxHeartbeats 400000 in
theorem turn_any (h wd r : Nat) (g : Nat → Nat → Nat) (w : World) (hh : h ≤ 6) (hw : wd ≤ 6) (hg : ∀ i j, g i j < 26) :
    Calls Try.prog 87 #[.agg (planC h wd r g)] w
      fun e w' => e = .returned (.tuple #[.agg (drawC wd h (fun i j => g (h - 1 - j) i)), .bool (drawOk wd h (fun i j => g (h - 1 - j) i))]) ∧ Below w.heap.size w w' := by
  have HD := Lib.hid (fun (W : World) (hB : HeldB W w.heap.size 62 (planC h wd r g)) => drawPlan_any 135 #[.pointer (some ⟨w.heap.size, 0, none⟩)] wd h (fun i j => g (h - 1 - j) i) W Try.call135 (fun _ _ => hg _ _)
    (fun W2 hb2 i j hi hj => turnMark_any w.heap.size h wd r g W2 (hB.below hb2) hh hw i j (by omega) (by omega)))
  have HS := Lib.hid (drawC_size wd h (fun i j => g (h - 1 - j) i))
  have H39 := Lib.hid (drawC_39 wd h (fun i j => g (h - 1 - j) i))
  have HO := Lib.hid (drawC_one wd h (fun i j => g (h - 1 - j) i))
  have hP := (HeldB.new w 62 (planC h wd r g)).alloc (.cells zeroC 62)
  have hZ := HeldB.new (w.alloc (.cells (planC h wd r g) 62)) 62 zeroC
  rw [World.size_alloc] at hZ
  have hb0 : Below w.heap.size w ((w.alloc (.cells (planC h wd r g) 62)).alloc (.cells zeroC 62)) := (below_alloc w _).trans ((below_alloc _ _).mono (by simp))
  have HP := Lib.hid hP; have HZ := Lib.hid hZ
  have c0 := (hP.cell 0).trans (planC_0 _ _ _ _)
  have c1 := (hP.cell 1).trans (planC_1 _ _ _ _)
  clear hP hZ
  generalize drawC wd h (fun i j => g (h - 1 - j) i) = D at *
  generalize drawOk wd h (fun i j => g (h - 1 - j) i) = b at *
  generalize planC h wd r g = C at *
  go_enter Try.func87, Try.ntmps87
  go_wp2_with (first
    | (refine wpList_alloc_zero rfl 62 rfl zeroC zero_plan ?_)
    | (go_at_call 133; refine (HD.out _ HP.out).mono ?_; rintro e w2 ⟨rfl, hb2⟩; have hZ2 := HZ.out.below hb2; have hrow : w2.heap[w.heap.size + 1]? = some (.cells zeroC 62 (0, 0)) := hZ2)
    | (refine wpList_store_row rfl 62 _ _ rfl (w.heap.size + 1) D rfl rfl _ _ hrow HS.out (by rw [H39.out]; rfl) HO.out ?_))
  refine bodyPost_ret (results_plan rfl rfl (hZ2.setRow D) H39.out rfl) rfl ⟨rfl, below_setRowB (below_step hb0 hb0.size hb2) (Nat.le_succ _) _⟩

set_option maxHeartbeats 400000 in
theorem flip_any (h wd r : Nat) (g : Nat → Nat → Nat) (w : World) (hh : h ≤ 6) (hw : wd ≤ 6) (hg : ∀ i j, g i j < 26) :
    Calls Try.prog 88 #[.agg (planC h wd r g)] w
      fun e w' => e = .returned (.tuple #[.agg (drawC h wd (fun i j => g i (wd - 1 - j))), .bool (drawOk h wd (fun i j => g i (wd - 1 - j)))]) ∧ Below w.heap.size w w' := by
  have HD := Lib.hid (fun (W : World) (hB : HeldB W w.heap.size 62 (planC h wd r g)) => drawPlan_any 136 #[.pointer (some ⟨w.heap.size, 0, none⟩)] h wd (fun i j => g i (wd - 1 - j)) W Try.call136 (fun _ _ => hg _ _)
    (fun W2 hb2 i j hi hj => flipMark_any w.heap.size h wd r g W2 (hB.below hb2) hh hw i j (by omega) (by omega)))
  have HS := Lib.hid (drawC_size h wd (fun i j => g i (wd - 1 - j)))
  have H39 := Lib.hid (drawC_39 h wd (fun i j => g i (wd - 1 - j)))
  have HO := Lib.hid (drawC_one h wd (fun i j => g i (wd - 1 - j)))
  have hP := (HeldB.new w 62 (planC h wd r g)).alloc (.cells zeroC 62)
  have hZ := HeldB.new (w.alloc (.cells (planC h wd r g) 62)) 62 zeroC
  rw [World.size_alloc] at hZ
  have hb0 : Below w.heap.size w ((w.alloc (.cells (planC h wd r g) 62)).alloc (.cells zeroC 62)) := (below_alloc w _).trans ((below_alloc _ _).mono (by simp))
  have HP := Lib.hid hP; have HZ := Lib.hid hZ
  have c0 := (hP.cell 0).trans (planC_0 _ _ _ _)
  have c1 := (hP.cell 1).trans (planC_1 _ _ _ _)
  clear hP hZ
  generalize drawC h wd (fun i j => g i (wd - 1 - j)) = D at *
  generalize drawOk h wd (fun i j => g i (wd - 1 - j)) = b at *
  generalize planC h wd r g = C at *
  go_enter Try.func88, Try.ntmps88
  go_wp2_with (first
    | (refine wpList_alloc_zero rfl 62 rfl zeroC zero_plan ?_)
    | (go_at_call 133; refine (HD.out _ HP.out).mono ?_; rintro e w2 ⟨rfl, hb2⟩; have hZ2 := HZ.out.below hb2; have hrow : w2.heap[w.heap.size + 1]? = some (.cells zeroC 62 (0, 0)) := hZ2)
    | (refine wpList_store_row rfl 62 _ _ rfl (w.heap.size + 1) D rfl rfl _ _ hrow HS.out (by rw [H39.out]; rfl) HO.out ?_))
  refine bodyPost_ret (results_plan rfl rfl (hZ2.setRow D) H39.out rfl) rfl ⟨rfl, below_setRowB (below_step hb0 hb0.size hb2) (Nat.le_succ _) _⟩

set_option maxHeartbeats 400000 in
theorem trans_any (h wd r : Nat) (g : Nat → Nat → Nat) (w : World) (hh : h ≤ 6) (hw : wd ≤ 6) (hg : ∀ i j, g i j < 26) :
    Calls Try.prog 113 #[.agg (planC h wd r g)] w
      fun e w' => e = .returned (.tuple #[.agg (drawC wd h (fun i j => g j i)), .bool (drawOk wd h (fun i j => g j i))]) ∧ Below w.heap.size w w' := by
  have HD := Lib.hid (fun (W : World) (hB : HeldB W w.heap.size 62 (planC h wd r g)) => drawPlan_any 146 #[.pointer (some ⟨w.heap.size, 0, none⟩)] wd h (fun i j => g j i) W Try.call146 (fun _ _ => hg _ _)
    (fun W2 hb2 i j hi hj => transMark_any w.heap.size h wd r g W2 (hB.below hb2) hh hw i j (by omega) (by omega)))
  have HS := Lib.hid (drawC_size wd h (fun i j => g j i))
  have H39 := Lib.hid (drawC_39 wd h (fun i j => g j i))
  have HO := Lib.hid (drawC_one wd h (fun i j => g j i))
  have hP := (HeldB.new w 62 (planC h wd r g)).alloc (.cells zeroC 62)
  have hZ := HeldB.new (w.alloc (.cells (planC h wd r g) 62)) 62 zeroC
  rw [World.size_alloc] at hZ
  have hb0 : Below w.heap.size w ((w.alloc (.cells (planC h wd r g) 62)).alloc (.cells zeroC 62)) := (below_alloc w _).trans ((below_alloc _ _).mono (by simp))
  have HP := Lib.hid hP; have HZ := Lib.hid hZ
  have c0 := (hP.cell 0).trans (planC_0 _ _ _ _)
  have c1 := (hP.cell 1).trans (planC_1 _ _ _ _)
  clear hP hZ
  generalize drawC wd h (fun i j => g j i) = D at *
  generalize drawOk wd h (fun i j => g j i) = b at *
  generalize planC h wd r g = C at *
  go_enter Try.func113, Try.ntmps113
  go_wp2_with (first
    | (refine wpList_alloc_zero rfl 62 rfl zeroC zero_plan ?_)
    | (go_at_call 133; refine (HD.out _ HP.out).mono ?_; rintro e w2 ⟨rfl, hb2⟩; have hZ2 := HZ.out.below hb2; have hrow : w2.heap[w.heap.size + 1]? = some (.cells zeroC 62 (0, 0)) := hZ2)
    | (refine wpList_store_row rfl 62 _ _ rfl (w.heap.size + 1) D rfl rfl _ _ hrow HS.out (by rw [H39.out]; rfl) HO.out ?_))
  refine bodyPost_ret (results_plan rfl rfl (hZ2.setRow D) H39.out rfl) rfl ⟨rfl, below_setRowB (below_step hb0 hb0.size hb2) (Nat.le_succ _) _⟩

end Go.Proofs.Ytdhnklaflbaeeaa
