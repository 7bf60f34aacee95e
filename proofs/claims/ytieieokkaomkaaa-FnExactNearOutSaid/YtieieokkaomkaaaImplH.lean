
/-
  The program reads a plan. (Walks.)
-/
import Derived.Test.YtieieokkaomkaaaImplG
namespace Go.Proofs.Ytieieokkaomkaaa
open Go.RowKit

/-- the room of each cell of a list of texts -/
def gridG (p : List ByteArray) : Nat → Nat → Nat := renG p.length (wideB p) (markN p)
def gridR (p : List ByteArray) : Nat := (markF p.length (wideB p) (markN p)).length
/-- whether the program takes a list for a plan; its cells -/
def readOk (p : List ByteArray) : Bool := nameDraw p && eqS (rowsT p.length (wideB p) (gridG p)) p
def readC (p : List ByteArray) : Array Value := if readOk p then planC p.length (wideB p) (gridR p) (gridG p) else zeroC

theorem nameC_ok {p : List ByteArray} (h : nameDraw p = true) : nameC p = planC p.length (wideB p) (gridR p) (gridG p) := by unfold nameC; rw [h]; rfl
theorem readC_ok {p : List ByteArray} (h : readOk p = true) : readC p = planC p.length (wideB p) (gridR p) (gridG p) := by unfold readC; rw [h]; rfl
theorem readC_no {p : List ByteArray} (h : readOk p = false) : readC p = zeroC := by unfold readC; rw [h]; rfl
theorem readC_39 (p : List ByteArray) : (readC p).size = 39 := by unfold readC; split <;> exact planC_size _ _ _ _
theorem readC_size (p : List ByteArray) : (Try.prog.info? 38).map (·.size) = some (readC p).size := by rw [readC_39]; kernel_rfl
theorem readC_one (p : List ByteArray) : (readC p).all (·.oneCell') = true := by unfold readC; split <;> exact planC_one _ _ _ _

theorem drawOk_dims {h wd : Int} {m : Nat → Nat → Nat} (hd : drawOk h wd m = true) : (1 ≤ h ∧ h ≤ 6) ∧ (1 ≤ wd ∧ wd ≤ 6) ∧ (markF h.toNat wd.toNat m).length ≤ 9 ∧ filledB h.toNat wd.toNat (renG h.toNat wd.toNat m) = true := by
  unfold drawOk l6B at hd
  simp only [Bool.and_eq_true, decide_eq_true_eq] at hd
  exact ⟨hd.1.1.1, hd.1.1.2, hd.1.2, hd.2⟩
theorem nameDraw_dims {p : List ByteArray} (h : nameDraw p = true) : nameOkB p = true ∧ (1 ≤ p.length ∧ p.length ≤ 6) ∧ (1 ≤ wideB p ∧ wideB p ≤ 6) ∧ gridR p ≤ 9 ∧ filledB p.length (wideB p) (gridG p) = true := by
  unfold nameDraw at h
  rw [Bool.and_eq_true] at h
  have := drawOk_dims h.2
  simp only [Int.toNat_natCast] at this
  exact ⟨h.1, by omega, by omega, this.2.2.1, this.2.2.2⟩
theorem renG_le (h wd : Nat) (m : Nat → Nat → Nat) (i j : Nat) : renG h wd m i j ≤ (markF h wd m).length := by
  unfold renG roomG
  split
  · exact List.idxOf_le_length
  · exact Nat.zero_le _
theorem gridG_le {p : List ByteArray} (h : nameDraw p = true) (i j : Nat) : gridG p i j ≤ 9 := Nat.le_trans (renG_le _ _ _ _ _) (nameDraw_dims h).2.2.2.1

set_option maxRecDepth 100000 in
set_option maxHeartbeats 1000000 in
theorem readPlan_any (ao : Option Addr) (cap : Nat) (p : List ByteArray) (w : World) (hl : p.length ≤ 1048576) (hs : ∀ s ∈ p, s.size ≤ 1048576) (hc : CellsAt w ao (p.map Value.string)) :
    Calls Try.prog 27 #[.slice ao p.length cap] w
      fun e w' => e = .returned (.tuple #[.agg (readC p), .bool (readOk p)]) ∧ Below w.heap.size w w' := by
  have HS39 := Lib.hid (nameC_39 p)
  cases hn : nameDraw p
  · have hrk : readOk p = false := by unfold readOk; rw [hn]; rfl
    have HRC := Lib.hid (readC_no hrk)
    have HRK := Lib.hid hrk; clear hrk
    go_enter Try.func27, Try.ntmps27
    go_wp2_with (first
      | (go_at_call 44; refine (namePlan_any _ _ _ _ hl hs (hc.below (below_alloc w _))).mono ?_; rw [hn]; rintro e w1 ⟨rfl, hb1⟩; have hR := ((HeldB.new w 38 zeroC).below hb1).alloc (.cells (nameC p) 38); have hRr : _ = _ := hR)
      | (refine wpList_alloc_zero rfl 38 rfl zeroC zero_plan ?_)
      | (refine wpList_build_as rfl 38 _ rfl zeroC (by simp only [List.map_toArray, List.map_nil]; exact built_zero) ?_)
      | (refine wpList_store_new rfl 38 _ _ rfl w1 zeroC (nameC p) rfl rfl rfl (nameC_size p) (by rw [HS39.out]; rfl) (nameC_one p) ?_)
      | (refine wpList_store_row rfl 38 _ _ rfl w.heap.size zeroC rfl rfl _ _ hRr (plan_size _ _ _ _) rfl (planC_one _ _ _ _) ?_))
    refine bodyPost_ret (results_plan rfl rfl (hR.setRow zeroC) (planC_size _ _ _ _) rfl) rfl ⟨?_, below_setRowB ?_ (Nat.le_refl _) _⟩
    · exact ret_plan HRC.out.symm HRK.out.symm
    exact ((below_alloc w _).trans (hb1.mono (by simp))).trans ((below_alloc _ _).mono ((below_alloc w _).trans (hb1.mono (by simp))).size)
  · obtain ⟨hok, ⟨hd1, hd2⟩, ⟨hd3, hd4⟩, hd5, hd6⟩ := nameDraw_dims hn
    have hnc := nameC_ok hn
    have hg9 := gridG_le hn
    have hrk : readOk p = eqS (rowsT p.length (wideB p) (gridG p)) p := by unfold readOk; rw [hn, Bool.true_and]
    have hROWS := fun w => rows_any p.length (wideB p) (gridR p) (gridG p) w hd2 hd4 (fun i j => Nat.le_trans (hg9 i j) (by omega : 9 ≤ 100))
    have hrcy := @readC_ok p
    have hone := nameC_one p
    have hsz := nameC_size p
    rw [← hnc] at hROWS hrcy
    obtain ⟨C, hC⟩ : ∃ C, nameC p = C := ⟨_, rfl⟩
    rw [hC] at hROWS hrcy hone hsz HS39
    have hB1 : ∀ w1, Below (w.alloc (.cells zeroC 38)).heap.size (w.alloc (.cells zeroC 38)) w1 → Below w.heap.size w (w1.alloc (.cells C 38)) := fun w1 hb1 =>
      ((below_alloc w _).trans (hb1.mono (by simp))).trans ((below_alloc _ _).mono ((below_alloc w _).trans (hb1.mono (by simp))).size)
    have HB1 := Lib.hid hB1; clear hB1
    have HC := Lib.hid hC
    have HONE := Lib.hid hone; have HSZ := Lib.hid hsz; have HRK := Lib.hid hrk
    have HROWS := Lib.hid hROWS; have HRCY := Lib.hid hrcy
    clear hg9 hnc hone hsz hrk hok hd6 hROWS hrcy hC
    cases he : eqS (rowsT p.length (wideB p) (gridG p)) p
    · have hrk := HRK.out.trans he
      have HRC := Lib.hid (readC_no hrk)
      have HRK2 := Lib.hid hrk; clear hrk
      have HE := Lib.hid he; clear he
      go_enter Try.func27, Try.ntmps27
      go_wp2_with (first
        | (go_at_call 44; refine (namePlan_any _ _ _ _ hl hs (hc.below (below_alloc w _))).mono ?_; rw [hn, HC.out]; rintro e w1 ⟨rfl, hb1⟩; have hR := ((HeldB.new w 38 zeroC).below hb1).alloc (.cells C 38); have hG : (w1.alloc (.cells C 38)).heap[w1.heap.size]? = some (.cells C 38 (0, 0)) := HeldB.new w1 38 C; have hcc := (hc.below (HB1.out w1 hb1)))
        | (refine wpList_alloc_zero rfl 38 rfl zeroC zero_plan ?_)
        | (refine wpList_build_as rfl 38 _ rfl zeroC (by simp only [List.map_toArray, List.map_nil]; exact built_zero) ?_)
        | (refine wpList_store_new rfl 38 _ _ rfl w1 zeroC C rfl rfl rfl HSZ.out (by rw [HS39.out]; rfl) HONE.out ?_)
        | (refine wpList_load_row_guard rfl 38 _ rfl w1.heap.size rfl 38 C (0, 0) _ hG Try.underlying38 rfl HSZ.out ?_)
        | (go_at_call 46; refine (HROWS.out _).mono ?_; rintro e w2 ⟨ro, rc, rfl, hown2, hb2⟩; have hcn := owns_cells hown2; have hR2 := hR.below hb2; have hcc2 := hcc.below hb2)
        | (go_at_call 45; refine (slicesEqual_any _ _ _ _ _ _ _ _ _ (rowsT_len _ _ _) rfl (by rw [rowsT_len]; unfold maxLen; omega) hcn hcc2).mono ?_; rw [HE.out]; rintro e w3 ⟨rfl, hq3⟩; have hR3 := hR2.below (hq3.below _); have hRr : w3.heap[w.heap.size]? = some (.cells zeroC 38 (0, 0)) := hR3)
        | (refine wpList_store_row rfl 38 _ _ rfl w.heap.size zeroC rfl rfl _ _ hRr (plan_size _ _ _ _) rfl (planC_one _ _ _ _) ?_))
      refine bodyPost_ret (results_plan rfl rfl (hR3.setRow zeroC) (planC_size _ _ _ _) rfl) rfl ⟨?_, below_setRowB ?_ (Nat.le_refl _) _⟩
      · exact ret_plan HRC.out.symm HRK2.out.symm
      exact below_step (HB1.out w1 hb1) (HB1.out w1 hb1).size (hb2.trans (hq3.below _))
    · have hrk := HRK.out.trans he
      have HRC := Lib.hid ((HRCY.out hrk))
      have HRK2 := Lib.hid hrk; clear hrk
      have HE := Lib.hid he; clear he
      go_enter Try.func27, Try.ntmps27
      go_wp2_with (first
        | (go_at_call 44; refine (namePlan_any _ _ _ _ hl hs (hc.below (below_alloc w _))).mono ?_; rw [hn, HC.out]; rintro e w1 ⟨rfl, hb1⟩; have hR := ((HeldB.new w 38 zeroC).below hb1).alloc (.cells C 38); have hG : (w1.alloc (.cells C 38)).heap[w1.heap.size]? = some (.cells C 38 (0, 0)) := HeldB.new w1 38 C; have hcc := (hc.below (HB1.out w1 hb1)))
        | (refine wpList_alloc_zero rfl 38 rfl zeroC zero_plan ?_)
        | (refine wpList_store_new rfl 38 _ _ rfl w1 zeroC C rfl rfl rfl HSZ.out (by rw [HS39.out]; rfl) HONE.out ?_)
        | (refine wpList_load_row_guard rfl 38 _ rfl w1.heap.size rfl 38 C (0, 0) _ hG Try.underlying38 rfl HSZ.out ?_)
        | (go_at_call 46; refine (HROWS.out _).mono ?_; rintro e w2 ⟨ro, rc, rfl, hown2, hb2⟩; have hcn := owns_cells hown2; have hR2 := hR.below hb2; have hcc2 := hcc.below hb2)
        | (go_at_call 45; refine (slicesEqual_any _ _ _ _ _ _ _ _ _ (rowsT_len _ _ _) rfl (by rw [rowsT_len]; unfold maxLen; omega) hcn hcc2).mono ?_; rw [HE.out]; rintro e w3 ⟨rfl, hq3⟩; have hR3 := hR2.below (hq3.below _); have hRr : w3.heap[w.heap.size]? = some (.cells zeroC 38 (0, 0)) := hR3; have hG3 : w3.heap[w1.heap.size]? = some (.cells C 38 (0, 0)) := HeldB.below (HeldB.below (HeldB.new w1 38 C) hb2) (hq3.below _))
        | (refine wpList_load_row rfl 38 _ rfl w1.heap.size rfl 38 C (0, 0) _ hG3 Try.underlying38 rfl HSZ.out ?_)
        | (refine wpList_store_row rfl 38 _ _ rfl w.heap.size C rfl rfl _ _ hRr HSZ.out (by rw [HS39.out]; rfl) HONE.out ?_))
      refine bodyPost_ret (results_plan rfl rfl (hR3.setRow C) HS39.out rfl) rfl ⟨?_, below_setRowB ?_ (Nat.le_refl _) _⟩
      · exact ret_plan HRC.out.symm HRK2.out.symm
      exact below_step (HB1.out w1 hb1) (HB1.out w1 hb1).size (hb2.trans (hq3.below _))

end Go.Proofs.Ytieieokkaomkaaa
