/-
  Merged texts: ImplG ImplH.
-/
import Derived.Test.YtpgcpmfemcfoaaaImplCR
import Derived.Test.YtpgcpmfemcfoaaaImplFR
import Derived.Test.YtpgcpmfemcfoaaaNeckR

/-
  The program draws the plan of a list of texts. (Walks.)
-/
namespace Go.Proofs.Ytpgcpmfemcfoaaa
open Go.RowKit

/-- the mark of a cell: its letter's number -/
def markN (p : List ByteArray) (i j : Nat) : Nat := (((p.getD i ByteArray.empty).data.toList.getD j 0).toNat - 97) % 26
theorem markN_lt (p : List ByteArray) (i j : Nat) : markN p i j < 26 := Nat.mod_lt _ (by omega)

theorem smallB_at {l : List UInt8} (h : smallB l = true) {k : Nat} (hk : k < l.length) : 97 ≤ (l.getD k 0).toNat ∧ (l.getD k 0).toNat ≤ 122 := by
  unfold smallB at h
  rw [List.all_eq_true] at h
  have := h _ (getD_mem (0 : UInt8) hk)
  simpa using this

set_option maxHeartbeats 400000 in
theorem nameMark_any (B : Nat) (ao : Option Addr) (n cap : Nat) (p : List ByteArray) (w : World) (hn : p.length = n)
    (hb : w.cell? ⟨B, 0, none⟩ = some (.slice ao n cap)) (hc : CellsAt w ao (p.map Value.string)) (i j : Nat) (hi : i < n) (hj : j < (p.getD i ByteArray.empty).size)
    (hsm : smallB (p.getD i ByteArray.empty).data.toList = true) :
    Calls Try.prog 123 #[.int .i64 i, .int .i64 j, .pointer (some ⟨B, 0, none⟩)] w
      fun e w' => e = .returned (.int .i64 (markN p i j : Nat)) ∧ w' = w := by
  obtain ⟨b, off, rfl, hci⟩ := hc.str i (by omega)
  have h1 := smallB_at hsm (k := j) (by rw [size_list]; exact hj)
  have h2 : markN p i j = ((p.getD i ByteArray.empty).data.toList.getD j 0).toNat - 97 := Nat.mod_eq_of_lt (by omega)
  rw [h2]
  have hidx := at_list (p.getD i ByteArray.empty) j hj
  clear hc hsm h2
  generalize p.getD i ByteArray.empty = s at *
  generalize s.data.toList.getD j 0 = c at *
  go_enter Try.func123, Try.ntmps123
  go_wp2
  go_ret
  exact ⟨ret_int (by omega), rfl⟩

/-- a text is one of small letters and as long as the first one -/
def nrowB (m : Nat) (s : ByteArray) : Bool := decide (s.size = m) && smallB s.data.toList
def nameOkB (p : List ByteArray) : Bool := decide (1 ≤ p.length) && p.all (nrowB (p.getD 0 ByteArray.empty).size)
def wideB (p : List ByteArray) : Nat := (p.getD 0 ByteArray.empty).size
/-- whether a list of texts comes to a plan, and this plan's cells -/
def nameDraw (p : List ByteArray) : Bool := nameOkB p && drawOk p.length (wideB p) (markN p)
def nameC (p : List ByteArray) : Array Value := if nameDraw p then planC p.length (wideB p) (markF p.length (wideB p) (markN p)).length (renG p.length (wideB p) (markN p)) else zeroC

theorem nrowB_size {m : Nat} {s : ByteArray} (h : ¬ s.size = m) : nrowB m s = false := by unfold nrowB; rw [decide_eq_false h]; rfl
theorem nrowB_small {m : Nat} {s : ByteArray} (h : smallB s.data.toList = false) : nrowB m s = false := by unfold nrowB; rw [h, Bool.and_false]
theorem nrowB_ok {m : Nat} {s : ByteArray} (h1 : s.size = m) (h3 : smallB s.data.toList = true) : nrowB m s = true := by unfold nrowB; rw [h3, decide_eq_true h1]; rfl
theorem nrowB_spec {m : Nat} {s : ByteArray} (h : nrowB m s = true) : s.size = m ∧ smallB s.data.toList = true := by
  unfold nrowB at h
  rw [Bool.and_eq_true, decide_eq_true_eq] at h
  exact h

theorem nameOkB_none {p : List ByteArray} (h : ¬ 1 ≤ p.length) : nameOkB p = false := by unfold nameOkB; rw [decide_eq_false h]; rfl
theorem nameOkB_no {p : List ByteArray} {k : Nat} (hk : k < p.length) (h : nrowB (wideB p) (p.getD k ByteArray.empty) = false) : nameOkB p = false := by
  unfold nameOkB
  rw [Bool.and_eq_false_iff]; right
  rw [Bool.eq_false_iff]; intro hh
  rw [List.all_eq_true] at hh
  have := hh _ (getD_mem ByteArray.empty hk)
  unfold wideB at h
  rw [h] at this
  exact Bool.noConfusion this
theorem nameOkB_yes {p : List ByteArray} (h1 : 1 ≤ p.length) (h : ∀ k, k < p.length → nrowB (wideB p) (p.getD k ByteArray.empty) = true) : nameOkB p = true := by
  unfold nameOkB
  rw [decide_eq_true h1, Bool.true_and, List.all_eq_true]
  intro s hs
  obtain ⟨k, hk, rfl⟩ := List.getElem_of_mem hs
  have := h k hk
  simpa [hk, wideB] using this
theorem nameC_no {p : List ByteArray} (h : nameOkB p = false) : nameC p = zeroC ∧ nameDraw p = false := by
  have h2 : nameDraw p = false := by unfold nameDraw; rw [h]; rfl
  exact ⟨by unfold nameC; rw [h2]; rfl, h2⟩
theorem nameC_yes {p : List ByteArray} (h : nameOkB p = true) : nameC p = drawC p.length (wideB p) (markN p) ∧ nameDraw p = drawOk p.length (wideB p) (markN p) := by
  have h2 : nameDraw p = drawOk p.length (wideB p) (markN p) := by unfold nameDraw; rw [h]; rfl
  exact ⟨by unfold nameC drawC; rw [h2]; simp, h2⟩

theorem nameC_39 (p : List ByteArray) : (nameC p).size = 39 := by unfold nameC; split <;> exact planC_size _ _ _ _
theorem nameC_size (p : List ByteArray) : (Try.prog.info? 47).map (·.size) = some (nameC p).size := by rw [nameC_39]; kernel_rfl
theorem nameC_one (p : List ByteArray) : (nameC p).all (·.oneCell') = true := by unfold nameC; split <;> exact planC_one _ _ _ _

theorem ret_plan {C C' : Array Value} {b b' : Bool} (h : C = C') (h2 : b = b') : Ending.returned (.tuple #[.agg C, .bool b]) = .returned (.tuple #[.agg C', .bool b']) := by rw [h, h2]

set_option maxRecDepth 100000 in
set_option maxHeartbeats 1000000 in
theorem namePlan_any (ao : Option Addr) (cap : Nat) (p : List ByteArray) (w : World) (hl : p.length ≤ 1048576) (hs : ∀ s ∈ p, s.size ≤ 1048576) (hc : CellsAt w ao (p.map Value.string)) :
    Calls Try.prog 90 #[.slice ao p.length cap] w
      fun e w' => e = .returned (.tuple #[.agg (nameC p), .bool (nameDraw p)]) ∧ Below w.heap.size w w' := by
  by_cases h1 : 1 ≤ p.length
  · go_enter Try.func90, Try.ntmps90
    go_wp2_with (first
      | (refine wpList_alloc_zero rfl 47 rfl zeroC zero_plan ?_))
    have cB0 : ((w.alloc (.cells #[.slice ao p.length cap] 23)).alloc (.cells zeroC 47)).cell? ⟨w.heap.size, 0, none⟩ = some (.slice ao p.length cap) := cell_below (cell_new w _ _) (below_alloc _ _)
    have hZ0 := HeldB.new (w.alloc (.cells #[.slice ao p.length cap] 23)) 47 zeroC
    have hB0 : Below w.heap.size w ((w.alloc (.cells #[.slice ao p.length cap] 23)).alloc (.cells zeroC 47)) := (below_alloc w _).trans ((below_alloc _ _).mono (by simp))
    have hc0 := hc.below hB0
    rw [World.size_alloc] at hZ0
    have hWs : ((w.alloc (.cells #[.slice ao p.length cap] 23)).alloc (.cells zeroC 47)).heap.size = w.heap.size + 2 := by simp
    obtain ⟨W, hW⟩ : ∃ W, (w.alloc (.cells #[.slice ao p.length cap] 23)).alloc (.cells zeroC 47) = W := ⟨_, rfl⟩
    rw [hW] at cB0 hZ0 hB0 hc0 hWs
    rw [hW]
    obtain ⟨N, hN⟩ : ∃ N, w.heap.size = N := ⟨_, rfl⟩
    rw [hN] at cB0 hZ0 hB0 hWs
    rw [hN]
    clear hW hc
    obtain ⟨b, off, hao, hc00⟩ := hc0.str 0 h1
    subst hao
    have hszs : ∀ k, k < p.length → (p.getD k ByteArray.empty).size ≤ 1048576 := fun k hk => hs _ (getD_mem _ hk)
    have HSZ := Lib.hid hszs; clear hszs
    have HNO := Lib.hid (fun k => @nameOkB_no p k)
    have HC := Lib.hid hc0
    obtain ⟨s0, hs0⟩ : ∃ s0, p.getD 0 ByteArray.empty = s0 := ⟨_, rfl⟩
    have hwide : wideB p = s0.size := by unfold wideB; rw [hs0]
    rw [hs0, Nat.add_zero] at hc00
    have HS0 := Lib.hid hs0; have HWI := Lib.hid hwide
    clear hc0 hs hs0 hwide
    go_loop [12] (fun t => ∃ k : Nat, k ≤ p.length ∧ t = .int .i64 k ∧ ∀ j, j < k → nrowB (wideB p) (p.getD j ByteArray.empty) = true) (fun t => p.length - (intOf t).toNat)
    case atStart => exact ⟨0, Nat.zero_le _, rfl, fun j hj => by omega⟩
    case round =>
      obtain ⟨k, hk, rfl, hall⟩ := hrel
      have HALL := Lib.hid hall; clear hall
      by_cases hlt : k < p.length
      · obtain ⟨b', off', he', hck⟩ := HC.out.str k hlt
        simp only [Option.some.injEq, Addr.mk.injEq, and_true] at he'
        obtain ⟨rfl, rfl⟩ := he'
        have hsk := HSZ.out k hlt
        have HNK := Lib.hid (fun h => HNO.out k hlt h)
        have HST := Lib.hid (fun h => @rows_step (fun j => nrowB (wideB p) (p.getD j ByteArray.empty) = true) k HALL.out h)
        clear HALL
        generalize p.getD k ByteArray.empty = s at *
        by_cases hsz : s.size = s0.size
        · have hne : ((s.size : Int) != (s0.size : Int)) = false := by simp [hsz]
          cases hsm : smallB s.data.toList
          · have HNC := Lib.hid (nameC_no (HNK.out (nrowB_small hsm)))
            have hrow : W.heap[N + 1]? = some (.cells zeroC 47 (0, 0)) := hZ0
            go_wp2_with (first
              | (go_at_call 122; refine (isSmall_any _ _ hsk).mono ?_; rw [hsm]; rintro e w1 ⟨rfl, rfl⟩)
              | (refine wpList_build_as rfl 47 _ rfl zeroC (by simp only [List.map_toArray, List.map_nil]; exact built_zero) ?_)
              | (refine wpList_store_row rfl 47 _ _ rfl _ zeroC rfl rfl _ _ hrow (plan_size _ _ _ _) rfl (planC_one _ _ _ _) ?_))
            refine bodyPost_ret (results_plan rfl rfl (hZ0.setRow zeroC) (planC_size _ _ _ _) rfl) rfl ⟨?_, by (first | rw [hN] | skip); exact below_setRowB hB0 (Nat.le_succ _) _⟩
            exact ret_plan HNC.out.1.symm HNC.out.2.symm
          · go_wp2_with (first
              | (go_at_call 122; refine (isSmall_any _ _ hsk).mono ?_; rw [hsm]; rintro e w1 ⟨rfl, rfl⟩))
            go_round
            case rel => exact ⟨k + 1, by omega, by go_num, HST.out (nrowB_ok (by rw [HWI.out]; exact hsz) hsm)⟩
            case measure => simp [intOf]; omega
        · have hne : ((s.size : Int) != (s0.size : Int)) = true := by simp; omega
          have HNC := Lib.hid (nameC_no (HNK.out (nrowB_size (by rw [HWI.out]; exact hsz))))
          have hrow : W.heap[N + 1]? = some (.cells zeroC 47 (0, 0)) := hZ0
          go_wp2_with (first
            | (refine wpList_build_as rfl 47 _ rfl zeroC (by simp only [List.map_toArray, List.map_nil]; exact built_zero) ?_)
            | (refine wpList_store_row rfl 47 _ _ rfl _ zeroC rfl rfl _ _ hrow (plan_size _ _ _ _) rfl (planC_one _ _ _ _) ?_))
          refine bodyPost_ret (results_plan rfl rfl (hZ0.setRow zeroC) (planC_size _ _ _ _) rfl) rfl ⟨?_, by (first | rw [hN] | skip); exact below_setRowB hB0 (Nat.le_succ _) _⟩
          exact ret_plan HNC.out.1.symm HNC.out.2.symm
      · obtain rfl : k = p.length := by omega
        have hok := nameOkB_yes h1 HALL.out
        have hdr : ∀ d os, Calls Try.prog 75 #[.int .i64 (p.length : Nat), .int .i64 (s0.size : Nat), .func (.func 123) #[] #[.pointer (some ⟨N, 0, none⟩)]] (Sort.grow (redrawn W d) os)
            fun e w'' => e = .returned (.tuple #[.agg (nameC p), .bool (nameDraw p)]) ∧ ∃ q : Regrown, w'' = Sort.grow (redrawn W q.d) q.os := by
          intro d os
          rw [(nameC_yes hok).1, (nameC_yes hok).2, HWI.out]
          refine Calls.regrown_of ?_
          refine drawPlan_any _ _ _ _ _ _ Try.call123 (markN_lt p) ?_
          intro W2 hb2 i j hi hj
          have hb3 := (below_regrown W d os).trans (hb2.mono (below_regrown W d os).size)
          have hrow := nrowB_spec (HALL.out i (by omega))
          refine (nameMark_any N _ p.length cap p W2 rfl (cell_below cB0 hb3) (HC.out.below hb3) i j (by omega) (by rw [hrow.1, HWI.out]; omega) hrow.2).mono ?_
          rintro e w3 ⟨rfl, rfl⟩
          exact ⟨rfl, Below.refl _ _⟩
        have cB1 : ∀ q : Regrown, (Sort.grow (redrawn W q.d) q.os).cell? ⟨N, 0, none⟩ = some (.slice (some ⟨b, off, none⟩) p.length cap) := fun q => cell_regrown cB0 q.d q.os
        have cC1 : ∀ q : Regrown, (Sort.grow (redrawn W q.d) q.os).cell? ⟨b, off, none⟩ = some (.string s0) := fun q => cell_regrown hc00 q.d q.os
        have HDR := Lib.hid hdr; clear hdr
        have HPS := Lib.hid (nameC_size p); have HP39 := Lib.hid (nameC_39 p).symm; have HONE := Lib.hid (nameC_one p)
        have hp0 : 0 < p.length := h1
        go_wp2
        refine wp_region_neck_below 7 #[true, true, true, true, true, true, true, true, false, false, false, false] (by kernel_rfl) (by kernel_rfl) ?_
        simp only [List.take_succ_cons, List.take_zero]
        repeat (quiet_step (exact HDR.out _ _))
        refine wpQuiet_nil ?_
        rintro _ ⟨q, rfl⟩
        have hZq : (Sort.grow (redrawn W q.d) q.os).heap[N + 1]? = some (.cells zeroC 47 (0, 0)) := hZ0.below (below_regrown W q.d q.os)
        refine wpAny_take (i := 8) (v := .agg (nameC p)) rfl (by kernel_rfl) (by kernel_rfl) (by kernel_rfl) (fun _ _ _ h => h) (Or.inl ⟨by rfl, fun w => by go_simp⟩) ?_
        refine wpAny_take (i := 9) (v := .bool (nameDraw p)) rfl (by kernel_rfl) (by kernel_rfl) (by kernel_rfl) (fun _ _ _ h => h) (Or.inl ⟨by rfl, fun w => by go_simp⟩) ?_
        refine wpAny_tail 10 rfl (by kernel_rfl) ?_
        simp only [List.drop_succ_cons, List.drop_zero]
        go_wp2_with (first
          | (refine wpList_store_row rfl 47 _ _ rfl _ (nameC p) rfl rfl _ _ hZq HPS.out HP39.out HONE.out ?_))
        refine bodyPost_ret (results_plan rfl rfl ((HeldB.below hZ0 (below_regrown W q.d q.os)).setRow (nameC p)) HP39.out.symm rfl) rfl ⟨rfl, ?_⟩
        rw [hN]
        exact below_setRowB (below_step hB0 (by omega) (below_regrown W q.d q.os)) (Nat.le_succ _) _
  · have hd : decide ((p.length : Int) < 1) = true := by rw [decide_eq_true_eq]; omega
    have HNC := Lib.hid (nameC_no (nameOkB_none h1))
    have hz := HeldB.new (w.alloc (.cells #[.slice ao p.length cap] 23)) 47 zeroC
    rw [World.size_alloc] at hz
    have HZ := Lib.hid hz; clear hz
    go_enter Try.func90, Try.ntmps90
    go_wp2_with (first
      | (refine wpList_alloc_zero rfl 47 rfl zeroC zero_plan ?_)
      | (refine wpList_build_as rfl 47 _ rfl zeroC (by simp only [List.map_toArray, List.map_nil]; exact built_zero) ?_)
      | (refine wpList_store_new rfl 47 _ _ rfl (w.alloc (.cells #[.slice ao p.length cap] 23)) zeroC _ rfl (by rw [World.size_alloc]; rfl) rfl (plan_size _ _ _ _) rfl (planC_one _ _ _ _) ?_))
    refine bodyPost_ret (results_plan rfl rfl HZ.out (planC_size _ _ _ _) rfl) rfl ⟨?_, (below_alloc w _).trans ((below_alloc _ _).mono (by simp))⟩
    exact ret_plan HNC.out.1.symm HNC.out.2.symm

end Go.Proofs.Ytpgcpmfemcfoaaa

/-
  The program reads a plan. (Walks.)
-/
namespace Go.Proofs.Ytpgcpmfemcfoaaa
open Go.RowKit

/-- the room of each cell of a list of texts -/
def gridG (p : List ByteArray) : Nat → Nat → Nat := renG p.length (wideB p) (markN p)
def gridR (p : List ByteArray) : Nat := (markF p.length (wideB p) (markN p)).length
/-- whether the program takes a list for a plan; its cells -/
def readOk (p : List ByteArray) : Bool := nameDraw p && eqS (rowsT p.length (wideB p) (gridG p)) p
def readC (p : List ByteArray) : Array Value := if readOk p then planC p.length (wideB p) (gridR p) (gridG p) else zeroC

theorem nameC_ok {p : List ByteArray} (h : nameDraw p = true) : nameC p = planC p.length (wideB p) (gridR p) (gridG p) := by unfold nameC; rw [h]; rfl
theorem readC_ok {p : List ByteArray} (h : readOk p = true) : readC p = planC p.length (wideB p) (gridR p) (gridG p) := by unfold readC; rw [h]; rfl
theorem readC_no {p : List ByteArray} (h : readOk p = false) : readC p = zeroC := by unfold readC; rw [h]; rfl
theorem readC_39 (p : List ByteArray) : (readC p).size = 39 := by unfold readC; split <;> exact planC_size _ _ _ _
theorem readC_size (p : List ByteArray) : (Try.prog.info? 47).map (·.size) = some (readC p).size := by rw [readC_39]; kernel_rfl
theorem readC_one (p : List ByteArray) : (readC p).all (·.oneCell') = true := by unfold readC; split <;> exact planC_one _ _ _ _

theorem drawOk_dims {h wd : Int} {m : Nat → Nat → Nat} (hd : drawOk h wd m = true) : (1 ≤ h ∧ h ≤ 6) ∧ (1 ≤ wd ∧ wd ≤ 6) ∧ (markF h.toNat wd.toNat m).length ≤ 9 ∧ filledB h.toNat wd.toNat (renG h.toNat wd.toNat m) = true := by
  unfold drawOk l6B at hd
  simp only [Bool.and_eq_true, decide_eq_true_eq] at hd
  exact ⟨hd.1.1.1, hd.1.1.2, hd.1.2, hd.2⟩
theorem nameDraw_dims {p : List ByteArray} (h : nameDraw p = true) : nameOkB p = true ∧ (1 ≤ p.length ∧ p.length ≤ 6) ∧ (1 ≤ wideB p ∧ wideB p ≤ 6) ∧ gridR p ≤ 9 ∧ filledB p.length (wideB p) (gridG p) = true := by
  unfold nameDraw at h
  rw [Bool.and_eq_true] at h
  have := drawOk_dims h.2
  simp only [Int.toNat_natCast] at this
  exact ⟨h.1, by omega, by omega, this.2.2.1, this.2.2.2⟩
theorem renG_le (h wd : Nat) (m : Nat → Nat → Nat) (i j : Nat) : renG h wd m i j ≤ (markF h wd m).length := by
  unfold renG roomG
  split
  · exact List.idxOf_le_length
  · exact Nat.zero_le _
theorem gridG_le {p : List ByteArray} (h : nameDraw p = true) (i j : Nat) : gridG p i j ≤ 9 := Nat.le_trans (renG_le _ _ _ _ _) (nameDraw_dims h).2.2.2.1

set_option maxRecDepth 100000 in
set_option maxHeartbeats 1000000 in
theorem readPlan_any (ao : Option Addr) (cap : Nat) (p : List ByteArray) (w : World) (hl : p.length ≤ 1048576) (hs : ∀ s ∈ p, s.size ≤ 1048576) (hc : CellsAt w ao (p.map Value.string)) :
    Calls Try.prog 60 #[.slice ao p.length cap] w
      fun e w' => e = .returned (.tuple #[.agg (readC p), .bool (readOk p)]) ∧ Below w.heap.size w w' := by
  have HS39 := Lib.hid (nameC_39 p)
  cases hn : nameDraw p
  · have hrk : readOk p = false := by unfold readOk; rw [hn]; rfl
    have HRC := Lib.hid (readC_no hrk)
    have HRK := Lib.hid hrk; clear hrk
    go_enter Try.func60, Try.ntmps60
    go_wp2_with (first
      | (go_at_call 90; refine (namePlan_any _ _ _ _ hl hs (hc.below (below_alloc w _))).mono ?_; rw [hn]; rintro e w1 ⟨rfl, hb1⟩; have hR := ((HeldB.new w 47 zeroC).below hb1).alloc (.cells (nameC p) 47); have hRr : _ = _ := hR)
      | (refine wpList_alloc_zero rfl 47 rfl zeroC zero_plan ?_)
      | (refine wpList_build_as rfl 47 _ rfl zeroC (by simp only [List.map_toArray, List.map_nil]; exact built_zero) ?_)
      | (refine wpList_store_new rfl 47 _ _ rfl w1 zeroC (nameC p) rfl rfl rfl (nameC_size p) (by rw [HS39.out]; rfl) (nameC_one p) ?_)
      | (refine wpList_store_row rfl 47 _ _ rfl w.heap.size zeroC rfl rfl _ _ hRr (plan_size _ _ _ _) rfl (planC_one _ _ _ _) ?_))
    refine bodyPost_ret (results_plan rfl rfl (hR.setRow zeroC) (planC_size _ _ _ _) rfl) rfl ⟨?_, below_setRowB ?_ (Nat.le_refl _) _⟩
    · exact ret_plan HRC.out.symm HRK.out.symm
    exact ((below_alloc w _).trans (hb1.mono (by simp))).trans ((below_alloc _ _).mono ((below_alloc w _).trans (hb1.mono (by simp))).size)
  · obtain ⟨hok, ⟨hd1, hd2⟩, ⟨hd3, hd4⟩, hd5, hd6⟩ := nameDraw_dims hn
    have hnc := nameC_ok hn
    have hg9 := gridG_le hn
    have hrk : readOk p = eqS (rowsT p.length (wideB p) (gridG p)) p := by unfold readOk; rw [hn, Bool.true_and]
    have hROWS := fun w => rows_any p.length (wideB p) (gridR p) (gridG p) w hd2 hd4 (fun i j => Nat.le_trans (hg9 i j) (by omega : 9 ≤ 100))
    have hrcy := @readC_ok p
    have hone := nameC_one p
    have hsz := nameC_size p
    rw [← hnc] at hROWS hrcy
    obtain ⟨C, hC⟩ : ∃ C, nameC p = C := ⟨_, rfl⟩
    rw [hC] at hROWS hrcy hone hsz HS39
    have hB1 : ∀ w1, Below (w.alloc (.cells zeroC 47)).heap.size (w.alloc (.cells zeroC 47)) w1 → Below w.heap.size w (w1.alloc (.cells C 47)) := fun w1 hb1 =>
      ((below_alloc w _).trans (hb1.mono (by simp))).trans ((below_alloc _ _).mono ((below_alloc w _).trans (hb1.mono (by simp))).size)
    have HB1 := Lib.hid hB1; clear hB1
    have HC := Lib.hid hC
    have HONE := Lib.hid hone; have HSZ := Lib.hid hsz; have HRK := Lib.hid hrk
    have HROWS := Lib.hid hROWS; have HRCY := Lib.hid hrcy
    clear hg9 hnc hone hsz hrk hok hd6 hROWS hrcy hC
    cases he : eqS (rowsT p.length (wideB p) (gridG p)) p
    · have hrk := HRK.out.trans he
      have HRC := Lib.hid (readC_no hrk)
      have HRK2 := Lib.hid hrk; clear hrk
      have HE := Lib.hid he; clear he
      go_enter Try.func60, Try.ntmps60
      go_wp2_with (first
        | (go_at_call 90; refine (namePlan_any _ _ _ _ hl hs (hc.below (below_alloc w _))).mono ?_; rw [hn, HC.out]; rintro e w1 ⟨rfl, hb1⟩; have hR := ((HeldB.new w 47 zeroC).below hb1).alloc (.cells C 47); have hG : (w1.alloc (.cells C 47)).heap[w1.heap.size]? = some (.cells C 47 (0, 0)) := HeldB.new w1 47 C; have hcc := (hc.below (HB1.out w1 hb1)))
        | (refine wpList_alloc_zero rfl 47 rfl zeroC zero_plan ?_)
        | (refine wpList_build_as rfl 47 _ rfl zeroC (by simp only [List.map_toArray, List.map_nil]; exact built_zero) ?_)
        | (refine wpList_store_new rfl 47 _ _ rfl w1 zeroC C rfl rfl rfl HSZ.out (by rw [HS39.out]; rfl) HONE.out ?_)
        | (refine wpList_load_row_guard rfl 47 _ rfl w1.heap.size rfl 47 C (0, 0) _ hG Try.underlying47 rfl HSZ.out ?_)
        | (go_at_call 92; refine (HROWS.out _).mono ?_; rintro e w2 ⟨ro, rc, rfl, hown2, hb2⟩; have hcn := owns_cells hown2; have hR2 := hR.below hb2; have hcc2 := hcc.below hb2)
        | (go_at_call 91; refine (slicesEqual_any _ _ _ _ _ _ _ _ _ (rowsT_len _ _ _) rfl (by rw [rowsT_len]; unfold maxLen; omega) hcn hcc2).mono ?_; rw [HE.out]; rintro e w3 ⟨rfl, hq3⟩; have hR3 := hR2.below (hq3.below _); have hRr : w3.heap[w.heap.size]? = some (.cells zeroC 47 (0, 0)) := hR3)
        | (refine wpList_store_row rfl 47 _ _ rfl w.heap.size zeroC rfl rfl _ _ hRr (plan_size _ _ _ _) rfl (planC_one _ _ _ _) ?_))
      refine bodyPost_ret (results_plan rfl rfl (hR3.setRow zeroC) (planC_size _ _ _ _) rfl) rfl ⟨?_, below_setRowB ?_ (Nat.le_refl _) _⟩
      · exact ret_plan HRC.out.symm HRK2.out.symm
      exact below_step (HB1.out w1 hb1) (HB1.out w1 hb1).size (hb2.trans (hq3.below _))
    · have hrk := HRK.out.trans he
      have HRC := Lib.hid ((HRCY.out hrk))
      have HRK2 := Lib.hid hrk; clear hrk
      have HE := Lib.hid he; clear he
      go_enter Try.func60, Try.ntmps60
      go_wp2_with (first
        | (go_at_call 90; refine (namePlan_any _ _ _ _ hl hs (hc.below (below_alloc w _))).mono ?_; rw [hn, HC.out]; rintro e w1 ⟨rfl, hb1⟩; have hR := ((HeldB.new w 47 zeroC).below hb1).alloc (.cells C 47); have hG : (w1.alloc (.cells C 47)).heap[w1.heap.size]? = some (.cells C 47 (0, 0)) := HeldB.new w1 47 C; have hcc := (hc.below (HB1.out w1 hb1)))
        | (refine wpList_alloc_zero rfl 47 rfl zeroC zero_plan ?_)
        | (refine wpList_store_new rfl 47 _ _ rfl w1 zeroC C rfl rfl rfl HSZ.out (by rw [HS39.out]; rfl) HONE.out ?_)
        | (refine wpList_load_row_guard rfl 47 _ rfl w1.heap.size rfl 47 C (0, 0) _ hG Try.underlying47 rfl HSZ.out ?_)
        | (go_at_call 92; refine (HROWS.out _).mono ?_; rintro e w2 ⟨ro, rc, rfl, hown2, hb2⟩; have hcn := owns_cells hown2; have hR2 := hR.below hb2; have hcc2 := hcc.below hb2)
        | (go_at_call 91; refine (slicesEqual_any _ _ _ _ _ _ _ _ _ (rowsT_len _ _ _) rfl (by rw [rowsT_len]; unfold maxLen; omega) hcn hcc2).mono ?_; rw [HE.out]; rintro e w3 ⟨rfl, hq3⟩; have hR3 := hR2.below (hq3.below _); have hRr : w3.heap[w.heap.size]? = some (.cells zeroC 47 (0, 0)) := hR3; have hG3 : w3.heap[w1.heap.size]? = some (.cells C 47 (0, 0)) := HeldB.below (HeldB.below (HeldB.new w1 47 C) hb2) (hq3.below _))
        | (refine wpList_load_row rfl 47 _ rfl w1.heap.size rfl 47 C (0, 0) _ hG3 Try.underlying47 rfl HSZ.out ?_)
        | (refine wpList_store_row rfl 47 _ _ rfl w.heap.size C rfl rfl _ _ hRr HSZ.out (by rw [HS39.out]; rfl) HONE.out ?_))
      refine bodyPost_ret (results_plan rfl rfl (hR3.setRow C) HS39.out rfl) rfl ⟨?_, below_setRowB ?_ (Nat.le_refl _) _⟩
      · exact ret_plan HRC.out.symm HRK2.out.symm
      exact below_step (HB1.out w1 hb1) (HB1.out w1 hb1).size (hb2.trans (hq3.below _))

end Go.Proofs.Ytpgcpmfemcfoaaa
