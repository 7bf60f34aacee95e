/-
  The program makes two rooms one. (Walks.)
-/
import Derived.Test.YthboiobapmagcaaImplW
namespace Go.Proofs.Ythboiobapmagcaa
open Go.RowKit

/-- whether a number is that of one of so many rooms -/
def hasB (r : Nat) (room : Int) : Bool := decide (0 ≤ room) && decide (room < (r : Int))
theorem hasB_iff {r : Nat} {room : Int} : hasB r room = true ↔ 0 ≤ room ∧ room < (r : Int) := by unfold hasB; simp

set_option maxHeartbeats 400000 in
theorem hasRoom_any (h wd r : Nat) (g : Nat → Nat → Nat) (room : Int) (w : World) :
    Calls Try.prog 107 #[.agg (planC h wd r g), .int .i64 room] w fun e w' => e = .returned (.bool (hasB r room)) ∧ Below w.heap.size w w' := by
  have hP := HeldB.new w 51 (planC h wd r g)
  have c2 := (hP.cell 2).trans (planC_2 _ _ _ _)
  clear hP
  generalize planC h wd r g = C at *
  by_cases h0 : 0 ≤ room
  · by_cases h1 : room < (r : Int)
    · rw [hasB_iff.2 ⟨h0, h1⟩]
      go_enter Try.func107, Try.ntmps107
      go_wp2
      go_ret
      exact ⟨by simp, below_alloc _ _⟩
    · rw [show hasB r room = false by unfold hasB; rw [decide_eq_false h1, Bool.and_false]]
      go_enter Try.func107, Try.ntmps107
      go_wp2
      go_ret
      exact ⟨by simp, below_alloc _ _⟩
  · rw [show hasB r room = false by unfold hasB; rw [decide_eq_false h0, Bool.false_and]]
    have hd0 : decide (0 ≤ room) = false := decide_eq_false h0
    go_enter Try.func107, Try.ntmps107
    go_wp2
    go_ret
    exact ⟨by simp, below_alloc _ _⟩

/-- marks with one room's number for another's -/
def mergeM (g : Nat → Nat → Nat) (a b i j : Nat) : Nat := if g i j = b then a else g i j
theorem mergeM_yes {g : Nat → Nat → Nat} {a b i j : Nat} (h : g i j = b) : mergeM g a b i j = a := if_pos h
theorem mergeM_no {g : Nat → Nat → Nat} {a b i j : Nat} (h : ¬ g i j = b) : mergeM g a b i j = g i j := if_neg h

set_option maxHeartbeats 400000 in
theorem mergeMark_any (B KB KA h wd r a b : Nat) (g : Nat → Nat → Nat) (w : World) (hB : HeldB w B 51 (planC h wd r g)) (hKB : HeldB w KB 3 #[.int .i64 b]) (hKA : HeldB w KA 3 #[.int .i64 a]) (hh : h ≤ 6) (hw : wd ≤ 6) (i j : Nat) (hi : i < h) (hj : j < wd) :
    Calls Try.prog 108 #[.int .i64 i, .int .i64 j, .pointer (some ⟨B, 0, none⟩), .pointer (some ⟨KB, 0, none⟩), .pointer (some ⟨KA, 0, none⟩)] w
      fun e w' => e = .returned (.int .i64 (mergeM g a b i j : Nat)) ∧ Below w.heap.size w w' := by
  have cB : w.cell? ⟨KB, 0, none⟩ = some (.int .i64 b) := hKB.cell 0
  have cA : w.cell? ⟨KA, 0, none⟩ = some (.int .i64 a) := hKA.cell 0
  have hi6 : i < 6 := by omega
  have hj6 : j < 6 := by omega
  have cc : w.cell? ⟨B, 3 + i * 6 + j, none⟩ = some (.int .i64 (g i j : Nat)) := (hB.cell _).trans (planC_at _ _ _ _ i j hi6 hj6)
  clear hB hKB hKA
  by_cases hx : g i j = b
  · rw [mergeM_yes hx]
    have hbe : (((g i j : Nat) : Int) == (b : Int)) = true := beq_iff_eq.2 (by omega)
    clear hx
    generalize g i j = x at *
    go_enter Try.func108, Try.ntmps108
    go_wp2
    go_quiet (fail)
    go_wp2
    go_ret
    exact ⟨rfl, below_drewN _ _ _⟩
  · rw [mergeM_no hx]
    have hbe : (((g i j : Nat) : Int) == (b : Int)) = false := beq_eq_false_iff_ne.2 (by omega)
    clear hx
    generalize g i j = x at *
    go_enter Try.func108, Try.ntmps108
    go_wp2
    go_quiet (fail)
    go_wp2
    go_ret
    exact ⟨rfl, below_drewN _ _ _⟩

/-- whether two numbers are those of two rooms -/
def twoB (r : Nat) (a b : Int) : Bool := !(a == b) && (hasB r a && hasB r b)

set_option maxHeartbeats 800000 in
theorem merge_any (h wd r : Nat) (g : Nat → Nat → Nat) (a b : Int) (w : World) (hh : h ≤ 6) (hw : wd ≤ 6) (hr : r ≤ 9) (hg : ∀ i j, g i j < 26) :
    Calls Try.prog 87 #[.agg (planC h wd r g), .int .i64 a, .int .i64 b] w
      fun e w' => e = .returned (.tuple #[.agg (ifC (twoB r a b) (drawC h wd (mergeM g a.toNat b.toNat))), .bool (twoB r a b && drawOk h wd (mergeM g a.toNat b.toNat))]) ∧ Below w.heap.size w w' := by
  have hP := (((HeldB.new w 51 (planC h wd r g)).alloc (.cells #[.int .i64 a] 3)).alloc (.cells #[.int .i64 b] 3)).alloc (.cells zeroC 51)
  have hA := ((HeldB.new (w.alloc (.cells (planC h wd r g) 51)) 3 #[.int .i64 a]).alloc (.cells #[.int .i64 b] 3)).alloc (.cells zeroC 51)
  have hB := (HeldB.new ((w.alloc (.cells (planC h wd r g) 51)).alloc (.cells #[.int .i64 a] 3)) 3 #[.int .i64 b]).alloc (.cells zeroC 51)
  have hZ := HeldB.new (((w.alloc (.cells (planC h wd r g) 51)).alloc (.cells #[.int .i64 a] 3)).alloc (.cells #[.int .i64 b] 3)) 51 zeroC
  simp only [World.size_alloc] at hA hB hZ
  have hb0 : Below w.heap.size w ((((w.alloc (.cells (planC h wd r g) 51)).alloc (.cells #[.int .i64 a] 3)).alloc (.cells #[.int .i64 b] 3)).alloc (.cells zeroC 51)) := (((((Below.refl _ w).alloc (Nat.le_refl _) _).alloc (by simp) _).alloc (by simp; omega) _).alloc (by simp; omega) _)
  have cA := hA.cell 0
  have cB := hB.cell 0
  have HHR := Lib.hid (fun room W => hasRoom_any h wd r g room W)
  have hPr : ((((w.alloc (.cells (planC h wd r g) 51)).alloc (.cells #[.int .i64 a] 3)).alloc (.cells #[.int .i64 b] 3)).alloc (.cells zeroC 51)).heap[w.heap.size]? = some (.cells (planC h wd r g) 51 (0, 0)) := hP
  have HPS := Lib.hid (plan_size h wd r g)
  by_cases he : a = b
  · have hbe : (a == b) = true := beq_iff_eq.2 he
    have e1 : twoB r a b = false := by unfold twoB; rw [hbe]; rfl
    rw [ifC_no e1, e1, Bool.false_and]
    have hZr : ((((w.alloc (.cells (planC h wd r g) 51)).alloc (.cells #[.int .i64 a] 3)).alloc (.cells #[.int .i64 b] 3)).alloc (.cells zeroC 51)).heap[w.heap.size + 1 + 1 + 1]? = some (.cells zeroC 51 (0, 0)) := hZ
    clear he e1 hP hA hB
    generalize planC h wd r g = C at *
    go_enter Try.func87, Try.ntmps87
    go_wp2_with (first
      | (refine wpList_alloc_zero rfl 51 rfl zeroC zero_plan ?_)
      | (refine wpList_build_as rfl 51 _ rfl zeroC (by simp only [List.map_toArray, List.map_nil]; exact built_zero) ?_)
      | (refine wpList_store_row rfl 51 _ _ rfl (w.heap.size + 1 + 1 + 1) zeroC rfl rfl _ _ hZr (plan_size _ _ _ _) rfl (planC_one _ _ _ _) ?_))
    refine bodyPost_ret (results_plan rfl rfl (hZ.setRow zeroC) (planC_size _ _ _ _) rfl) rfl ⟨rfl, below_setRowB hb0 (by omega) _⟩
  · have hbe : (a == b) = false := beq_eq_false_iff_ne.2 he
    have HB0 := Lib.hid hb0
    have HA := Lib.hid hA; have HB := Lib.hid hB; have HZ := Lib.hid hZ; have HP := Lib.hid hP
    have c0 := planC_0 h wd r g
    have c1 := planC_1 h wd r g
    have HOK : hasB r a = true → hasB r b = true → Hid (∀ (W : World), HeldB W w.heap.size 51 (planC h wd r g) → HeldB W (w.heap.size + 1) 3 #[.int .i64 a] → HeldB W (w.heap.size + 1 + 1) 3 #[.int .i64 b] →
        Calls Try.prog 94 #[.int .i64 h, .int .i64 wd, .func (.func 108) #[] #[.pointer (some ⟨w.heap.size, 0, none⟩), .pointer (some ⟨w.heap.size + 1 + 1, 0, none⟩), .pointer (some ⟨w.heap.size + 1, 0, none⟩)]] W
          fun e w' => e = .returned (.tuple #[.agg (drawC h wd (mergeM g a.toNat b.toNat)), .bool (drawOk h wd (mergeM g a.toNat b.toNat))]) ∧ Below W.heap.size W w') := fun ha hb => by
      rw [hasB_iff] at ha hb
      obtain ⟨an, rfl⟩ : ∃ n : Nat, a = (n : Int) := ⟨a.toNat, by omega⟩
      obtain ⟨bn, rfl⟩ : ∃ n : Nat, b = (n : Int) := ⟨b.toNat, by omega⟩
      simp only [Int.toNat_natCast]
      exact Lib.hid (fun W h1 h2 h3 => drawPlan_any _ _ h wd (mergeM g an bn) W Try.call108 (fun i j => by unfold mergeM; split <;> first | exact hg _ _ | omega)
        (fun W2 hb2 i j hi hj => mergeMark_any w.heap.size (w.heap.size + 1 + 1) (w.heap.size + 1) h wd r an bn g W2 (h1.below hb2) (h3.below hb2) (h2.below hb2) hh hw i j (by omega) (by omega)))
    have HS := Lib.hid (drawC_size h wd (mergeM g a.toNat b.toNat))
    have H39 := Lib.hid (drawC_39 h wd (mergeM g a.toNat b.toNat))
    have HO := Lib.hid (drawC_one h wd (mergeM g a.toNat b.toNat))
    clear he hP hA hB hZ hb0
    generalize drawC h wd (mergeM g a.toNat b.toNat) = D at *
    generalize drawOk h wd (mergeM g a.toNat b.toNat) = bd at *
    generalize planC h wd r g = C at *
    cases hha : hasB r a
    · have e1 : twoB r a b = false := by unfold twoB; rw [hha, Bool.false_and, Bool.and_false]
      rw [ifC_no e1, e1, Bool.false_and]
      clear e1 HOK
      go_enter Try.func87, Try.ntmps87
      go_wp2_with (first
        | (refine wpList_alloc_zero rfl 51 rfl zeroC zero_plan ?_)
        | (refine wpList_load_row_guard rfl 51 _ rfl w.heap.size rfl 51 C (0, 0) _ hPr Try.underlying51 rfl HPS.out ?_)
        | (go_at_call 107; refine (HHR.out _ _).mono ?_; rw [hha]; rintro e w1 ⟨rfl, hb1⟩; have hZ1 := HZ.out.below hb1; have hrow : w1.heap[w.heap.size + 1 + 1 + 1]? = some (.cells zeroC 51 (0, 0)) := hZ1)
        | (refine wpList_build_as rfl 51 _ rfl zeroC (by simp only [List.map_toArray, List.map_nil]; exact built_zero) ?_)
        | (refine wpList_store_row rfl 51 _ _ rfl (w.heap.size + 1 + 1 + 1) zeroC rfl rfl _ _ hrow (plan_size _ _ _ _) rfl (planC_one _ _ _ _) ?_))
      refine bodyPost_ret (results_plan rfl rfl (hZ1.setRow zeroC) (planC_size _ _ _ _) rfl) rfl ⟨rfl, below_setRowB (below_step HB0.out HB0.out.size hb1) (by omega) _⟩
    · cases hhb : hasB r b
      · have e1 : twoB r a b = false := by unfold twoB; rw [hhb, Bool.and_false, Bool.and_false]
        rw [ifC_no e1, e1, Bool.false_and]
        clear e1 HOK
        go_enter Try.func87, Try.ntmps87
        go_wp2_with (first
          | (refine wpList_alloc_zero rfl 51 rfl zeroC zero_plan ?_)
          | (refine wpList_load_row_guard rfl 51 _ rfl w.heap.size rfl 51 C (0, 0) _ hPr Try.underlying51 rfl HPS.out ?_))
        refine (HHR.out _ _).mono ?_
        rw [hha]
        rintro e w1 ⟨rfl, hb1⟩
        have cB1 := (HB.out.below hb1).cell 0
        have hPr1 : w1.heap[w.heap.size]? = some (.cells C 51 (0, 0)) := HP.out.below hb1
        go_wp2_with (first
          | (refine wpList_load_row_guard rfl 51 _ rfl w.heap.size rfl 51 C (0, 0) _ hPr1 Try.underlying51 rfl HPS.out ?_)
          | (go_at_call 107; refine (HHR.out _ _).mono ?_; rw [hhb]; rintro e w2 ⟨rfl, hb2⟩; have hZ1 := (HZ.out.below hb1).below hb2; have hrow : w2.heap[w.heap.size + 1 + 1 + 1]? = some (.cells zeroC 51 (0, 0)) := hZ1)
          | (refine wpList_build_as rfl 51 _ rfl zeroC (by simp only [List.map_toArray, List.map_nil]; exact built_zero) ?_)
          | (refine wpList_store_row rfl 51 _ _ rfl (w.heap.size + 1 + 1 + 1) zeroC rfl rfl _ _ hrow (plan_size _ _ _ _) rfl (planC_one _ _ _ _) ?_))
        have z1 := below_step HB0.out HB0.out.size hb1
        refine bodyPost_ret (results_plan rfl rfl (hZ1.setRow zeroC) (planC_size _ _ _ _) rfl) rfl ⟨rfl, below_setRowB (below_step z1 z1.size hb2) (by omega) _⟩
      · have e1 : twoB r a b = true := by unfold twoB; rw [hha, hhb, hbe]; rfl
        have HD := HOK hha hhb
        rw [ifC_yes e1, e1, Bool.true_and]
        clear e1 HOK
        go_enter Try.func87, Try.ntmps87
        go_wp2_with (first
          | (refine wpList_alloc_zero rfl 51 rfl zeroC zero_plan ?_)
          | (refine wpList_load_row_guard rfl 51 _ rfl w.heap.size rfl 51 C (0, 0) _ hPr Try.underlying51 rfl HPS.out ?_))
        refine (HHR.out _ _).mono ?_
        rw [hha]
        rintro e w1 ⟨rfl, hb1⟩
        have cB1 := (HB.out.below hb1).cell 0
        have hP1 := HP.out.below hb1
        have hPr1 : w1.heap[w.heap.size]? = some (.cells C 51 (0, 0)) := hP1
        go_wp2_with (first
          | (refine wpList_load_row_guard rfl 51 _ rfl w.heap.size rfl 51 C (0, 0) _ hPr1 Try.underlying51 rfl HPS.out ?_))
        refine (HHR.out _ _).mono ?_
        rw [hhb]
        rintro e w2 ⟨rfl, hb2⟩
        have hP2 := hP1.below hb2
        have hA2 := (HA.out.below hb1).below hb2
        have hB2 := (HB.out.below hb1).below hb2
        have hZ2 := (HZ.out.below hb1).below hb2
        have d0 := (hP2.cell 0).trans c0
        have d1 := (hP2.cell 1).trans c1
        have HP2 := Lib.hid hP2; have HA2 := Lib.hid hA2; have HB2 := Lib.hid hB2; have HZ2 := Lib.hid hZ2
        clear hP2 hA2 hB2 hZ2 c0 c1 hP1 hPr1
        go_wp2_with (first
          | (go_at_call 94; refine (HD.out _ HP2.out HA2.out HB2.out).mono ?_; rintro e w3 ⟨rfl, hb3⟩; have hZ3 := HZ2.out.below hb3; have hrow : w3.heap[w.heap.size + 1 + 1 + 1]? = some (.cells zeroC 51 (0, 0)) := hZ3)
          | (refine wpList_store_row rfl 51 _ _ rfl (w.heap.size + 1 + 1 + 1) D rfl rfl _ _ hrow HS.out (by rw [H39.out]; rfl) HO.out ?_))
        have z1 := below_step HB0.out HB0.out.size hb1
        have z2 := below_step z1 z1.size hb2
        refine bodyPost_ret (results_plan rfl rfl (hZ3.setRow D) H39.out rfl) rfl ⟨rfl, below_setRowB (below_step z2 z2.size hb3) (by omega) _⟩

set_option maxHeartbeats 400000 in
theorem mergeChange_any (KA KB h wd r : Nat) (g : Nat → Nat → Nat) (a b : Int) (w : World) (hA : HeldB w KA 3 #[.int .i64 a]) (hB : HeldB w KB 3 #[.int .i64 b]) (hh : h ≤ 6) (hw : wd ≤ 6) (hr : r ≤ 9) (hg : ∀ i j, g i j < 26) :
    Calls Try.prog 86 #[.agg (planC h wd r g), .pointer (some ⟨KA, 0, none⟩), .pointer (some ⟨KB, 0, none⟩)] w
      fun e w' => e = .returned (.tuple #[.agg (ifC (twoB r a b) (drawC h wd (mergeM g a.toNat b.toNat))), .bool (twoB r a b && drawOk h wd (mergeM g a.toNat b.toNat))]) ∧ Below w.heap.size w w' := by
  have HW := Lib.hid (fun W => merge_any h wd r g a b W hh hw hr hg)
  have HPS := Lib.hid (plan_size h wd r g)
  have hD := drawC_39 h wd (mergeM g a.toNat b.toNat)
  have hO := drawC_one h wd (mergeM g a.toNat b.toNat)
  have H39 := Lib.hid (ifC_39 (twoB r a b) hD)
  have HS := Lib.hid (ifC_size (twoB r a b) hD)
  have HO := Lib.hid (ifC_one (twoB r a b) hO)
  clear hD hO
  have hP := (HeldB.new w 51 (planC h wd r g)).alloc (.cells zeroC 51)
  have hPr : ((w.alloc (.cells (planC h wd r g) 51)).alloc (.cells zeroC 51)).heap[w.heap.size]? = some (.cells (planC h wd r g) 51 (0, 0)) := hP
  have hZ := HeldB.new (w.alloc (.cells (planC h wd r g) 51)) 51 zeroC
  simp only [World.size_alloc] at hZ
  have hb0 : Below w.heap.size w ((w.alloc (.cells (planC h wd r g) 51)).alloc (.cells zeroC 51)) := (((Below.refl _ w).alloc (Nat.le_refl _) _).alloc (by simp) _)
  have cA := ((hA.alloc (.cells (planC h wd r g) 51)).alloc (.cells zeroC 51)).cell 0
  have cB := ((hB.alloc (.cells (planC h wd r g) 51)).alloc (.cells zeroC 51)).cell 0
  have HZ := Lib.hid hZ
  clear hP hZ hA hB
  generalize ifC (twoB r a b) (drawC h wd (mergeM g a.toNat b.toNat)) = D at *
  generalize (twoB r a b && drawOk h wd (mergeM g a.toNat b.toNat)) = bb at *
  generalize planC h wd r g = C at *
  go_enter Try.func86, Try.ntmps86
  go_wp2_with (first
    | (refine wpList_alloc_zero rfl 51 rfl zeroC zero_plan ?_)
    | (refine wpList_load_row rfl 51 _ rfl w.heap.size rfl 51 C (0, 0) _ hPr Try.underlying51 rfl HPS.out ?_)
    | (go_at_call 87; refine (HW.out _).mono ?_; rintro e w2 ⟨rfl, hb2⟩; have hZ2 := HZ.out.below hb2; have hrow : w2.heap[w.heap.size + 1]? = some (.cells zeroC 51 (0, 0)) := hZ2)
    | (refine wpList_store_row rfl 51 _ _ rfl (w.heap.size + 1) D rfl rfl _ _ hrow HS.out (by rw [H39.out]; rfl) HO.out ?_))
  refine bodyPost_ret (results_plan rfl rfl (hZ2.setRow D) H39.out rfl) rfl ⟨rfl, below_setRowB (below_step hb0 hb0.size hb2) (by omega) _⟩

end Go.Proofs.Ythboiobapmagcaa
