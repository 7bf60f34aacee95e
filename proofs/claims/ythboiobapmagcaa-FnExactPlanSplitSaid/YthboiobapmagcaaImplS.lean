/-
  The program cuts a room. (Walks.)
-/
import Derived.Test.YthboiobapmagcaaImplW
import Derived.Test.YthboiobapmagcaaImplK
import Derived.Test.YthboiobapmagcaaPutA
namespace Go.Proofs.Ythboiobapmagcaa
open Go.RowKit

def boxC (row col hi wi : Nat) : Array Value := #[.int .i64 row, .int .i64 col, .int .i64 hi, .int .i64 wi]

set_option maxHeartbeats 1000000 in
theorem has_any (row col hi wi i j : Nat) (w : World) (h1 : row + hi ≤ 6) (h2 : col + wi ≤ 6) (hi6 : i < 6) (hj6 : j < 6) :
    Calls Try.prog 106 #[.agg (boxC row col hi wi), .int .i64 i, .int .i64 j] w fun e w' => e = .returned (.bool (inB row col hi wi i j)) ∧ Below w.heap.size w w' := by
  have hP := HeldB.new w 57 (boxC row col hi wi)
  have c0 : (w.alloc (.cells (boxC row col hi wi) 57)).cell? ⟨w.heap.size, 0, none⟩ = some (.int .i64 row) := hP.cell 0
  have c1 : (w.alloc (.cells (boxC row col hi wi) 57)).cell? ⟨w.heap.size, 1, none⟩ = some (.int .i64 col) := hP.cell 1
  have c2 : (w.alloc (.cells (boxC row col hi wi) 57)).cell? ⟨w.heap.size, 2, none⟩ = some (.int .i64 hi) := hP.cell 2
  have c3 : (w.alloc (.cells (boxC row col hi wi) 57)).cell? ⟨w.heap.size, 3, none⟩ = some (.int .i64 wi) := hP.cell 3
  clear hP
  obtain ⟨v, hv⟩ : ∃ v, v = inB row col hi wi i j := ⟨_, rfl⟩
  rw [← hv]
  generalize boxC row col hi wi = C at *
  by_cases q1 : row ≤ i
  · by_cases q2 : i < row + hi
    · by_cases q3 : col ≤ j
      · by_cases q4 : j < col + wi
        · obtain rfl : v = true := by rw [hv]; unfold inB; rw [decide_eq_true]; omega
          clear hv
          go_enter Try.func106, Try.ntmps106
          go_wp2
          go_ret
          exact ⟨by first | (simp; done) | (simp; omega), below_alloc _ _⟩
        · obtain rfl : v = false := by rw [hv]; unfold inB; rw [decide_eq_false]; omega
          clear hv
          go_enter Try.func106, Try.ntmps106
          go_wp2
          go_ret
          exact ⟨by first | (simp; done) | (simp; omega), below_alloc _ _⟩
      · obtain rfl : v = false := by rw [hv]; unfold inB; rw [decide_eq_false]; omega
        clear hv
        go_enter Try.func106, Try.ntmps106
        go_wp2
        go_ret
        exact ⟨by first | (simp; done) | (simp; omega), below_alloc _ _⟩
    · obtain rfl : v = false := by rw [hv]; unfold inB; rw [decide_eq_false]; omega
      clear hv
      go_enter Try.func106, Try.ntmps106
      go_wp2
      go_ret
      exact ⟨by first | (simp; done) | (simp; omega), below_alloc _ _⟩
  · obtain rfl : v = false := by rw [hv]; unfold inB; rw [decide_eq_false]; omega
    clear hv
    go_enter Try.func106, Try.ntmps106
    go_wp2
    go_ret
    exact ⟨by first | (simp; done) | (simp; omega), below_alloc _ _⟩

/-- rows and columns of a part -/
structure Pt where
  row : Nat
  col : Nat
  high : Nat
  wide : Nat
/-- marks with a part apart -/
def splitM (g : Nat → Nat → Nat) (y : Pt) (i j : Nat) : Nat := if inB y.row y.col y.high y.wide i j then 9 else g i j

set_option maxHeartbeats 400000 in
theorem splitMark_any (B K h wd r : Nat) (y : Pt) (g : Nat → Nat → Nat) (w : World) (hB : HeldB w B 51 (planC h wd r g)) (hK : HeldB w K 57 (boxC y.row y.col y.high y.wide)) (h1 : y.row + y.high ≤ 6) (h2 : y.col + y.wide ≤ 6) (hh : h ≤ 6) (hw : wd ≤ 6) (i j : Nat) (hi : i < h) (hj : j < wd) :
    Calls Try.prog 105 #[.int .i64 i, .int .i64 j, .pointer (some ⟨K, 0, none⟩), .pointer (some ⟨B, 0, none⟩)] w
      fun e w' => e = .returned (.int .i64 (splitM g y i j : Nat)) ∧ Below w.heap.size w w' := by
  have hi6 : i < 6 := by omega
  have hj6 : j < 6 := by omega
  have HH := Lib.hid (fun W => has_any y.row y.col y.high y.wide i j W h1 h2 hi6 hj6)
  have HSZ : (Try.prog.info? 57).map (·.size) = some (boxC y.row y.col y.high y.wide).size := by kernel_rfl
  have HS := Lib.hid HSZ; clear HSZ
  have hKr : w.heap[K]? = some (.cells (boxC y.row y.col y.high y.wide) 57 (0, 0)) := hK
  obtain ⟨v, hv⟩ : ∃ v, splitM g y i j = v := ⟨_, rfl⟩
  have hcc := planC_at h wd r g i j hi6 hj6
  rw [hv]
  cases hb : inB y.row y.col y.high y.wide i j
  · have hx : g i j = v := by rw [← hv]; unfold splitM; rw [hb]; rfl
    rw [hx] at hcc
    have HBB := Lib.hid hB
    clear hv hx hB
    generalize boxC y.row y.col y.high y.wide = D at *
    generalize planC h wd r g = C at *
    go_enter Try.func105, Try.ntmps105
    go_wp2_with (first
      | (refine wpList_load_row rfl 57 _ rfl K rfl 57 D (0, 0) _ hKr Try.underlying57 rfl HS.out ?_)
      | (go_at_call 106; refine (HH.out _).mono ?_; rw [hb]; rintro e w1 ⟨rfl, hb1⟩; have cc : w1.cell? ⟨B, 3 + i * 6 + j, none⟩ = some (.int .i64 v) := ((HBB.out.below hb1).cell _).trans hcc))
    go_ret
    exact ⟨rfl, hb1⟩
  · have hx : 9 = v := by rw [← hv]; unfold splitM; rw [hb]; rfl
    subst hx
    clear hv hB
    generalize boxC y.row y.col y.high y.wide = D at *
    go_enter Try.func105, Try.ntmps105
    go_wp2_with (first
      | (refine wpList_load_row rfl 57 _ rfl K rfl 57 D (0, 0) _ hKr Try.underlying57 rfl HS.out ?_)
      | (go_at_call 106; refine (HH.out _).mono ?_; rw [hb]; rintro e w1 ⟨rfl, hb1⟩))
    go_ret
    exact ⟨rfl, hb1⟩

/-- the part of a box ahead of a cut -/
def isH (letter : ByteArray) : Bool := letter.toList == [104]
def isV (letter : ByteArray) : Bool := letter.toList == [118]
def cutB (is : Bool) (k : Int) (n : Nat) : Bool := is && (decide (1 ≤ k) && decide (k < (n : Int)))
def partB (x : Bx) (letter : ByteArray) (k : Int) : Option Pt :=
  if cutB (isH letter) k x.high then some ⟨x.row, x.col, k.toNat, x.wide⟩
  else if cutB (isV letter) k x.wide then some ⟨x.row, x.col, x.high, k.toNat⟩
  else none
def splitC (h wd : Nat) (g : Nat → Nat → Nat) (o : Option Pt) : Array Value := match o with | some y => drawC h wd (splitM g y) | none => zeroC
def splitOk (h wd : Nat) (g : Nat → Nat → Nat) (o : Option Pt) : Bool := match o with | some y => drawOk h wd (splitM g y) | none => false
theorem cutB_yes {is : Bool} {k : Int} {n : Nat} (h : cutB is k n = true) : is = true ∧ 1 ≤ k ∧ k < (n : Int) := by
  unfold cutB at h
  simpa using h
theorem cutB_why {is : Bool} {k : Int} {n : Nat} (h : cutB is k n = false) : is = false ∨ (is = true ∧ decide (1 ≤ k) = false) ∨ (is = true ∧ decide (1 ≤ k) = true ∧ decide (k < (n : Int)) = false) := by
  unfold cutB at h
  cases is
  · exact .inl rfl
  · right
    cases h1 : decide (1 ≤ k)
    · exact .inl ⟨rfl, rfl⟩
    · rw [h1] at h
      exact .inr ⟨rfl, rfl, by simpa using h⟩

theorem found_one (o : Option Bx) : (foundC o).all (·.oneCell') = true := by
  rw [Array.all_eq_true_iff_forall_mem]
  intro v hv
  cases o <;> simp [foundC] at hv <;> rcases hv with rfl | rfl | rfl | rfl <;> rfl
theorem boxC_one (a b c d : Nat) : (boxC a b c d).all (·.oneCell') = true := by
  rw [Array.all_eq_true_iff_forall_mem]
  intro v hv
  simp [boxC] at hv
  rcases hv with rfl | rfl | rfl | rfl <;> rfl
theorem isV_not {letter : ByteArray} (h : isV letter = true) : isH letter = false := by
  unfold isV at h
  unfold isH
  rw [beq_iff_eq] at h
  rw [h]
  rfl
theorem isH_not {letter : ByteArray} (h : isH letter = true) : isV letter = false := by
  unfold isH at h
  unfold isV
  rw [beq_iff_eq] at h
  rw [h]
  rfl
def zeroB : Array Value := #[.int .i64 0, .int .i64 0, .int .i64 0, .int .i64 0]

set_option maxHeartbeats 800000 in
theorem split_none (h wd r : Nat) (g : Nat → Nat → Nat) (room k : Int) (letter : ByteArray) (w : World) (hh : h ≤ 6) (hw : wd ≤ 6) (ho : findB (scanB h wd g (h * wd)) room = none) :
    Calls Try.prog 85 #[.agg (planC h wd r g), .int .i64 room, .string letter, .int .i64 k] w
      fun e w' => e = .returned (.tuple #[.agg zeroC, .bool false]) ∧ Below w.heap.size w w' := by
  have HBO := Lib.hid (fun w => by have := boxOf_any h wd r g hh hw room w; rw [ho] at this; exact this)
  have HPS := Lib.hid (plan_size h wd r g)
  have hP := (HeldB.new w 51 (planC h wd r g)).alloc (.cells zeroC 51)
  have hPr : ((w.alloc (.cells (planC h wd r g) 51)).alloc (.cells zeroC 51)).heap[w.heap.size]? = some (.cells (planC h wd r g) 51 (0, 0)) := hP
  have hZ := HeldB.new (w.alloc (.cells (planC h wd r g) 51)) 51 zeroC
  simp only [World.size_alloc] at hZ
  have hb0 : Below w.heap.size w ((w.alloc (.cells (planC h wd r g) 51)).alloc (.cells zeroC 51)) := (((Below.refl _ w).alloc (Nat.le_refl _) _).alloc (by simp) _)
  have HZ := Lib.hid hZ
  clear hP hZ
  generalize planC h wd r g = C at *
  go_enter Try.func85, Try.ntmps85
  go_wp2_with (first
    | (refine wpList_alloc_zero rfl 51 rfl zeroC zero_plan ?_)
    | (refine wpList_load_row rfl 51 _ rfl w.heap.size rfl 51 C (0, 0) _ hPr Try.underlying51 rfl HPS.out ?_)
    | (go_at_call 65; refine (HBO.out _).mono ?_; rintro e w1 ⟨rfl, hb1⟩; have hZ1 := (HZ.out.below hb1).alloc (.cells (foundC none) 57); have hrow : (w1.alloc (.cells (foundC none) 57)).heap[w.heap.size + 1]? = some (.cells zeroC 51 (0, 0)) := hZ1)
    | (refine wpList_store_new rfl 57 _ _ rfl w1 zeroB (foundC none) rfl rfl rfl (by kernel_rfl) rfl (found_one _) ?_)
    | (refine wpList_build_as rfl 51 _ rfl zeroC (by simp only [List.map_toArray, List.map_nil]; exact built_zero) ?_)
    | (refine wpList_store_row rfl 51 _ _ rfl (w.heap.size + 1) zeroC rfl rfl _ _ hrow (plan_size _ _ _ _) rfl (planC_one _ _ _ _) ?_))
  have z1 := below_step hb0 hb0.size hb1
  refine bodyPost_ret (results_plan rfl rfl (hZ1.setRow zeroC) (planC_size _ _ _ _) rfl) rfl ⟨rfl, below_setRowB (z1.alloc z1.size _) (by omega) _⟩

set_option maxHeartbeats 1600000 in
theorem split_some (h wd r : Nat) (g : Nat → Nat → Nat) (room k : Int) (letter : ByteArray) (w : World) (hh : h ≤ 6) (hw : wd ≤ 6) (hg : ∀ i j, g i j < 26) (x : Bx) (ho : findB (scanB h wd g (h * wd)) room = some x) :
    Calls Try.prog 85 #[.agg (planC h wd r g), .int .i64 room, .string letter, .int .i64 k] w
      fun e w' => e = .returned (.tuple #[.agg (splitC h wd g (partB x letter k)), .bool (splitOk h wd g (partB x letter k))]) ∧ Below w.heap.size w w' := by
  have HBO := Lib.hid (fun w => by have := boxOf_any h wd r g hh hw room w; rw [ho] at this; exact this)
  have HPS := Lib.hid (plan_size h wd r g)
  have hP := (HeldB.new w 51 (planC h wd r g)).alloc (.cells zeroC 51)
  have hPr : ((w.alloc (.cells (planC h wd r g) 51)).alloc (.cells zeroC 51)).heap[w.heap.size]? = some (.cells (planC h wd r g) 51 (0, 0)) := hP
  have hZ := HeldB.new (w.alloc (.cells (planC h wd r g) 51)) 51 zeroC
  simp only [World.size_alloc] at hZ
  have hb0 : Below w.heap.size w ((w.alloc (.cells (planC h wd r g) 51)).alloc (.cells zeroC 51)) := (((Below.refl _ w).alloc (Nat.le_refl _) _).alloc (by simp) _)
  have HZ := Lib.hid hZ
  have HP := Lib.hid hP
  have c0 := planC_0 h wd r g
  have c1 := planC_1 h wd r g
  have hxr := x.hrow; have hxc := x.hcol
  clear hP hZ ho
  cases hH : cutB (isH letter) k x.high
  · cases hV : cutB (isV letter) k x.wide
    · have e1 : partB x letter k = none := by unfold partB; rw [hH, hV]; rfl
      rw [e1]
      show Calls _ _ _ _ fun e w' => e = .returned (.tuple #[.agg zeroC, .bool false]) ∧ _
      have hways : ((letter.toList == [104]) = true ∧ (letter.toList == [118]) = false ∧ decide (1 ≤ k) = false) ∨ ((letter.toList == [104]) = true ∧ (letter.toList == [118]) = false ∧ decide (1 ≤ k) = true ∧ decide (k < (x.high : Int)) = false) ∨
          ((letter.toList == [104]) = false ∧ (letter.toList == [118]) = false) ∨ ((letter.toList == [104]) = false ∧ (letter.toList == [118]) = true ∧ decide (1 ≤ k) = false) ∨ ((letter.toList == [104]) = false ∧ (letter.toList == [118]) = true ∧ decide (1 ≤ k) = true ∧ decide (k < (x.wide : Int)) = false) := by
        rcases cutB_why hH with f1 | ⟨f1, f2⟩ | ⟨f1, f2, f3⟩
        · rcases cutB_why hV with g1 | ⟨g1, g2⟩ | ⟨g1, g2, g3⟩
          · exact .inr (.inr (.inl ⟨f1, g1⟩))
          · exact .inr (.inr (.inr (.inl ⟨f1, g1, g2⟩)))
          · exact .inr (.inr (.inr (.inr ⟨f1, g1, g2, g3⟩)))
        · exact .inl ⟨f1, isH_not f1, f2⟩
        · exact .inr (.inl ⟨f1, isH_not f1, f2, f3⟩)
      clear hH hV e1 c0 c1 HP
      generalize planC h wd r g = C at *
      rcases hways with ⟨f1, f2, f3⟩ | ⟨f1, f2, f3, f4⟩ | ⟨f1, f2⟩ | ⟨f1, f2, f3⟩ | ⟨f1, f2, f3, f4⟩
      all_goals
        go_enter Try.func85, Try.ntmps85
        go_wp2_with (first
          | (refine wpList_alloc_zero rfl 51 rfl zeroC zero_plan ?_)
          | (refine wpList_load_row rfl 51 _ rfl w.heap.size rfl 51 C (0, 0) _ hPr Try.underlying51 rfl HPS.out ?_))
        refine (HBO.out _).mono ?_
        rintro e w1 ⟨rfl, hb1⟩
        have hX := HeldB.new w1 57 (boxC x.row x.col x.high x.wide)
        have cX2 : (w1.alloc (.cells (boxC x.row x.col x.high x.wide) 57)).cell? ⟨w1.heap.size, 2, none⟩ = some (.int .i64 x.high) := hX.cell 2
        have cX3 : (w1.alloc (.cells (boxC x.row x.col x.high x.wide) 57)).cell? ⟨w1.heap.size, 3, none⟩ = some (.int .i64 x.wide) := hX.cell 3
        have hZ1 := (HZ.out.below hb1).alloc (.cells (boxC x.row x.col x.high x.wide) 57)
        have hrow : (w1.alloc (.cells (boxC x.row x.col x.high x.wide) 57)).heap[w.heap.size + 1]? = some (.cells zeroC 51 (0, 0)) := hZ1
        go_wp2_with (first
          | (refine wpList_store_new rfl 57 _ _ rfl w1 zeroB (boxC x.row x.col x.high x.wide) rfl rfl rfl (by kernel_rfl) rfl (boxC_one _ _ _ _) ?_)
          | (refine wpList_build_as rfl 51 _ rfl zeroC built_zero ?_)
          | (refine wpList_store_row rfl 51 _ _ rfl (w.heap.size + 1) zeroC rfl rfl _ _ hrow (plan_size _ _ _ _) rfl (planC_one _ _ _ _) ?_))
        have z1 := below_step hb0 hb0.size hb1
        refine bodyPost_ret (results_plan rfl rfl (hZ1.setRow zeroC) (planC_size _ _ _ _) rfl) rfl ⟨rfl, below_setRowB (z1.alloc z1.size _) (by omega) _⟩
    · obtain ⟨q1, q2, q3⟩ := cutB_yes hV
      have e1 : partB x letter k = some ⟨x.row, x.col, x.high, k.toNat⟩ := by unfold partB; rw [hH, hV]; rfl
      rw [e1]
      obtain ⟨n, rfl⟩ : ∃ n : Nat, k = (n : Int) := ⟨k.toNat, by omega⟩
      show Calls _ _ _ _ fun e w' => e = .returned (.tuple #[.agg (drawC h wd (splitM g ⟨x.row, x.col, x.high, ((n : Int)).toNat⟩)), .bool (drawOk h wd (splitM g ⟨x.row, x.col, x.high, ((n : Int)).toNat⟩))]) ∧ _
      rw [Int.toNat_natCast]
      have q0 := isV_not q1
      unfold isH at q0
      unfold isV at q1
      clear hH hV e1
      have HDR := Lib.hid (fun (B K : Nat) (W : World) (h1 : HeldB W B 51 (planC h wd r g)) (h2 : HeldB W K 57 (boxC x.row x.col x.high n)) => drawPlan_any 105 #[.pointer (some ⟨K, 0, none⟩), .pointer (some ⟨B, 0, none⟩)] h wd (splitM g ⟨x.row, x.col, x.high, n⟩) W Try.call105 (fun i j => by unfold splitM; split <;> first | exact hg _ _ | omega)
        (fun W2 hb2 i j hi hj => splitMark_any B K h wd r ⟨x.row, x.col, x.high, n⟩ g W2 (h1.below hb2) (h2.below hb2) hxr (by show x.col + n ≤ 6; omega) hh hw i j (by omega) (by omega)))
      have HS := Lib.hid (drawC_size h wd (splitM g ⟨x.row, x.col, x.high, n⟩))
      have H39 := Lib.hid (drawC_39 h wd (splitM g ⟨x.row, x.col, x.high, n⟩))
      have HO := Lib.hid (drawC_one h wd (splitM g ⟨x.row, x.col, x.high, n⟩))
      generalize drawC h wd (splitM g ⟨x.row, x.col, x.high, n⟩) = D at *
      generalize drawOk h wd (splitM g ⟨x.row, x.col, x.high, n⟩) = bd at *
      generalize planC h wd r g = C at *
      go_enter Try.func85, Try.ntmps85
      go_wp2_with (first
        | (refine wpList_alloc_zero rfl 51 rfl zeroC zero_plan ?_)
        | (refine wpList_load_row rfl 51 _ rfl w.heap.size rfl 51 C (0, 0) _ hPr Try.underlying51 rfl HPS.out ?_))
      refine (HBO.out _).mono ?_
      rintro e w1 ⟨rfl, hb1⟩
      have hX := HeldB.new w1 57 (boxC x.row x.col x.high x.wide)
      have cX3 : (w1.alloc (.cells (boxC x.row x.col x.high x.wide) 57)).cell? ⟨w1.heap.size, 3, none⟩ = some (.int .i64 x.wide) := hX.cell 3
      have fX3 := hX.frozen 3
      have cX2 : (w1.alloc (.cells (boxC x.row x.col x.high x.wide) 57)).cell? ⟨w1.heap.size, 2, none⟩ = some (.int .i64 x.high) := hX.cell 2
      have fX2 := hX.frozen 2
      obtain ⟨XB, hXB⟩ : ∃ XB, (boxC x.row x.col x.high x.wide).setIfInBounds 3 (Value.int .i64 (n : Int)) = XB := ⟨_, rfl⟩
      have hXC : XB = boxC x.row x.col x.high n := by rw [← hXB]; rfl
      have hP1 := (HP.out.below hb1).alloc (.cells XB 57)
      have hZ1 := (HZ.out.below hb1).alloc (.cells XB 57)
      have hX1 := HeldB.new w1 57 XB
      have d0 := (hP1.cell 0).trans c0
      have d1 := (hP1.cell 1).trans c1
      have HP1 := Lib.hid hP1; have HZ1 := Lib.hid hZ1
      have HX1 := Lib.hid (hX1.eq hXC)
      clear hP1 hZ1 hX1 hX hXC
      go_wp2_with (first
        | (refine wpList_store_new rfl 57 _ _ rfl w1 zeroB (boxC x.row x.col x.high x.wide) rfl rfl rfl (by kernel_rfl) rfl (boxC_one _ _ _ _) ?_))
      refine (HDR.out _ _ _ HP1.out HX1.out).mono ?_
      rintro e w2 ⟨rfl, hb2⟩
      have hZ2 := HZ1.out.below hb2
      have hrow : w2.heap[w.heap.size + 1]? = some (.cells zeroC 51 (0, 0)) := hZ2
      go_wp2_with (refine wpList_store_row rfl 51 _ _ rfl (w.heap.size + 1) D rfl rfl _ _ hrow HS.out (by rw [H39.out]; rfl) HO.out ?_)
      have z1 := below_step hb0 hb0.size hb1
      have z2 := z1.alloc z1.size (.cells XB 57)
      refine bodyPost_ret (results_plan rfl rfl (hZ2.setRow D) H39.out rfl) rfl ⟨rfl, below_setRowB (below_step z2 z2.size hb2) (by omega) _⟩

  · obtain ⟨q1, q2, q3⟩ := cutB_yes hH
    have e1 : partB x letter k = some ⟨x.row, x.col, k.toNat, x.wide⟩ := by unfold partB; rw [hH]; rfl
    rw [e1]
    obtain ⟨n, rfl⟩ : ∃ n : Nat, k = (n : Int) := ⟨k.toNat, by omega⟩
    show Calls _ _ _ _ fun e w' => e = .returned (.tuple #[.agg (drawC h wd (splitM g ⟨x.row, x.col, ((n : Int)).toNat, x.wide⟩)), .bool (drawOk h wd (splitM g ⟨x.row, x.col, ((n : Int)).toNat, x.wide⟩))]) ∧ _
    rw [Int.toNat_natCast]
    unfold isH at q1
    clear hH e1
    have HDR := Lib.hid (fun (B K : Nat) (W : World) (h1 : HeldB W B 51 (planC h wd r g)) (h2 : HeldB W K 57 (boxC x.row x.col n x.wide)) => drawPlan_any 105 #[.pointer (some ⟨K, 0, none⟩), .pointer (some ⟨B, 0, none⟩)] h wd (splitM g ⟨x.row, x.col, n, x.wide⟩) W Try.call105 (fun i j => by unfold splitM; split <;> first | exact hg _ _ | omega)
      (fun W2 hb2 i j hi hj => splitMark_any B K h wd r ⟨x.row, x.col, n, x.wide⟩ g W2 (h1.below hb2) (h2.below hb2) (by show x.row + n ≤ 6; omega) hxc hh hw i j (by omega) (by omega)))
    have HS := Lib.hid (drawC_size h wd (splitM g ⟨x.row, x.col, n, x.wide⟩))
    have H39 := Lib.hid (drawC_39 h wd (splitM g ⟨x.row, x.col, n, x.wide⟩))
    have HO := Lib.hid (drawC_one h wd (splitM g ⟨x.row, x.col, n, x.wide⟩))
    generalize drawC h wd (splitM g ⟨x.row, x.col, n, x.wide⟩) = D at *
    generalize drawOk h wd (splitM g ⟨x.row, x.col, n, x.wide⟩) = bd at *
    generalize planC h wd r g = C at *
    go_enter Try.func85, Try.ntmps85
    go_wp2_with (first
      | (refine wpList_alloc_zero rfl 51 rfl zeroC zero_plan ?_)
      | (refine wpList_load_row rfl 51 _ rfl w.heap.size rfl 51 C (0, 0) _ hPr Try.underlying51 rfl HPS.out ?_))
    refine (HBO.out _).mono ?_
    rintro e w1 ⟨rfl, hb1⟩
    have hX := HeldB.new w1 57 (boxC x.row x.col x.high x.wide)
    have cX2 : (w1.alloc (.cells (boxC x.row x.col x.high x.wide) 57)).cell? ⟨w1.heap.size, 2, none⟩ = some (.int .i64 x.high) := hX.cell 2
    have fX2 := hX.frozen 2
    obtain ⟨XB, hXB⟩ : ∃ XB, (boxC x.row x.col x.high x.wide).setIfInBounds 2 (Value.int .i64 (n : Int)) = XB := ⟨_, rfl⟩
    have hXC : XB = boxC x.row x.col n x.wide := by rw [← hXB]; rfl
    have hP1 := (HP.out.below hb1).alloc (.cells XB 57)
    have hZ1 := (HZ.out.below hb1).alloc (.cells XB 57)
    have hX1 := HeldB.new w1 57 XB
    have d0 := (hP1.cell 0).trans c0
    have d1 := (hP1.cell 1).trans c1
    have HP1 := Lib.hid hP1; have HZ1 := Lib.hid hZ1
    have HX1 := Lib.hid (hX1.eq hXC)
    clear hP1 hZ1 hX1 hX hXC
    go_wp2_with (first
      | (refine wpList_store_new rfl 57 _ _ rfl w1 zeroB (boxC x.row x.col x.high x.wide) rfl rfl rfl (by kernel_rfl) rfl (boxC_one _ _ _ _) ?_))
    refine (HDR.out _ _ _ HP1.out HX1.out).mono ?_
    rintro e w2 ⟨rfl, hb2⟩
    have hZ2 := HZ1.out.below hb2
    have hrow : w2.heap[w.heap.size + 1]? = some (.cells zeroC 51 (0, 0)) := hZ2
    go_wp2_with (refine wpList_store_row rfl 51 _ _ rfl (w.heap.size + 1) D rfl rfl _ _ hrow HS.out (by rw [H39.out]; rfl) HO.out ?_)
    have z1 := below_step hb0 hb0.size hb1
    have z2 := z1.alloc z1.size (.cells XB 57)
    refine bodyPost_ret (results_plan rfl rfl (hZ2.setRow D) H39.out rfl) rfl ⟨rfl, below_setRowB (below_step z2 z2.size hb2) (by omega) _⟩

/-- the part of a room ahead of a cut, if there are both -/
def cutOf (h wd : Nat) (g : Nat → Nat → Nat) (room : Int) (letter : ByteArray) (k : Int) : Option Pt := (findB (scanB h wd g (h * wd)) room).bind fun x => partB x letter k

theorem split_any (h wd r : Nat) (g : Nat → Nat → Nat) (room k : Int) (letter : ByteArray) (w : World) (hh : h ≤ 6) (hw : wd ≤ 6) (hg : ∀ i j, g i j < 26) :
    Calls Try.prog 85 #[.agg (planC h wd r g), .int .i64 room, .string letter, .int .i64 k] w
      fun e w' => e = .returned (.tuple #[.agg (splitC h wd g (cutOf h wd g room letter k)), .bool (splitOk h wd g (cutOf h wd g room letter k))]) ∧ Below w.heap.size w w' := by
  unfold cutOf
  cases ho : findB (scanB h wd g (h * wd)) room
  · exact split_none h wd r g room k letter w hh hw ho
  · rename_i x
    exact split_some h wd r g room k letter w hh hw hg x ho

theorem splitC_39 (h wd : Nat) (g : Nat → Nat → Nat) (o : Option Pt) : (splitC h wd g o).size = 39 := by
  cases o
  · exact planC_size 0 0 0 (fun _ _ => 0)
  · exact drawC_39 _ _ _
theorem splitC_size (h wd : Nat) (g : Nat → Nat → Nat) (o : Option Pt) : (Try.prog.info? 51).map (·.size) = some (splitC h wd g o).size := by rw [splitC_39]; kernel_rfl
theorem splitC_one (h wd : Nat) (g : Nat → Nat → Nat) (o : Option Pt) : (splitC h wd g o).all (·.oneCell') = true := by
  cases o
  · exact planC_one 0 0 0 (fun _ _ => 0)
  · exact drawC_one _ _ _

set_option maxHeartbeats 400000 in
theorem splitChange_any (KR KL KK h wd r : Nat) (g : Nat → Nat → Nat) (room k : Int) (letter : ByteArray) (w : World) (hR : HeldB w KR 3 #[.int .i64 room]) (hL : HeldB w KL 9 #[.string letter]) (hK : HeldB w KK 3 #[.int .i64 k]) (hh : h ≤ 6) (hw : wd ≤ 6) (hg : ∀ i j, g i j < 26) :
    Calls Try.prog 84 #[.agg (planC h wd r g), .pointer (some ⟨KR, 0, none⟩), .pointer (some ⟨KL, 0, none⟩), .pointer (some ⟨KK, 0, none⟩)] w
      fun e w' => e = .returned (.tuple #[.agg (splitC h wd g (cutOf h wd g room letter k)), .bool (splitOk h wd g (cutOf h wd g room letter k))]) ∧ Below w.heap.size w w' := by
  have HW := Lib.hid (fun W => split_any h wd r g room k letter W hh hw hg)
  have HPS := Lib.hid (plan_size h wd r g)
  have H39 := Lib.hid (splitC_39 h wd g (cutOf h wd g room letter k))
  have HS := Lib.hid (splitC_size h wd g (cutOf h wd g room letter k))
  have HO := Lib.hid (splitC_one h wd g (cutOf h wd g room letter k))
  have hP := (HeldB.new w 51 (planC h wd r g)).alloc (.cells zeroC 51)
  have hPr : ((w.alloc (.cells (planC h wd r g) 51)).alloc (.cells zeroC 51)).heap[w.heap.size]? = some (.cells (planC h wd r g) 51 (0, 0)) := hP
  have hZ := HeldB.new (w.alloc (.cells (planC h wd r g) 51)) 51 zeroC
  simp only [World.size_alloc] at hZ
  have hb0 : Below w.heap.size w ((w.alloc (.cells (planC h wd r g) 51)).alloc (.cells zeroC 51)) := (((Below.refl _ w).alloc (Nat.le_refl _) _).alloc (by simp) _)
  have cR := ((hR.alloc (.cells (planC h wd r g) 51)).alloc (.cells zeroC 51)).cell 0
  have cL := ((hL.alloc (.cells (planC h wd r g) 51)).alloc (.cells zeroC 51)).cell 0
  have cK := ((hK.alloc (.cells (planC h wd r g) 51)).alloc (.cells zeroC 51)).cell 0
  have HZ := Lib.hid hZ
  clear hP hZ hR hL hK
  generalize splitC h wd g (cutOf h wd g room letter k) = D at *
  generalize splitOk h wd g (cutOf h wd g room letter k) = bb at *
  generalize planC h wd r g = C at *
  go_enter Try.func84, Try.ntmps84
  go_wp2_with (first
    | (refine wpList_alloc_zero rfl 51 rfl zeroC zero_plan ?_)
    | (refine wpList_load_row rfl 51 _ rfl w.heap.size rfl 51 C (0, 0) _ hPr Try.underlying51 rfl HPS.out ?_)
    | (go_at_call 85; refine (HW.out _).mono ?_; rintro e w2 ⟨rfl, hb2⟩; have hZ2 := HZ.out.below hb2; have hrow : w2.heap[w.heap.size + 1]? = some (.cells zeroC 51 (0, 0)) := hZ2)
    | (refine wpList_store_row rfl 51 _ _ rfl (w.heap.size + 1) D rfl rfl _ _ hrow HS.out (by rw [H39.out]; rfl) HO.out ?_))
  refine bodyPost_ret (results_plan rfl rfl (hZ2.setRow D) H39.out rfl) rfl ⟨rfl, below_setRowB (below_step hb0 hb0.size hb2) (by omega) _⟩

end Go.Proofs.Ythboiobapmagcaa
