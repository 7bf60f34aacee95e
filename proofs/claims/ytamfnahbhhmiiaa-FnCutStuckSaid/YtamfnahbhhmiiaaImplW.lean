
/-
  The program widens a plan. (Walks.)
-/
import Derived.Test.YtamfnahbhhmiiaaTurns
namespace Go.Proofs.Ytamfnahbhhmiiaa
open Go.RowKit

theorem wrap_div (i k : Nat) (hi : i < 1000) : wrap64 ((i : Int) / (k : Int)) = ((i / k : Nat) : Int) := by
  rw [← Int.natCast_ediv]
  have := Nat.div_le_self i k
  generalize i / k = q at *
  exact IntWalk.wrap64_in _ (by omega)

set_option maxHeartbeats 400000 in
theorem widenMark_any (B K h wd r k : Nat) (g : Nat → Nat → Nat) (w : World) (hB : HeldB w B 44 (planC h wd r g)) (hK : HeldB w K 3 #[.int .i64 k]) (hh : h ≤ 6) (hw : wd ≤ 6) (h1 : 1 ≤ k) (h3 : k ≤ 3) (i j : Nat) (hi : i < h * k) (hj : j < wd * k) :
    Calls Try.prog 72 #[.int .i64 i, .int .i64 j, .pointer (some ⟨B, 0, none⟩), .pointer (some ⟨K, 0, none⟩)] w
      fun e w' => e = .returned (.int .i64 (g (i / k) (j / k) : Nat)) ∧ Below w.heap.size w w' := by
  have cK : w.cell? ⟨K, 0, none⟩ = some (.int .i64 k) := hK.cell 0
  have hi6 : i / k < 6 := Nat.lt_of_lt_of_le (Nat.div_lt_of_lt_mul (by rw [Nat.mul_comm]; exact hi)) hh
  have hj6 : j / k < 6 := Nat.lt_of_lt_of_le (Nat.div_lt_of_lt_mul (by rw [Nat.mul_comm]; exact hj)) hw
  have hi18 : i < 18 := Nat.lt_of_lt_of_le hi (Nat.mul_le_mul hh h3)
  have hj18 : j < 18 := Nat.lt_of_lt_of_le hj (Nat.mul_le_mul hw h3)
  have hq1 := wrap_div i k (by omega)
  have hq2 := wrap_div j k (by omega)
  have hk0 : ((k : Int) == 0) = false := beq_eq_false_iff_ne.2 (by omega)
  generalize i / k = a at *
  generalize j / k = b at *
  have cc : w.cell? ⟨B, 3 + a * 6 + b, none⟩ = some (.int .i64 (g a b : Nat)) := (hB.cell _).trans (planC_at _ _ _ _ a b hi6 hj6)
  clear hB hK hi hj
  go_enter Try.func72, Try.ntmps72
  go_wp2
  go_quiet (fail)
  go_wp2
  go_ret
  exact ⟨rfl, below_drewN _ _ _⟩

/-- what a change makes of a plan, if a test holds -/
def ifC (b : Bool) (C : Array Value) : Array Value := if b then C else zeroC
theorem ifC_yes {b : Bool} {C : Array Value} (h : b = true) : ifC b C = C := by rw [h]; rfl
theorem ifC_no {b : Bool} {C : Array Value} (h : b = false) : ifC b C = zeroC := by rw [h]; rfl

theorem mul_wrap {h k : Nat} (hh : h ≤ 100) (hk : k ≤ 100) : wrap64 ((h : Int) * (k : Int)) = ((h * k : Nat) : Int) := by
  rw [← Int.natCast_mul]
  have := Nat.mul_le_mul hh hk
  exact IntWalk.wrap64_in _ (by omega)

set_option maxRecDepth 100000 in
set_option maxHeartbeats 400000 in
theorem widen_any (h wd r : Nat) (g : Nat → Nat → Nat) (k : Int) (w : World) (hh : h ≤ 6) (hw : wd ≤ 6) (hg : ∀ i j, g i j < 26) :
    Calls Try.prog 39 #[.agg (planC h wd r g), .int .i64 k] w
      fun e w' => e = .returned (.tuple #[.agg (ifC (l6B k 1 3) (drawC (h * k.toNat : Nat) (wd * k.toNat : Nat) (fun i j => g (i / k.toNat) (j / k.toNat)))), .bool (l6B k 1 3 && drawOk (h * k.toNat : Nat) (wd * k.toNat : Nat) (fun i j => g (i / k.toNat) (j / k.toNat)))]) ∧ Below w.heap.size w w' := by
  have hP := ((HeldB.new w 44 (planC h wd r g)).alloc (.cells #[.int .i64 k] 3)).alloc (.cells zeroC 44)
  have hK := (HeldB.new (w.alloc (.cells (planC h wd r g) 44)) 3 #[.int .i64 k]).alloc (.cells zeroC 44)
  have hZ := HeldB.new ((w.alloc (.cells (planC h wd r g) 44)).alloc (.cells #[.int .i64 k] 3)) 44 zeroC
  simp only [World.size_alloc] at hK hZ
  have hb0 : Below w.heap.size w (((w.alloc (.cells (planC h wd r g) 44)).alloc (.cells #[.int .i64 k] 3)).alloc (.cells zeroC 44)) := ((((Below.refl _ w).alloc (Nat.le_refl _) _).alloc (by simp) _).alloc (by simp; omega) _)
  by_cases hin : 1 ≤ k ∧ k ≤ 3
  · obtain ⟨hlo, hhi⟩ := hin
    obtain ⟨n, rfl⟩ : ∃ n : Nat, k = (n : Int) := ⟨k.toNat, by omega⟩
    have e1 : l6B (n : Int) 1 3 = true := l6B_true hlo hhi
    rw [ifC_yes e1, e1, Bool.true_and, Int.toNat_natCast, Int.natCast_mul, Int.natCast_mul]
    clear e1
    have HD := Lib.hid (fun (W : World) (hB : HeldB W w.heap.size 44 (planC h wd r g)) (hK : HeldB W (w.heap.size + 1) 3 #[.int .i64 n]) => drawPlan_any 72 #[.pointer (some ⟨w.heap.size, 0, none⟩), .pointer (some ⟨w.heap.size + 1, 0, none⟩)] ((h : Int) * (n : Int)) ((wd : Int) * (n : Int)) (fun i j => g (i / n) (j / n)) W Try.call72 (fun _ _ => hg _ _)
      (fun W2 hb2 i j hi hj => widenMark_any w.heap.size (w.heap.size + 1) h wd r n g W2 (hB.below hb2) (hK.below hb2) hh hw (by omega) (by omega) i j (by rw [← Int.natCast_mul] at hi; omega) (by rw [← Int.natCast_mul] at hj; omega)))
    have HS := Lib.hid (drawC_size ((h : Int) * (n : Int)) ((wd : Int) * (n : Int)) (fun i j => g (i / n) (j / n)))
    have H39 := Lib.hid (drawC_39 ((h : Int) * (n : Int)) ((wd : Int) * (n : Int)) (fun i j => g (i / n) (j / n)))
    have HO := Lib.hid (drawC_one ((h : Int) * (n : Int)) ((wd : Int) * (n : Int)) (fun i j => g (i / n) (j / n)))
    have HP := Lib.hid hP; have HZ := Lib.hid hZ; have HK := Lib.hid hK
    have c0 := (hP.cell 0).trans (planC_0 _ _ _ _)
    have c1 := (hP.cell 1).trans (planC_1 _ _ _ _)
    have cK := hK.cell 0
    have m1 := mul_wrap (h := h) (k := n) (by omega) (by omega)
    have m2 := mul_wrap (h := wd) (k := n) (by omega) (by omega)
    clear hP hZ hK
    generalize drawC ((h : Int) * (n : Int)) ((wd : Int) * (n : Int)) (fun i j => g (i / n) (j / n)) = D at *
    generalize drawOk ((h : Int) * (n : Int)) ((wd : Int) * (n : Int)) (fun i j => g (i / n) (j / n)) = b at *
    generalize planC h wd r g = C at *
    go_enter Try.func39, Try.ntmps39
    go_wp2_with (first
      | (refine wpList_alloc_zero rfl 44 rfl zeroC zero_plan ?_)
      | (go_at_call 70; refine (HD.out _ HP.out HK.out).mono ?_; rintro e w2 ⟨rfl, hb2⟩; have hZ2 := HZ.out.below hb2; have hrow : w2.heap[w.heap.size + 1 + 1]? = some (.cells zeroC 44 (0, 0)) := hZ2)
      | (refine wpList_store_row rfl 44 _ _ rfl (w.heap.size + 1 + 1) D rfl rfl _ _ hrow HS.out (by rw [H39.out]; rfl) HO.out ?_))
    refine bodyPost_ret (results_plan rfl rfl (hZ2.setRow D) H39.out rfl) rfl ⟨rfl, below_setRowB (below_step hb0 hb0.size hb2) (by omega) _⟩
  · have e1 : l6B k 1 3 = false := by unfold l6B; rw [decide_eq_false hin]
    rw [ifC_no e1, e1, Bool.false_and]
    clear e1
    have cK := hK.cell 0
    have hZr : (((w.alloc (.cells (planC h wd r g) 44)).alloc (.cells #[.int .i64 k] 3)).alloc (.cells zeroC 44)).heap[w.heap.size + 1 + 1]? = some (.cells zeroC 44 (0, 0)) := hZ
    clear hP
    generalize planC h wd r g = C at *
    have hway : decide (k < 1) = true ∨ (decide (k < 1) = false ∧ decide (3 < k) = true) := by
      by_cases h1 : k < 1
      · exact .inl (decide_eq_true h1)
      · exact .inr ⟨decide_eq_false h1, decide_eq_true (by omega)⟩
    rcases hway with h1 | ⟨h1, h2⟩
    all_goals
      go_enter Try.func39, Try.ntmps39
      go_wp2_with (first
        | (refine wpList_alloc_zero rfl 44 rfl zeroC zero_plan ?_)
        | (refine wpList_build_as rfl 44 _ rfl zeroC (by simp only [List.map_toArray, List.map_nil]; exact built_zero) ?_)
        | (refine wpList_store_row rfl 44 _ _ rfl (w.heap.size + 1 + 1) zeroC rfl rfl _ _ hZr (plan_size _ _ _ _) rfl (planC_one _ _ _ _) ?_))
      refine bodyPost_ret (results_plan rfl rfl (hZ.setRow zeroC) (planC_size _ _ _ _) rfl) rfl ⟨rfl, below_setRowB hb0 (by omega) _⟩

theorem ifC_39 (b : Bool) {C : Array Value} (h : C.size = 39) : (ifC b C).size = 39 := by cases b; exact planC_size 0 0 0 (fun _ _ => 0); exact h
theorem ifC_size (b : Bool) {C : Array Value} (h : C.size = 39) : (Try.prog.info? 44).map (·.size) = some (ifC b C).size := by rw [ifC_39 b h]; kernel_rfl
theorem ifC_one (b : Bool) {C : Array Value} (h : C.all (·.oneCell') = true) : (ifC b C).all (·.oneCell') = true := by cases b; exact planC_one 0 0 0 (fun _ _ => 0); exact h

set_option maxHeartbeats 400000 in
theorem wideChange_any (K h wd r : Nat) (g : Nat → Nat → Nat) (k : Int) (w : World) (hK : HeldB w K 3 #[.int .i64 k]) (hh : h ≤ 6) (hw : wd ≤ 6) (hg : ∀ i j, g i j < 26) :
    Calls Try.prog 38 #[.agg (planC h wd r g), .pointer (some ⟨K, 0, none⟩)] w
      fun e w' => e = .returned (.tuple #[.agg (ifC (l6B k 1 3) (drawC (h * k.toNat : Nat) (wd * k.toNat : Nat) (fun i j => g (i / k.toNat) (j / k.toNat)))), .bool (l6B k 1 3 && drawOk (h * k.toNat : Nat) (wd * k.toNat : Nat) (fun i j => g (i / k.toNat) (j / k.toNat)))]) ∧ Below w.heap.size w w' := by
  have HW := Lib.hid (fun W => widen_any h wd r g k W hh hw hg)
  have HPS := Lib.hid (plan_size h wd r g)
  have hD := drawC_39 (h * k.toNat : Nat) (wd * k.toNat : Nat) (fun i j => g (i / k.toNat) (j / k.toNat))
  have hO := drawC_one (h * k.toNat : Nat) (wd * k.toNat : Nat) (fun i j => g (i / k.toNat) (j / k.toNat))
  have H39 := Lib.hid (ifC_39 (l6B k 1 3) hD)
  have HS := Lib.hid (ifC_size (l6B k 1 3) hD)
  have HO := Lib.hid (ifC_one (l6B k 1 3) hO)
  clear hD hO
  have hP := (HeldB.new w 44 (planC h wd r g)).alloc (.cells zeroC 44)
  have hPr : ((w.alloc (.cells (planC h wd r g) 44)).alloc (.cells zeroC 44)).heap[w.heap.size]? = some (.cells (planC h wd r g) 44 (0, 0)) := hP
  have hZ := HeldB.new (w.alloc (.cells (planC h wd r g) 44)) 44 zeroC
  simp only [World.size_alloc] at hZ
  have hb0 : Below w.heap.size w ((w.alloc (.cells (planC h wd r g) 44)).alloc (.cells zeroC 44)) := (((Below.refl _ w).alloc (Nat.le_refl _) _).alloc (by simp) _)
  have cK := ((hK.alloc (.cells (planC h wd r g) 44)).alloc (.cells zeroC 44)).cell 0
  have HZ := Lib.hid hZ
  clear hP hZ hK
  generalize ifC (l6B k 1 3) (drawC (h * k.toNat : Nat) (wd * k.toNat : Nat) (fun i j => g (i / k.toNat) (j / k.toNat))) = D at *
  generalize (l6B k 1 3 && drawOk (h * k.toNat : Nat) (wd * k.toNat : Nat) (fun i j => g (i / k.toNat) (j / k.toNat))) = b at *
  generalize planC h wd r g = C at *
  go_enter Try.func38, Try.ntmps38
  go_wp2_with (first
    | (refine wpList_alloc_zero rfl 44 rfl zeroC zero_plan ?_)
    | (refine wpList_load_row rfl 44 _ rfl w.heap.size rfl 44 C (0, 0) _ hPr Try.underlying44 rfl HPS.out ?_)
    | (go_at_call 39; refine (HW.out _).mono ?_; rintro e w2 ⟨rfl, hb2⟩; have hZ2 := HZ.out.below hb2; have hrow : w2.heap[w.heap.size + 1]? = some (.cells zeroC 44 (0, 0)) := hZ2)
    | (refine wpList_store_row rfl 44 _ _ rfl (w.heap.size + 1) D rfl rfl _ _ hrow HS.out (by rw [H39.out]; rfl) HO.out ?_))
  refine bodyPost_ret (results_plan rfl rfl (hZ2.setRow D) H39.out rfl) rfl ⟨rfl, below_setRowB (below_step hb0 hb0.size hb2) (by omega) _⟩

end Go.Proofs.Ytamfnahbhhmiiaa
