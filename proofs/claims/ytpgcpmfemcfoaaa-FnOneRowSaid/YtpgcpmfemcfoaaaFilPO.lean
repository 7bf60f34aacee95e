/-
  Merged texts: FilP FilQ FilR FilS.
-/
import Derived.Test.YtpgcpmfemcfoaaaImplABO
import Derived.Test.YtpgcpmfemcfoaaaFilMO
import Derived.Test.YtpgcpmfemcfoaaaAreasO
import Derived.Test.YtpgcpmfemcfoaaaLowO
import Derived.Test.YtpgcpmfemcfoaaaImplFO
import Derived.BigQuiet

/-
  Plans with free cells: the program lays boxes, finds the first free cell and what is free beside it. (Walks.)
-/
namespace Go.Proofs.Ytpgcpmfemcfoaaa
open Go.RowKit

/-- a plan's cells, whole numbers -/
def planI (h w r : Nat) (g : Nat → Nat → Int) : Array Value :=
  (.int .i64 (h : Int) :: .int .i64 (w : Int) :: .int .i64 (r : Int) :: (List.range 36).map fun i => .int .i64 (g (i / 6) (i % 6))).toArray
theorem planI_nat (h w r : Nat) (g : Nat → Nat → Nat) : planC h w r g = planI h w r (fun i j => (g i j : Int)) := rfl
theorem planI_size (h w r : Nat) (g : Nat → Nat → Int) : (planI h w r g).size = 39 := by simp [planI]
theorem planI_0 (h w r : Nat) (g : Nat → Nat → Int) : (planI h w r g)[0]? = some (.int .i64 h) := by simp [planI]
theorem planI_1 (h w r : Nat) (g : Nat → Nat → Int) : (planI h w r g)[1]? = some (.int .i64 w) := by simp [planI]
theorem planI_2 (h w r : Nat) (g : Nat → Nat → Int) : (planI h w r g)[2]? = some (.int .i64 r) := by simp [planI]
theorem planI_at (h w r : Nat) (g : Nat → Nat → Int) (i j : Nat) (hi : i < 6) (hj : j < 6) : (planI h w r g)[3 + i * 6 + j]? = some (.int .i64 (g i j)) := by
  have h1 : (i * 6 + j) / 6 = i := by omega
  have h2 : (i * 6 + j) % 6 = j := by omega
  have h3 : i * 6 + j < 36 := by omega
  unfold planI
  rw [List.getElem?_toArray, show 3 + i * 6 + j = (i * 6 + j) + 1 + 1 + 1 from by omega, List.getElem?_cons_succ, List.getElem?_cons_succ, List.getElem?_cons_succ, List.getElem?_map, List.getElem?_range h3]
  simp [h1, h2]
theorem planI_put {h w r : Nat} (g : Nat → Nat → Int) {i j : Nat} (hi : i < 6) (hj : j < 6) (v : Int) : (planI h w r g).setIfInBounds (3 + i * 6 + j) (.int .i64 v) = planI h w r (fun a b => if a = i ∧ b = j then v else g a b) := by
  apply Array.ext_getElem?
  intro k
  rw [Array.getElem?_setIfInBounds]
  by_cases hk : 3 + i * 6 + j = k
  · subst hk
    rw [if_pos rfl, if_pos (by rw [planI_size]; omega), planI_at _ _ _ _ _ _ hi hj, if_pos ⟨rfl, rfl⟩]
  · rw [if_neg hk]
    rcases Nat.lt_or_ge k 3 with h3 | h3
    · rcases (show k = 0 ∨ k = 1 ∨ k = 2 by omega) with rfl | rfl | rfl
      · rw [planI_0, planI_0]
      · rw [planI_1, planI_1]
      · rw [planI_2, planI_2]
    · rcases Nat.lt_or_ge k 39 with h9 | h9
      · have e : k = 3 + ((k - 3) / 6) * 6 + (k - 3) % 6 := by omega
        have a1 : (k - 3) / 6 < 6 := by omega
        have a2 : (k - 3) % 6 < 6 := by omega
        rw [e, planI_at _ _ _ _ _ _ a1 a2, planI_at _ _ _ _ _ _ a1 a2, if_neg (by omega)]
      · rw [Array.getElem?_eq_none (by rw [planI_size]; omega), Array.getElem?_eq_none (by rw [planI_size]; omega)]
theorem planI_one (h w r : Nat) (g : Nat → Nat → Int) : (planI h w r g).all (·.oneCell') = true := by
  rw [Array.all_eq_true_iff_forall_mem]
  intro v hv
  simp [planI] at hv
  rcases hv with rfl | rfl | rfl | ⟨_, _, rfl⟩ <;> rfl
theorem planI_info (h w r : Nat) (g : Nat → Nat → Int) : (Try.prog.info? 47).map (·.size) = some (planI h w r g).size := by rw [planI_size]; kernel_rfl

def boxHighI (h : Nat) (g : Nat → Nat → Int) (row col : Nat) : Nat := runLen (fun t => g (row + t) col == g row col) (h - row)
def boxWideI (wd : Nat) (g : Nat → Nat → Int) (row col : Nat) : Nat := runLen (fun t => g row (col + t) == g row col) (wd - col)

set_option maxHeartbeats 800000 in
theorem boxAtI_any (h wd r : Nat) (g : Nat → Nat → Int) (row col : Nat) (w : World) (hh : h ≤ 6) (hw : wd ≤ 6) (h1 : row < h) (h2 : col < wd) :
    Calls Try.prog 94 #[.agg (planI h wd r g), .int .i64 row, .int .i64 col] w
      fun e w' => e = .returned (.agg #[.int .i64 row, .int .i64 col, .int .i64 (boxHighI h g row col : Nat), .int .i64 (boxWideI wd g row col : Nat)]) ∧ Below w.heap.size w w' := by
  have hat := planI_at h wd r g row col (by omega) (by omega)
  have hp0 := planI_0 h wd r g
  have hp1 := planI_1 h wd r g
  have hcell : ∀ i j, i < 6 → j < 6 → (planI h wd r g)[3 + i * 6 + j]? = some (.int .i64 (g i j)) := planI_at h wd r g
  have HCELL := Lib.hid hcell; clear hcell
  generalize planI h wd r g = C at *
  obtain ⟨x, hx⟩ : ∃ x, g row col = x := ⟨_, rfl⟩
  rw [hx] at hat
  have HX := Lib.hid hx; clear hx
  go_enter Try.func94, Try.ntmps94
  go_wp2
  go_loopg [18] (h - row) (fun gh _ wr => ∃ (t : Nat), t + gh = h - row + 1 ∧ 1 ≤ t ∧ t ≤ h - row ∧ (∀ i, i < t → (g (row + i) col == x) = true) ∧ wr = bxW w C row col t 1)
  case atStart => exact ⟨1, by omega, Nat.le_refl _, by omega, (fun i hi => by obtain rfl : i = 0 := (by omega); rw [Nat.add_zero, HX.out]; simp), rfl⟩
  case round =>
    obtain ⟨t, htg, ht1, ht2, hall, hwr⟩ := hrel
    have HALL := Lib.hid hall; clear hall
    have f0 : wr.cell? ⟨w.heap.size, 0, none⟩ = some (.int .i64 h) := by rw [hwr, ← hp0]; exact bxW_plan w C row col t 1 0 0
    have f1 : wr.cell? ⟨w.heap.size + 1 + 1, 2, none⟩ = some (.int .i64 t) := by rw [hwr]; exact bxW_box w C row col t 1 0 2
    have f2 : wr.frozen? ⟨w.heap.size + 1 + 1, 2, none⟩ = false := by rw [hwr]; exact bxW_free w C row col t 1 0 2
    have hset : wr.setCell ⟨w.heap.size + 1 + 1, 2, none⟩ (.int .i64 ((t : Int) + 1)) = bxW w C row col (t + 1) 1 := by rw [hwr]; exact bxW_set2 w C row col t 1 (t + 1)
    have HSET := Lib.hid hset
    have HWR := Lib.hid hwr
    clear hset
    by_cases hlt : row + t < h
    · have f3 : wr.cell? ⟨w.heap.size, 3 + (row + t) * 6 + col, none⟩ = some (.int .i64 (g (row + t) col)) := by rw [hwr, ← HCELL.out (row + t) col (by omega) (by omega)]; exact bxW_plan w C row col t 1 0 _
      clear hwr
      obtain ⟨y, hy⟩ : ∃ y, g (row + t) col = y := ⟨_, rfl⟩
      rw [hy] at f3
      have HY := Lib.hid hy; clear hy
      by_cases hyx : y = x
      · have hbe : (y == x) = true := by simp [hyx]
        have HYX := Lib.hid hyx; clear hyx
        go_wp2
        go_roundg (gk - 1)
        case measure => omega
        case rel => exact ⟨t + 1, by omega, by omega, by omega, rows_step (P := fun i => (g (row + i) col == x) = true) HALL.out (by show (g (row + t) col == x) = true; rw [HY.out, HYX.out]; simp), HSET.out⟩
      · have hbe : (y == x) = false := by rw [beq_eq_false_iff_ne]; omega
        have hT : boxHighI h g row col = t := runLen_eq (h - row) _ t ht2 (fun i hi => by rw [HX.out]; exact HALL.out i hi) (fun _ => by rw [HX.out, HY.out]; simpa using hyx)
        have HT := Lib.hid hT; clear hT hyx
        go_wp2
        clear f0 f1 f2 f3 HSET
        go_loopg [42] (wd - col) (fun gh _ wq => ∃ (u q : Nat), u + gh = wd - col + 1 ∧ 1 ≤ u ∧ u ≤ wd - col ∧ (∀ i, i < u → (g row (col + i) == x) = true) ∧ wq = (bxW w C row col t u).drewN q)
        case atStart => exact ⟨1, 0, by omega, Nat.le_refl _, by omega, (fun i hi => by obtain rfl : i = 0 := (by omega); rw [Nat.add_zero, HX.out]; simp), HWR.out⟩
        case round =>
          obtain ⟨u, q, hug, hu1, hu2, hall2, hwq⟩ := hrel
          have HALL2 := Lib.hid hall2; clear hall2 HWR
          have k0 : wr.cell? ⟨w.heap.size, 1, none⟩ = some (.int .i64 wd) := by rw [hwq, ← hp1]; exact bxW_plan w C row col t u q 1
          have k1 : wr.cell? ⟨w.heap.size + 1 + 1, 3, none⟩ = some (.int .i64 u) := by rw [hwq]; exact bxW_box w C row col t u q 3
          have k2 : wr.frozen? ⟨w.heap.size + 1 + 1, 3, none⟩ = false := by rw [hwq]; exact bxW_free w C row col t u q 3
          have k4 : wr.cell? ⟨w.heap.size + 1 + 1, 0, none⟩ = some (.int .i64 row) := by rw [hwq]; exact bxW_box w C row col t u q 0
          have k5 : wr.cell? ⟨w.heap.size + 1 + 1, 1, none⟩ = some (.int .i64 col) := by rw [hwq]; exact bxW_box w C row col t u q 1
          have k6 : wr.cell? ⟨w.heap.size + 1 + 1, 2, none⟩ = some (.int .i64 t) := by rw [hwq]; exact bxW_box w C row col t u q 2
          have hset : ∀ n, (wr.drewN n).setCell ⟨w.heap.size + 1 + 1, 3, none⟩ (.int .i64 ((u : Int) + 1)) = (bxW w C row col t (u + 1)).drewN (q + n) := fun n => by rw [hwq, World.drewN_drewN]; exact bxW_set w C row col t u (q + n) (u + 1)
          have HSET := Lib.hid hset
          have HWQ := Lib.hid hwq
          clear hset
          by_cases hlu : col + u < wd
          · have k3 : wr.cell? ⟨w.heap.size, 3 + row * 6 + (col + u), none⟩ = some (.int .i64 (g row (col + u))) := by rw [hwq, ← HCELL.out row (col + u) (by omega) (by omega)]; exact bxW_plan w C row col t u q _
            clear hwq
            have hlu' : (col : Int) + (u : Int) < (wd : Int) := by omega
            obtain ⟨z, hz⟩ : ∃ z, g row (col + u) = z := ⟨_, rfl⟩
            rw [hz] at k3
            have HZ := Lib.hid hz; clear hz
            by_cases hzx : z = x
            · have hbz : (z == x) = true := by simp [hzx]
              have HZX := Lib.hid hzx; clear hzx
              go_wp2
              go_quiet (fail)
              go_wp2
              go_roundg (gk - 1)
              case measure => omega
              case rel => exact ⟨u + 1, q + nq, by omega, by omega, by omega, rows_step (P := fun i => (g row (col + i) == x) = true) HALL2.out (by show (g row (col + u) == x) = true; rw [HZ.out, HZX.out]; simp), HSET.out nq⟩
            · have hbz : (z == x) = false := by rw [beq_eq_false_iff_ne]; omega
              have hU : boxWideI wd g row col = u := runLen_eq (wd - col) _ u hu2 (fun i hi => by rw [HX.out]; exact HALL2.out i hi) (fun _ => by rw [HX.out, HZ.out]; simpa using hzx)
              have HU := Lib.hid hU; clear hU hzx
              go_wp2
              go_quiet (fail)
              rw [HWQ.out]
              unfold bxW
              clear k0 k1 k2 k3 k4 k5 k6 HSET
              go_wp2
              refine bodyPost_ret (v := .agg #[.int .i64 row, .int .i64 col, .int .i64 t, .int .i64 u]) (by simp [results, Try.results94, go_sem]) rfl ⟨?_, ?_⟩
              · rw [HT.out, HU.out]
              · exact ((((bxW_below w C row col t u (q + nq)).setCell (by simp) _).setCell (by simp) _).setCell (by simp) _).setCell (by simp) _
          · clear hwq
            have hlu' : decide ((col : Int) + (u : Int) < (wd : Int)) = false := by rw [decide_eq_false_iff_not]; omega
            have hU : boxWideI wd g row col = u := runLen_eq (wd - col) _ u hu2 (fun i hi => by rw [HX.out]; exact HALL2.out i hi) (fun _ => by omega)
            have HU := Lib.hid hU; clear hU
            go_wp2
            go_quiet (fail)
            rw [HWQ.out]
            unfold bxW
            clear k0 k1 k2 k4 k5 k6 HSET
            go_wp2
            refine bodyPost_ret (v := .agg #[.int .i64 row, .int .i64 col, .int .i64 t, .int .i64 u]) (by simp [results, Try.results94, go_sem]) rfl ⟨?_, ?_⟩
            · rw [HT.out, HU.out]
            · exact ((((bxW_below w C row col t u (q + nq)).setCell (by simp) _).setCell (by simp) _).setCell (by simp) _).setCell (by simp) _
    · have hT : boxHighI h g row col = t := runLen_eq (h - row) _ t ht2 (fun i hi => by rw [HX.out]; exact HALL.out i hi) (fun _ => by omega)
      have HT := Lib.hid hT; clear hT hwr
      go_wp2
      clear f0 f1 f2 HSET
      go_loopg [42] (wd - col) (fun gh _ wq => ∃ (u q : Nat), u + gh = wd - col + 1 ∧ 1 ≤ u ∧ u ≤ wd - col ∧ (∀ i, i < u → (g row (col + i) == x) = true) ∧ wq = (bxW w C row col t u).drewN q)
      case atStart => exact ⟨1, 0, by omega, Nat.le_refl _, by omega, (fun i hi => by obtain rfl : i = 0 := (by omega); rw [Nat.add_zero, HX.out]; simp), HWR.out⟩
      case round =>
        obtain ⟨u, q, hug, hu1, hu2, hall2, hwq⟩ := hrel
        have HALL2 := Lib.hid hall2; clear hall2 HWR
        have k0 : wr.cell? ⟨w.heap.size, 1, none⟩ = some (.int .i64 wd) := by rw [hwq, ← hp1]; exact bxW_plan w C row col t u q 1
        have k1 : wr.cell? ⟨w.heap.size + 1 + 1, 3, none⟩ = some (.int .i64 u) := by rw [hwq]; exact bxW_box w C row col t u q 3
        have k2 : wr.frozen? ⟨w.heap.size + 1 + 1, 3, none⟩ = false := by rw [hwq]; exact bxW_free w C row col t u q 3
        have k4 : wr.cell? ⟨w.heap.size + 1 + 1, 0, none⟩ = some (.int .i64 row) := by rw [hwq]; exact bxW_box w C row col t u q 0
        have k5 : wr.cell? ⟨w.heap.size + 1 + 1, 1, none⟩ = some (.int .i64 col) := by rw [hwq]; exact bxW_box w C row col t u q 1
        have k6 : wr.cell? ⟨w.heap.size + 1 + 1, 2, none⟩ = some (.int .i64 t) := by rw [hwq]; exact bxW_box w C row col t u q 2
        have hset : ∀ n, (wr.drewN n).setCell ⟨w.heap.size + 1 + 1, 3, none⟩ (.int .i64 ((u : Int) + 1)) = (bxW w C row col t (u + 1)).drewN (q + n) := fun n => by rw [hwq, World.drewN_drewN]; exact bxW_set w C row col t u (q + n) (u + 1)
        have HSET := Lib.hid hset
        have HWQ := Lib.hid hwq
        clear hset
        by_cases hlu : col + u < wd
        · have k3 : wr.cell? ⟨w.heap.size, 3 + row * 6 + (col + u), none⟩ = some (.int .i64 (g row (col + u))) := by rw [hwq, ← HCELL.out row (col + u) (by omega) (by omega)]; exact bxW_plan w C row col t u q _
          clear hwq
          have hlu' : (col : Int) + (u : Int) < (wd : Int) := by omega
          obtain ⟨z, hz⟩ : ∃ z, g row (col + u) = z := ⟨_, rfl⟩
          rw [hz] at k3
          have HZ := Lib.hid hz; clear hz
          by_cases hzx : z = x
          · have hbz : (z == x) = true := by simp [hzx]
            have HZX := Lib.hid hzx; clear hzx
            go_wp2
            go_quiet (fail)
            go_wp2
            go_roundg (gk - 1)
            case measure => omega
            case rel => exact ⟨u + 1, q + nq, by omega, by omega, by omega, rows_step (P := fun i => (g row (col + i) == x) = true) HALL2.out (by show (g row (col + u) == x) = true; rw [HZ.out, HZX.out]; simp), HSET.out nq⟩
          · have hbz : (z == x) = false := by rw [beq_eq_false_iff_ne]; omega
            have hU : boxWideI wd g row col = u := runLen_eq (wd - col) _ u hu2 (fun i hi => by rw [HX.out]; exact HALL2.out i hi) (fun _ => by rw [HX.out, HZ.out]; simpa using hzx)
            have HU := Lib.hid hU; clear hU hzx
            go_wp2
            go_quiet (fail)
            rw [HWQ.out]
            unfold bxW
            clear k0 k1 k2 k3 k4 k5 k6 HSET
            go_wp2
            refine bodyPost_ret (v := .agg #[.int .i64 row, .int .i64 col, .int .i64 t, .int .i64 u]) (by simp [results, Try.results94, go_sem]) rfl ⟨?_, ?_⟩
            · rw [HT.out, HU.out]
            · exact ((((bxW_below w C row col t u (q + nq)).setCell (by simp) _).setCell (by simp) _).setCell (by simp) _).setCell (by simp) _
        · clear hwq
          have hlu' : decide ((col : Int) + (u : Int) < (wd : Int)) = false := by rw [decide_eq_false_iff_not]; omega
          have hU : boxWideI wd g row col = u := runLen_eq (wd - col) _ u hu2 (fun i hi => by rw [HX.out]; exact HALL2.out i hi) (fun _ => by omega)
          have HU := Lib.hid hU; clear hU
          go_wp2
          go_quiet (fail)
          rw [HWQ.out]
          unfold bxW
          clear k0 k1 k2 k4 k5 k6 HSET
          go_wp2
          refine bodyPost_ret (v := .agg #[.int .i64 row, .int .i64 col, .int .i64 t, .int .i64 u]) (by simp [results, Try.results94, go_sem]) rfl ⟨?_, ?_⟩
          · rw [HT.out, HU.out]
          · exact ((((bxW_below w C row col t u (q + nq)).setCell (by simp) _).setCell (by simp) _).setCell (by simp) _).setCell (by simp) _

/-- the cells of a plan some of which are free -/
def cellZ (z : Nat → Nat → Nat) : Nat → Nat → Int := fun i j => ((z i j : Nat) : Int) - 1
def planZ (h w r : Nat) (z : Nat → Nat → Nat) : Array Value := planI h w r (cellZ z)
theorem runLen_run (z : Nat → Nat → Nat) (i : Nat) : ∀ (n j : Nat), runLen (fun t => z i (j + t) == 0) n = runZ z i j n
  | 0, _ => rfl
  | n + 1, j => by
    unfold runLen runZ
    by_cases h : z i j = 0
    · rw [if_pos h, if_pos (by simpa using h)]
      have := runLen_run z i n (j + 1)
      rw [show (fun t => z i (j + 1 + t) == 0) = fun t => z i (j + (t + 1)) == 0 from funext fun t => by rw [show j + 1 + t = j + (t + 1) by omega]] at this
      rw [this]
    · rw [if_neg h, if_neg (by simpa using h)]
theorem runLen_congr {P P' : Nat → Bool} : ∀ {n : Nat}, (∀ t, t < n → P t = P' t) → runLen P n = runLen P' n
  | 0, _ => rfl
  | n + 1, h => by
    unfold runLen
    rw [h 0 (by omega), runLen_congr (P := fun i => P (i + 1)) (P' := fun i => P' (i + 1)) (n := n) fun t ht => h (t + 1) (by omega)]
theorem boxZ {h wd r : Nat} {z : Nat → Nat → Nat} {x : Nat × Nat} (I : FilI h wd r z) (hx : fstF h wd z = some x) : boxHighI h (cellZ z) x.1 x.2 = h - x.1 ∧ boxWideI wd (cellZ z) x.1 x.2 = runF wd z x.1 x.2 := by
  obtain ⟨x1, x2, x3, _⟩ := fstF_some hx
  have e : ∀ i j, (cellZ z i j == cellZ z x.1 x.2) = (z i j == 0) := fun i j => by
    unfold cellZ
    rw [x3, Bool.eq_iff_iff, beq_iff_eq, beq_iff_eq]; omega
  constructor
  · unfold boxHighI
    refine runLen_eq _ _ _ (Nat.le_refl _) (fun t ht => ?_) (fun h => absurd h (Nat.lt_irrefl _))
    rw [e, beq_iff_eq]
    exact I.down x.1 x.2 (x.1 + t) (by omega) (by omega) x2 x3
  · unfold boxWideI runF
    rw [← runLen_run]
    exact runLen_congr fun t _ => e _ _

/-- one number laid into a box of cells; part of it -/
def layI (G : Nat → Nat → Int) (row col hi wi : Nat) (v : Int) : Nat → Nat → Int := fun a b => if row ≤ a ∧ a < row + hi ∧ col ≤ b ∧ b < col + wi then v else G a b
def layP (G : Nat → Nat → Int) (row col wi : Nat) (v : Int) (i t : Nat) : Nat → Nat → Int := fun a b => if (row ≤ a ∧ a < row + i ∧ col ≤ b ∧ b < col + wi) ∨ (a = row + i ∧ col ≤ b ∧ b < col + t) then v else G a b
theorem layP_zero (G : Nat → Nat → Int) (row col wi : Nat) (v : Int) : layP G row col wi v 0 0 = G := by
  funext a b; unfold layP; rw [if_neg (by omega)]
theorem layP_step (G : Nat → Nat → Int) (row col wi : Nat) (v : Int) (i t : Nat) : (fun a b => if a = row + i ∧ b = col + t then v else layP G row col wi v i t a b) = layP G row col wi v i (t + 1) := by
  funext a b; unfold layP
  by_cases h : a = row + i ∧ b = col + t
  · rw [if_pos h, if_pos (by omega)]
  · rw [if_neg h]
    by_cases h2 : (row ≤ a ∧ a < row + i ∧ col ≤ b ∧ b < col + wi) ∨ (a = row + i ∧ col ≤ b ∧ b < col + t)
    · rw [if_pos h2, if_pos (by omega)]
    · rw [if_neg h2, if_neg (by omega)]
theorem layP_row (G : Nat → Nat → Int) (row col wi : Nat) (v : Int) (i : Nat) : layP G row col wi v i wi = layP G row col wi v (i + 1) 0 := by
  funext a b; unfold layP
  by_cases h : (row ≤ a ∧ a < row + i ∧ col ≤ b ∧ b < col + wi) ∨ (a = row + i ∧ col ≤ b ∧ b < col + wi)
  · rw [if_pos h, if_pos (by omega)]
  · rw [if_neg h, if_neg (by omega)]
theorem layP_end (G : Nat → Nat → Int) (row col hi wi : Nat) (v : Int) : layP G row col wi v hi 0 = layI G row col hi wi v := by
  funext a b; unfold layP layI
  by_cases h : row ≤ a ∧ a < row + hi ∧ col ≤ b ∧ b < col + wi
  · rw [if_pos h, if_pos (by omega)]
  · rw [if_neg h, if_neg (by omega)]
theorem grownBy_setCellI {w w' : World} {B k : Nat} {v : Value} (h : w.grownBy w' (some B)) : w.grownBy (w'.setCell ⟨B, k, none⟩ v) (some B) :=
  ⟨by rw [← h.os]; simp [World.setCell], by rw [← h.tape]; simp [World.setCell], by rw [← h.output]; simp [World.setCell], by rw [World.size_setCell]; exact h.size, fun j hj hne => (Below.heap_setCell w' ⟨B, k, none⟩ v j (fun e => hne (by rw [e]))).trans (h.block j hj hne)⟩

set_option maxRecDepth 100000 in
set_option maxHeartbeats 2000000 in
theorem lay_any (B h wd r : Nat) (G : Nat → Nat → Int) (row col hi wi : Nat) (v : Int) (w : World) (h1 : row + hi ≤ 6) (h2 : col + wi ≤ 6) (hB : HeldB w B 47 (planI h wd r G)) :
    Calls Try.prog 65 #[.pointer (some ⟨B, 0, none⟩), .agg #[.int .i64 row, .int .i64 col, .int .i64 hi, .int .i64 wi], .int .i64 v] w
      fun e w' => e = .returned (.tuple #[]) ∧ HeldB w' B 47 (planI h wd r (layI G row col hi wi v)) ∧ w.grownBy w' (some B) := by
  have hBl := hB.lt
  have hb0 := hB.alloc (.cells #[.int .i64 (row : Int), .int .i64 (col : Int), .int .i64 (hi : Int), .int .i64 (wi : Int)] 100)
  have hV := HeldB.new w 100 #[.int .i64 (row : Int), .int .i64 (col : Int), .int .i64 (hi : Int), .int .i64 (wi : Int)]
  have hg0 := World.grownBy_alloc w (.cells #[.int .i64 (row : Int), .int .i64 (col : Int), .int .i64 (hi : Int), .int .i64 (wi : Int)] 100) (some B)
  have hne : w.heap.size ≠ B := by omega
  rw [← layP_zero G row col wi v] at hb0
  have HP := Lib.hid (fun i t => layP_step G row col wi v i t)
  have HR := Lib.hid (fun i => layP_row G row col wi v i)
  have HE := Lib.hid (layP_end G row col hi wi v)
  have HPUT := Lib.hid (fun (g : Nat → Nat → Int) (i j : Nat) (hi : i < 6) (hj : j < 6) => planI_put (h := h) (w := wd) (r := r) g hi hj v)
  have HAT := Lib.hid (fun (g : Nat → Nat → Int) (i j : Nat) (hi : i < 6) (hj : j < 6) => planI_at h wd r g i j hi hj)
  clear hB
  generalize layP G row col wi v = lp at *
  generalize planI h wd r = pl at *
  go_enter Try.func65, Try.ntmps65
  go_wp2
  generalize w.alloc (.cells #[.int .i64 (row : Int), .int .i64 (col : Int), .int .i64 (hi : Int), .int .i64 (wi : Int)] 100) = W0 at *
  go_loopw [6] (fun vr wr => ∃ i : Nat, i ≤ hi ∧ vr = .int .i64 (row + i : Nat) ∧ HeldB wr B 47 (pl (lp i 0)) ∧ HeldB wr w.heap.size 100 #[.int .i64 (row : Int), .int .i64 (col : Int), .int .i64 (hi : Int), .int .i64 (wi : Int)] ∧ w.grownBy wr (some B)) (fun vr _ => row + hi - (intOf vr).toNat)
  case atStart => exact ⟨0, Nat.zero_le _, rfl, hb0, hV, hg0⟩
  case round =>
    clear hb0 hV hg0
    obtain ⟨i, hi', rfl, hP, hV, hg⟩ := hrel
    have v0 : wr.cell? ⟨w.heap.size, 0, none⟩ = some (.int .i64 (row : Int)) := hV.cell 0
    have v1 : wr.cell? ⟨w.heap.size, 1, none⟩ = some (.int .i64 (col : Int)) := hV.cell 1
    have v2 : wr.cell? ⟨w.heap.size, 2, none⟩ = some (.int .i64 (hi : Int)) := hV.cell 2
    by_cases hlt : i < hi
    · have hlt' : decide (((row + i : Nat) : Int) < (row : Int) + (hi : Int)) = true := by rw [decide_eq_true_eq]; omega
      go_wp2
      go_loopw [7] (fun vc wq => ∃ t : Nat, t ≤ wi ∧ vc = .int .i64 (col + t : Nat) ∧ HeldB wq B 47 (pl (lp i t)) ∧ HeldB wq w.heap.size 100 #[.int .i64 (row : Int), .int .i64 (col : Int), .int .i64 (hi : Int), .int .i64 (wi : Int)] ∧ w.grownBy wq (some B)) (fun vc _ => col + wi - (intOf vc).toNat)
      case atStart => exact ⟨0, Nat.zero_le _, rfl, hP, hV, hg⟩
      case round =>
        clear hP hV hg v0 v1 v2
        obtain ⟨t, ht, rfl, hP, hV, hg⟩ := hrel
        obtain ⟨wq, rfl⟩ : ∃ wq, wq = wr := ⟨_, rfl⟩
        have v1 : wq.cell? ⟨w.heap.size, 1, none⟩ = some (.int .i64 (col : Int)) := hV.cell 1
        have v3 : wq.cell? ⟨w.heap.size, 3, none⟩ = some (.int .i64 (wi : Int)) := hV.cell 3
        by_cases htl : t < wi
        · have htl' : decide (((col + t : Nat) : Int) < (col : Int) + (wi : Int)) = true := by rw [decide_eq_true_eq]; omega
          have hc := (hP.cell (3 + (row + i) * 6 + (col + t))).trans (HAT.out (lp i t) (row + i) (col + t) (by omega) (by omega))
          have hf := hP.frozen (3 + (row + i) * 6 + (col + t))
          have hP2 := hP.set (3 + (row + i) * 6 + (col + t)) (.int .i64 v)
          rw [HPUT.out (lp i t) (row + i) (col + t) (by omega) (by omega), HP.out i t] at hP2
          have HP2 := Lib.hid hP2
          have HV2 := Lib.hid (hV.other (a := ⟨B, 3 + (row + i) * 6 + (col + t), none⟩) hne (.int .i64 v))
          have HG2 := Lib.hid (grownBy_setCellI (k := 3 + (row + i) * 6 + (col + t)) (v := .int .i64 v) hg)
          obtain ⟨rr, hrr⟩ : ∃ rr, rr = row + i := ⟨_, rfl⟩
          obtain ⟨ct, hct⟩ : ∃ ct, ct = col + t := ⟨_, rfl⟩
          have hr6 : rr < 6 := by omega
          have hc6 : ct < 6 := by omega
          rw [← hrr, ← hct] at hc hf HP2 HV2 HG2
          rw [← hct] at htl'
          rw [← hrr, ← hct]
          have HCT := Lib.hid hct; have HRR := Lib.hid hrr
          clear hP hV hg hP2 hct hrr
          generalize lp i t rr ct = z at *
          go_wp2
          go_roundw
          case rel => exact ⟨t + 1, by omega, by rw [HCT.out]; go_num, HP2.out, HV2.out, HG2.out⟩
          case measure => have := HCT.out; simp [intOf]; omega
        · have htl' : decide (((col + t : Nat) : Int) < (col : Int) + (wi : Int)) = false := by rw [decide_eq_false_iff_not]; omega
          obtain rfl : t = wi := by omega
          rw [HR.out i] at hP
          go_wp2
          go_roundw
          case rel => exact ⟨i + 1, by omega, by go_num, hP, hV, hg⟩
          case measure => simp [intOf]; omega
    · have hlt' : decide (((row + i : Nat) : Int) < (row : Int) + (hi : Int)) = false := by rw [decide_eq_false_iff_not]; omega
      obtain rfl : i = hi := by omega
      rw [HE.out] at hP
      go_wp2
      exact bodyPost_end (v := .tuple #[]) (by simp [results, Try.results65, go_sem]) rfl ⟨rfl, hP, hg⟩
end Go.Proofs.Ytpgcpmfemcfoaaa

/-
  The first free cell of a plan: the program's answer. (Walks.)
-/
namespace Go.Proofs.Ytpgcpmfemcfoaaa
open Go.RowKit

theorem freeI_is {wd i k : Nat} {z : Nat → Nat → Nat} (hk : k < wd) (h0 : z i k = 0) (hb : ∀ b, b < k → z i b ≠ 0) : freeI wd z i = some k := by
  cases h : freeI wd z i with
  | none => exact absurd h0 (freeI_none h k hk)
  | some j =>
    obtain ⟨a1, a2, a3⟩ := freeI_some h
    rcases Nat.lt_trichotomy j k with hlt | he | hgt
    · exact absurd a2 (hb j hlt)
    · rw [he]
    · exact absurd h0 (a3 k hgt)
theorem freeI_no {wd i : Nat} {z : Nat → Nat → Nat} (hb : ∀ b, b < wd → z i b ≠ 0) : freeI wd z i = none := by
  cases h : freeI wd z i with
  | none => rfl
  | some j =>
    obtain ⟨a1, a2, _⟩ := freeI_some h
    exact absurd a2 (hb j a1)
theorem fstF_is {h wd i j : Nat} {z : Nat → Nat → Nat} (hi : i < h) (hj : freeI wd z i = some j) (ha : ∀ a, a < i → freeI wd z a = none) : fstF h wd z = some (i, j) := by
  unfold fstF
  obtain ⟨d, rfl⟩ : ∃ d, h = i + 1 + d := ⟨h - i - 1, by omega⟩
  have hn : (List.range i).findSome? (fun i => (freeI wd z i).map fun j => (i, j)) = none := by
    rw [List.findSome?_eq_none_iff]
    intro a h
    rw [ha a (List.mem_range.1 h)]; rfl
  induction d with
  | zero => rw [Nat.add_zero, List.range_succ, List.findSome?_append, hn]; simp [hj]
  | succ d ih => rw [show i + 1 + (d + 1) = (i + 1 + d) + 1 by omega, List.range_succ, List.findSome?_append, ih (by omega)]; rfl
theorem fstF_no {h wd : Nat} {z : Nat → Nat → Nat} (ha : ∀ a, a < h → freeI wd z a = none) : fstF h wd z = none := by
  unfold fstF
  rw [List.findSome?_eq_none_iff]
  intro a h
  rw [ha a (List.mem_range.1 h)]; rfl

def idxF : Option Nat → Int
  | none => -1
  | some j => (j : Int)
def firV : Option (Nat × Nat) → Value
  | none => .tuple #[.int .i64 0, .int .i64 0, .bool false]
  | some x => .tuple #[.int .i64 (x.1 : Int), .int .i64 (x.2 : Int), .bool true]

set_option maxRecDepth 100000 in
set_option maxHeartbeats 1000000 in
theorem indexZ_any (B off cap wd i : Nat) (z : Nat → Nat → Nat) (w : World) (hw : wd ≤ 1000) (hc : ∀ j, j < wd → w.cell? ⟨B, off + j, none⟩ = some (.int .i64 (cellZ z i j))) :
    Calls Try.prog 124 #[.slice (some ⟨B, off, none⟩) wd cap, .int .i64 (-1)] w fun e w' => e = .returned (.int .i64 (idxF (freeI wd z i))) ∧ w' = w := by
  have HC := Lib.hid hc
  have HY := Lib.hid (fun k (hk : k < wd) (h0 : z i k = 0) hb => show idxF (freeI wd z i) = (k : Int) by rw [freeI_is hk h0 hb]; rfl)
  have HN := Lib.hid (fun (hb : ∀ b, b < wd → z i b ≠ 0) => show idxF (freeI wd z i) = -1 by rw [freeI_no hb]; rfl)
  clear hc
  generalize idxF (freeI wd z i) = R at *
  go_enter Try.func124, Try.ntmps124
  go_wp2
  go_loopw [8] (fun vk wr => ∃ k : Nat, k ≤ wd ∧ vk = .int .i64 k ∧ Hid (∀ b, b < k → z i b ≠ 0) ∧ wr = w) (fun vk _ => wd - (intOf vk).toNat)
  case atStart => exact ⟨0, Nat.zero_le _, rfl, Lib.hid (fun b hb => absurd hb (Nat.not_lt_zero _)), rfl⟩
  case round =>
    obtain ⟨k, hk, rfl, HB, rfl⟩ := hrel
    by_cases hlt : k < wd
    · have hlt' : decide ((k : Int) < (wd : Int)) = true := by rw [decide_eq_true_eq]; omega
      have hck := HC.out k hlt
      unfold cellZ at hck
      have HB2 := Lib.hid (fun (h0 : z i k ≠ 0) => show ∀ b, b < k + 1 → z i b ≠ 0 from rows_step HB.out h0)
      have HY2 := Lib.hid (fun (h0 : z i k = 0) => HY.out k hlt h0 HB.out)
      generalize z i k = v at *
      by_cases h0 : v = 0
      · have HR := Lib.hid (HY2.out h0)
        have he : ((-1 : Int) == (v : Int) - 1) = true := by rw [beq_iff_eq]; omega
        have hck0 : wr.cell? ⟨B, off + k, none⟩ = some (.int .i64 ((v : Int) - 1)) := hck
        clear hck h0
        generalize (v : Int) - 1 = u at *
        go_wp2
        go_ret
        exact ⟨by rw [HR.out]; rfl, rfl⟩
      · have HR := Lib.hid (HB2.out h0)
        have he : ((-1 : Int) == (v : Int) - 1) = false := by rw [beq_eq_false_iff_ne]; omega
        have hck0 : wr.cell? ⟨B, off + k, none⟩ = some (.int .i64 ((v : Int) - 1)) := hck
        clear hck h0
        generalize (v : Int) - 1 = u at *
        go_wp2
        go_roundw
        case rel => exact ⟨k + 1, by omega, by go_num, HR, by first | rfl | trivial⟩
        case measure => simp [intOf]; omega
    · obtain rfl : k = wd := by omega
      have hlt' : decide ((k : Int) < (k : Int)) = false := by rw [decide_eq_false_iff_not]; omega
      have HR := Lib.hid (HN.out HB.out)
      go_wp2
      go_ret
      exact ⟨by rw [HR.out]; rfl, rfl⟩

set_option maxRecDepth 100000 in
set_option maxHeartbeats 2000000 in
theorem firstFree_any (h wd r : Nat) (z : Nat → Nat → Nat) (w : World) (hh : h ≤ 6) (hw : wd ≤ 6) :
    Calls Try.prog 93 #[.agg (planZ h wd r z)] w fun e w' => e = .returned (firV (fstF h wd z)) ∧ Below w.heap.size w w' := by
  have hP := HeldB.new w 47 (planZ h wd r z)
  have hb0 := below_alloc w (.cells (planZ h wd r z) 47)
  have HAT := Lib.hid (fun (i j : Nat) (hi : i < 6) (hj : j < 6) => show (planZ h wd r z)[3 + i * 6 + j]? = _ from planI_at h wd r (cellZ z) i j hi hj)
  have H0 := Lib.hid (show (planZ h wd r z)[0]? = _ from planI_0 h wd r (cellZ z))
  have H1 := Lib.hid (show (planZ h wd r z)[1]? = _ from planI_1 h wd r (cellZ z))
  generalize planZ h wd r z = C at *
  have c0 := (hP.cell 0).trans H0.out
  go_enter Try.func93, Try.ntmps93
  go_wp2
  go_loopw [9] (fun vi wr => ∃ i : Nat, i ≤ h ∧ vi = .int .i64 i ∧ Hid (∀ a, a < i → freeI wd z a = none) ∧ HeldB wr w.heap.size 47 C ∧ Below w.heap.size w wr) (fun vi _ => h - (intOf vi).toNat)
  case atStart => exact ⟨0, Nat.zero_le _, rfl, Lib.hid (fun a ha => absurd ha (Nat.not_lt_zero _)), hP, hb0⟩
  case round =>
    clear hP hb0 c0
    obtain ⟨i, hi, rfl, HN, hP, hb⟩ := hrel
    by_cases hlt : i < h
    · have hlt' : decide ((i : Int) < (h : Int)) = true := by rw [decide_eq_true_eq]; omega
      have c1 := (hP.cell 1).trans H1.out
      have HI := Lib.hid (fun n => indexZ_any w.heap.size (3 + i * 6) 6 wd i z (wr.drewN n) (by omega) (fun j hj => ((show HeldB (wr.drewN n) w.heap.size 47 C from hP).cell (3 + i * 6 + j)).trans (HAT.out i j (by omega) (by omega))))
      have hi6 : (i : Int) < 6 := by omega
      have hw6 : (wd : Int) ≤ 6 := by omega
      have HB := Lib.hid (fun n => hb.trans (below_drewN w.heap.size wr n))
      have HP := Lib.hid (fun n => show HeldB (wr.drewN n) w.heap.size 47 C from hP)
      cases hf : freeI wd z i with
      | none =>
        have HN2 := Lib.hid (show ∀ a, a < i + 1 → freeI wd z a = none from rows_step HN.out hf)
        rw [hf] at HI
        change Hid (∀ n, Calls _ _ _ _ fun e w' => e = .returned (.int .i64 (-1)) ∧ _) at HI
        clear hf
        go_wp2
        go_quiet ((go_at_call 124; exact Calls.quiet_of_same (HI.out _)))
        go_wp2
        go_roundw
        case rel => exact ⟨i + 1, by omega, by go_num, HN2, HP.out _, HB.out _⟩
        case measure => simp [intOf]; omega
      | some j =>
        have HE := Lib.hid (fstF_is hlt hf HN.out)
        rw [hf] at HI
        change Hid (∀ n, Calls _ _ _ _ fun e w' => e = .returned (.int .i64 (j : Int)) ∧ _) at HI
        clear hf
        have hj0 : decide ((0 : Int) ≤ (j : Int)) = true := by rw [decide_eq_true_eq]; omega
        go_wp2
        go_quiet ((go_at_call 124; exact Calls.quiet_of_same (HI.out _)))
        go_wp2
        rw [HE.out]
        exact bodyPost_ret (v := .tuple #[.int .i64 (i : Int), .int .i64 (j : Int), .bool true]) (by simp [results, Try.results93, go_sem]) rfl ⟨rfl, HB.out _⟩
    · obtain rfl : i = h := by omega
      have hlt' : decide ((i : Int) < (i : Int)) = false := by rw [decide_eq_false_iff_not]; omega
      have HE := Lib.hid (fstF_no HN.out)
      go_wp2
      rw [HE.out]
      exact bodyPost_ret (v := .tuple #[.int .i64 0, .int .i64 0, .bool false]) (by simp [results, Try.results93, go_sem]) rfl ⟨rfl, hb⟩
end Go.Proofs.Ytpgcpmfemcfoaaa

/-
  The program tells all plans of some rows and columns. (Walks inside a fence.)
-/
namespace Go.Proofs.Ytpgcpmfemcfoaaa
open Go.RowKit Go.Shelf

attribute [local go_sem] Oper.semAt_some

abbrev PZ := Nat × (Nat → Nat → Nat)
def encZ (h wd : Nat) (x : PZ) : Array Value := #[.agg (planZ h wd x.1 x.2)]
theorem planZ_size (h wd r : Nat) (z : Nat → Nat → Nat) : (planZ h wd r z).size = 39 := planI_size _ _ _ _
theorem planZ_info (h wd r : Nat) (z : Nat → Nat → Nat) : (Try.prog.info? 47).map (·.size) = some (planZ h wd r z).size := planI_info _ _ _ _
theorem planZ_one (h wd r : Nat) (z : Nat → Nat → Nat) : (planZ h wd r z).all (·.oneCell') = true := planI_one _ _ _ _
theorem planZ_2 (h wd r : Nat) (z : Nat → Nat → Nat) : (planZ h wd r z)[2]? = some (.int .i64 r) := planI_2 _ _ _ _

set_option maxRecDepth 100000 in
set_option maxHeartbeats 2000000 in
/-- a plan without free cells is told -/
theorem leafZ_in {h wd : Nat} (hh : h ≤ 6) (hw : wd ≤ 6) (l base : Nat) (J : List PZ → World → Prop) (hJ : ∀ s U W, J s U → Below base U W → J s W) (xs : List PZ)
    (hY : ∀ m, 3 ≤ m → ∀ pre x rest W, xs = pre ++ x :: rest → base ≤ W.heap.size → J pre W → YieldAt Fence.wide m Try.prog l (encZ h wd x) W fun e W' => e = .returned (.bool true) ∧ J (pre ++ [x]) W' ∧ KeptFrom base W W')
    (r : Nat) (z : Nat → Nat → Nat) (f : Nat) (pre rest : List PZ) (W : World) (hf : 5 ≤ f) (hz : fstF h wd z = none) (hx : xs = pre ++ (r, z) :: rest) (hbase : base ≤ W.heap.size) (hj : J pre W) :
      CallsIn Fence.wide f Try.prog 67 #[.agg (planZ h wd r z), .func (.yield l) #[] #[]] W fun e W' => e = .returned (.bool true) ∧ J (pre ++ [(r, z)]) W' ∧ KeptFrom base W W' := by
  have hF : ∀ k, Fence.wide.fn k := fun _ => trivial
  have hn1 : 1 ≤ f := by omega
  have HFF := Lib.hid (fun w => firstFree_any h wd r z w hh hw)
  rw [hz] at HFF
  have HSZ := Lib.hid (planZ_info h wd r z)
  have HYY := Lib.hid (hY (f - 1) (by omega) pre (r, z) rest)
  have HX := Lib.hid hx
  unfold encZ at HYY
  have bP := HeldB.new W 47 (planZ h wd r z)
  have hb0 := below_alloc W (.cells (planZ h wd r z) 47)
  have HPP := Lib.hid (And.intro bP hb0)
  change Hid (∀ w, Calls Try.prog _ _ w fun e w' => e = .returned (.tuple #[.int .i64 0, .int .i64 0, .bool false]) ∧ _) at HFF
  generalize planZ h wd r z = C at *
  have hW1 : (W.alloc (.cells C 47)).heap[W.heap.size]? = some (.cells C 47 (0, 0)) := bP
  have HJ := Lib.hid hj; have HB := Lib.hid hb0
  clear hx hj hY hb0 hz
  refine callsIn_of_wp Try.func67 rfl trivial ?_ rfl
  simp only [Try.ntmps67, List.size_toArray, List.length_cons, List.length_nil, Nat.reduceAdd, Nat.reduceSub, Array.replicate_succ, Array.replicate_zero, List.push_toArray, List.append_toArray, List.nil_append, List.cons_append]
  gi_wp2_with (first
    | (refine wpListIn_load_row rfl 47 _ rfl W.heap.size rfl 47 C (0, 0) _ hW1 Try.underlying47 rfl HSZ.out ?_)
    | (refine wpListIn_load_row rfl 47 _ rfl W.heap.size rfl 47 C (0, 0) _ (bP.below hb1) Try.underlying47 rfl HSZ.out ?_)
    | (gi_at_call 93; refine (callsIn_wide.2 (HFF.out _)).mono ?_; rintro e W1 ⟨rfl, hb1⟩; have hbB := below_step HB.out HB.out.size hb1; obtain ⟨fn, tmps, assign, body, hy, hR⟩ := HYY.out W1 HX.out (Nat.le_trans hbase hbB.size) (hJ _ _ _ HJ.out (hbB.mono hbase))))
  refine hR.mono ?_
  rintro e W3 ⟨rfl, hJ3, hk3⟩
  have hKF := (KeptFrom.of_below (B := base) hbB).trans hk3
  clear hy hR
  gi_wp2
  go_ret
  exact ⟨rfl, hJ3, hKF⟩

theorem flat_cut {α : Type} (f : Nat → List α) {n a : Nat} (h : a < n) : ∃ s, (List.range n).flatMap f = (List.range a).flatMap f ++ f a ++ s := by
  obtain ⟨d, rfl⟩ : ∃ d, n = a + 1 + d := ⟨n - a - 1, by omega⟩
  refine ⟨(List.range' (a + 1) d).flatMap f, ?_⟩
  rw [List.range_eq_range', List.range_eq_range', show a + 1 + d = a + (1 + d) by omega, ← List.range'_append_1, List.flatMap_append, ← List.range'_append_1, List.flatMap_append, Nat.zero_add, List.range'_one, List.append_assoc]
  simp
theorem flatR_snoc {α : Type} (f : Nat → List α) (n : Nat) : (List.range (n + 1)).flatMap f = (List.range n).flatMap f ++ f n := by
  rw [List.range_succ, List.flatMap_append]; simp
theorem planI_rooms (h w r r' : Nat) (g : Nat → Nat → Int) : (planI h w r g).setIfInBounds 2 (.int .i64 (r' : Int)) = planI h w r' g := by
  unfold planI
  rw [List.setIfInBounds_toArray]; rfl
theorem lay_put (z : Nat → Nat → Nat) (i j hi wi r : Nat) : layI (cellZ z) i j hi wi (r : Int) = cellZ (putZ z i j hi wi (r + 1)) := by
  funext a b
  unfold layI cellZ putZ
  split
  · omega
  · rfl
/-- what comes of the first widths; of one width and the first heights -/
def rowZ (F : Nat → (Nat → Nat → Nat) → List PZ) (r : Nat) (z : Nat → Nat → Nat) (x : Nat × Nat) (w t : Nat) : List PZ := (List.range t).flatMap fun t => F (r + 1) (putZ z x.1 x.2 (t + 1) (w + 1) (r + 1))
def parZ (F : Nat → (Nat → Nat → Nat) → List PZ) (h r : Nat) (z : Nat → Nat → Nat) (x : Nat × Nat) (w : Nat) : List PZ := (List.range w).flatMap fun w => rowZ F r z x w (h - x.1)
theorem fillZ_some {h wd k r : Nat} {z : Nat → Nat → Nat} {x : Nat × Nat} (hx : fstF h wd z = some x) : fillZ h wd (k + 1) r z = parZ (fillZ h wd k) h r z x (runF wd z x.1 x.2) := by
  show fillAt _ _ _ _ _ _ = _
  rw [hx]; rfl
theorem fillZ_none {h wd k r : Nat} {z : Nat → Nat → Nat} (hx : fstF h wd z = none) : fillZ h wd k r z = [(r, z)] := by
  cases k with
  | zero => rfl
  | succ k => show fillAt _ _ _ _ _ _ = _; rw [hx]; rfl

set_option maxRecDepth 100000 in
set_option maxHeartbeats 8000000 in
theorem fillZ_in {h wd : Nat} (hh : h ≤ 6) (hw : wd ≤ 6) (l base : Nat) (J : List PZ → World → Prop) (hJ : ∀ s U W, J s U → Below base U W → J s W) (xs : List PZ)
    (hY : ∀ m, 3 ≤ m → ∀ pre x rest W, xs = pre ++ x :: rest → base ≤ W.heap.size → J pre W → YieldAt Fence.wide m Try.prog l (encZ h wd x) W fun e W' => e = .returned (.bool true) ∧ J (pre ++ [x]) W' ∧ KeptFrom base W W') :
    ∀ (k r : Nat) (z : Nat → Nat → Nat) (f : Nat) (pre rest : List PZ) (W : World), FilI h wd r z → freeC wd z h ≤ k → k + 5 ≤ f → xs = pre ++ fillZ h wd k r z ++ rest → base ≤ W.heap.size → J pre W →
      CallsIn Fence.wide f Try.prog 67 #[.agg (planZ h wd r z), .func (.yield l) #[] #[]] W fun e W' => e = .returned (.bool true) ∧ J (pre ++ fillZ h wd k r z) W' ∧ KeptFrom base W W'
  | 0, r, z, f, pre, rest, W, I, hfr, hf, hx, hbase, hj => by
    have hz : fstF h wd z = none := by
      cases hz : fstF h wd z with
      | none => rfl
      | some x =>
        obtain ⟨x1, x2, x3, _⟩ := fstF_some hz
        have := freeC_pos x3 x2 h x1; omega
    rw [fillZ_none hz] at hx ⊢
    exact leafZ_in hh hw l base J hJ xs hY r z f pre rest W (by omega) hz (by rw [hx]; simp) hbase hj
  | k + 1, r, z, f, pre, rest, W, I, hfr, hf, hx, hbase, hj => by
    cases hz : fstF h wd z with
    | none =>
      rw [fillZ_none hz] at hx ⊢
      exact leafZ_in hh hw l base J hJ xs hY r z f pre rest W (by omega) hz (by rw [hx]; simp) hbase hj
    | some x =>
      rw [fillZ_some hz] at hx ⊢
      have hF : ∀ k, Fence.wide.fn k := fun _ => trivial
      have hn1 : 1 ≤ f := by omega
      obtain ⟨x1, x2, x3, _⟩ := fstF_some hz
      have hrun := runF_le (z := z) (i := x.1) x2
      obtain ⟨bh, bw⟩ := boxZ I hz
      have HFF := Lib.hid (fun w => firstFree_any h wd r z w hh hw)
      have HBX := Lib.hid (fun w => boxAtI_any h wd r (cellZ z) x.1 x.2 w hh hw x1 x2)
      rw [bh, bw] at HBX
      rw [hz] at HFF
      change Hid (∀ w, Calls Try.prog _ _ w fun e w' => e = .returned (.tuple #[.int .i64 (x.1 : Int), .int .i64 (x.2 : Int), .bool true]) ∧ _) at HFF
      change Hid (∀ w, Calls Try.prog _ #[.agg (planZ h wd r z), _, _] w _) at HBX
      have HLY := Lib.hid (fun (B hi wi : Nat) (w : World) h1 h2 (hB : HeldB w B 47 (planZ h wd r z)) => lay_any B h wd r (cellZ z) x.1 x.2 hi wi (r : Int) w h1 h2 hB)
      have HST := Lib.hid (fun (w t : Nat) (hw : w < runF wd z x.1 x.2) (ht : t < h - x.1) => I.step hz hw ht)
      have hr9 := I.room hz
      have hm36 : h * wd ≤ 36 := Nat.mul_le_mul hh hw
      have HIH := Lib.hid (fillZ_in hh hw l base J hJ xs hY k)
      have HLP := Lib.hid (fun (w t : Nat) => lay_put z x.1 x.2 (t + 1) (w + 1) r)
      have HRM := Lib.hid (fun (w t : Nat) => show (planI h wd r (cellZ (putZ z x.1 x.2 (t + 1) (w + 1) (r + 1)))).setIfInBounds 2 (.int .i64 ((r + 1 : Nat) : Int)) = planZ h wd (r + 1) (putZ z x.1 x.2 (t + 1) (w + 1) (r + 1)) from planI_rooms _ _ _ _ _)
      have HP2 := Lib.hid (planZ_2 h wd r z)
      have HSZ := Lib.hid (planZ_info h wd r z)
      have HS0 := Lib.hid (show zeroC.size = (planZ h wd r z).size by rw [planZ_size]; rfl)
      have HON := Lib.hid (planZ_one h wd r z)
      have HZI := Lib.hid (fun r' z' => planZ_info h wd r' z')
      -- the lists
      have HPW := Lib.hid (fun w => show parZ (fillZ h wd k) h r z x (w + 1) = parZ (fillZ h wd k) h r z x w ++ rowZ (fillZ h wd k) r z x w (h - x.1) from flatR_snoc _ _)
      have HRT := Lib.hid (fun w t => show rowZ (fillZ h wd k) r z x w (t + 1) = rowZ (fillZ h wd k) r z x w t ++ fillZ h wd k (r + 1) (putZ z x.1 x.2 (t + 1) (w + 1) (r + 1)) from flatR_snoc _ _)
      have HXS := Lib.hid (fun (w t : Nat) (hw : w < runF wd z x.1 x.2) (ht : t < h - x.1) => show ∃ s, xs = (pre ++ parZ (fillZ h wd k) h r z x w ++ rowZ (fillZ h wd k) r z x w t) ++ fillZ h wd k (r + 1) (putZ z x.1 x.2 (t + 1) (w + 1) (r + 1)) ++ s by
        obtain ⟨s1, e1⟩ := flat_cut (fun w => rowZ (fillZ h wd k) r z x w (h - x.1)) hw
        obtain ⟨s2, e2⟩ := flat_cut (fun t => fillZ h wd k (r + 1) (putZ z x.1 x.2 (t + 1) (w + 1) (r + 1))) ht
        refine ⟨s2 ++ s1 ++ rest, ?_⟩
        rw [hx]
        show pre ++ (List.range _).flatMap _ ++ rest = _
        rw [e1]
        show pre ++ (_ ++ (List.range _).flatMap _ ++ s1) ++ rest = _
        rw [e2]
        simp only [parZ, rowZ, List.append_assoc])
      have HR0 := Lib.hid (fun w => show rowZ (fillZ h wd k) r z x w 0 = [] from rfl)
      have HW0 := Lib.hid (show parZ (fillZ h wd k) h r z x 0 = [] from rfl)
      generalize hPP : parZ (fillZ h wd k) h r z x = PP at *
      generalize hRR : rowZ (fillZ h wd k) r z x = RR at *
      clear hPP hRR
      have bP := HeldB.new W 47 (planZ h wd r z)
      have hb0 := below_alloc W (.cells (planZ h wd r z) 47)
      generalize hC : planZ h wd r z = C at *
      have HCC := Lib.hid hC; clear hC
      generalize hRN : runF wd z x.1 x.2 = run at *
      clear hRN
      obtain ⟨xi, xj⟩ := x
      simp only at x1 x2 hrun
      have hW1 : (W.alloc (.cells C 47)).heap[W.heap.size]? = some (.cells C 47 (0, 0)) := bP
      have HJ := Lib.hid hj; have HB := Lib.hid hb0
      clear hx hj hY hb0 hz bh bw x3 I
      refine callsIn_of_wp Try.func67 rfl trivial ?_ rfl
      simp only [Try.ntmps67, List.size_toArray, List.length_cons, List.length_nil, Nat.reduceAdd, Nat.reduceSub, Array.replicate_succ, Array.replicate_zero, List.push_toArray, List.append_toArray, List.nil_append, List.cons_append]
      gi_wp2_with (first
        | (refine wpListIn_load_row rfl 47 _ rfl W.heap.size rfl 47 C (0, 0) _ hW1 Try.underlying47 rfl HSZ.out ?_)
        | (refine wpListIn_load_row rfl 47 _ rfl W.heap.size rfl 47 C (0, 0) _ (bP.below hb1) Try.underlying47 rfl HSZ.out ?_)
        | (gi_at_call 93; refine (callsIn_wide.2 (HFF.out _)).mono ?_; rintro e W1 ⟨rfl, hb1⟩)
        | (gi_at_call 94; refine (callsIn_wide.2 (HBX.out _)).mono ?_; rintro e W2 ⟨rfl, hb2⟩))
      have hB2 := below_step (below_step HB.out HB.out.size hb1) (below_step HB.out HB.out.size hb1).size hb2
      have hB3 := hB2.alloc hB2.size (.cells #[.int .i64 (xi : Int), .int .i64 (xj : Int), .int .i64 ((h - xi : Nat) : Int), .int .i64 (run : Int)] 100)
      have hP3 := ((bP.below hb1).below hb2).alloc (.cells #[.int .i64 (xi : Int), .int .i64 (xj : Int), .int .i64 ((h - xi : Nat) : Int), .int .i64 (run : Int)] 100)
      have hV3 := HeldB.new W2 100 #[.int .i64 (xi : Int), .int .i64 (xj : Int), .int .i64 ((h - xi : Nat) : Int), .int .i64 (run : Int)]
      have hJ3 := hJ _ _ _ HJ.out (hB3.mono hbase)
      rw [show pre = pre ++ PP 0 by rw [HW0.out, List.append_nil]] at hJ3
      have hK3 := KeptFrom.of_below (B := base) hB3
      have hVW : W.heap.size < W2.heap.size := by have := ((bP.below hb1).below hb2).lt; omega
      have hbV : base ≤ W2.heap.size := by omega
      clear hb1 hb2 bP hW1 hB2 hB3 HJ HB HFF HBX
      obtain ⟨V, hV⟩ : ∃ V, V = W2.heap.size := ⟨_, rfl⟩
      rw [← hV] at hV3 hVW hbV
      rw [← hV]
      generalize W2.alloc (.cells #[.int .i64 (xi : Int), .int .i64 (xj : Int), .int .i64 ((h - xi : Nat) : Int), .int .i64 (run : Int)] 100) = W3 at *
      clear hV
      obtain ⟨hn, hhn⟩ : ∃ hn, hn = h - xi := ⟨_, rfl⟩
      have hhi : xi + hn ≤ 6 := by omega
      have hhj : xj + run ≤ 6 := by omega
      rw [← hhn] at hV3 HST HPW HXS
      rw [← hhn]
      clear hhn
      gi_loopw [9] (fun vw wr => ∃ u : Nat, u ≤ run ∧ vw = .int .i64 ((u : Int) + 1) ∧ HeldB wr W.heap.size 47 C ∧ HeldB wr V 100 #[.int .i64 (xi : Int), .int .i64 (xj : Int), .int .i64 (hn : Int), .int .i64 (run : Int)] ∧ J (pre ++ PP u) wr ∧ KeptFrom base W wr) (fun vw _ => run + 1 - (intOf vw).toNat)
      case atStart => exact ⟨0, Nat.zero_le _, rfl, hP3, hV3, hJ3, hK3⟩
      case round =>
        clear hP3 hV3 hJ3 hK3
        obtain ⟨u, hu, rfl, hP, hVb, hj, hk⟩ := hrel
        have v3 : wr.cell? ⟨V, 3, none⟩ = some (.int .i64 (run : Int)) := hVb.cell 3
        by_cases hlt : u < run
        · have hlt' : decide ((u : Int) + 1 ≤ (run : Int)) = true := by rw [decide_eq_true_eq]; omega
          have hj0 : J (pre ++ PP u ++ RR u 0) wr := by rw [HR0.out, List.append_nil]; exact hj
          gi_wp2
          gi_loopw [10] (fun vt wq => ∃ t : Nat, t ≤ hn ∧ vt = .int .i64 ((t : Int) + 1) ∧ HeldB wq W.heap.size 47 C ∧ HeldB wq V 100 #[.int .i64 (xi : Int), .int .i64 (xj : Int), .int .i64 (hn : Int), .int .i64 (run : Int)] ∧ J (pre ++ PP u ++ RR u t) wq ∧ KeptFrom base W wq) (fun vt _ => hn + 1 - (intOf vt).toNat)
          case atStart => exact ⟨0, Nat.zero_le _, rfl, hP, hVb, hj0, hk⟩
          case round =>
            clear hP hVb hj hk hj0 v3
            obtain ⟨t, ht, rfl, hP, hVb, hj, hk⟩ := hrel
            obtain ⟨wq, rfl⟩ : ∃ wq, wq = wr := ⟨_, rfl⟩
            have v2 : wq.cell? ⟨V, 2, none⟩ = some (.int .i64 (hn : Int)) := hVb.cell 2
            by_cases htl : t < hn
            · have htl' : decide ((t : Int) + 1 ≤ (hn : Int)) = true := by rw [decide_eq_true_eq]; omega
              obtain ⟨I2, hlt2⟩ := HST.out u t hlt htl
              obtain ⟨s, hs⟩ := HXS.out u t hlt htl
              have hheld : wq.heap[W.heap.size]? = some (.cells C 47 (0, 0)) := hP
              have hPl := hP.lt
              have hVl := hVb.lt
              have hW4 := HeldB.new wq 47 C
              have hP4 := hP.alloc (.cells C 47)
              have hb4 := below_alloc wq (.cells C 47)
              have c42 : (wq.alloc (.cells C 47)).cell? ⟨W.heap.size, 2, none⟩ = some (.int .i64 (r : Nat)) := (hP4.cell 2).trans HP2.out
              have HLA := Lib.hid (HLY.out wq.heap.size (t + 1) (u + 1) (wq.alloc (.cells C 47)) (by omega) (by omega) hW4)
              rw [HLP.out u t] at HLA
              rw [show ((t + 1 : Nat) : Int) = (t : Int) + 1 from rfl, show ((u + 1 : Nat) : Int) = (u : Int) + 1 from rfl] at HLA
              have HRS := Lib.hid (HRT.out u t)
              have hr2 := HRM.out u t
              rw [show ((r + 1 : Nat) : Int) = (r : Int) + 1 from rfl] at hr2
              have HR2 := Lib.hid hr2
              clear hr2
              have HSZ2 := Lib.hid (HZI.out (r + 1) (putZ z xi xj (t + 1) (u + 1) (r + 1)))
              have HC2 := Lib.hid (planI_2 h wd r (cellZ (putZ z xi xj (t + 1) (u + 1) (r + 1))))
              have HIN := Lib.hid (fun (W6 : World) hb hj => HIH.out (r + 1) (putZ z xi xj (t + 1) (u + 1) (r + 1)) (f - 1) (pre ++ PP u ++ RR u t) s W6 I2 (by omega) (by omega) hs hb hj)
              have HJ := Lib.hid hj; have HK := Lib.hid hk; have HV := Lib.hid hVb; have HPP := Lib.hid hP
              clear hs I2 hlt2 hj hk hVb hW4
              have hr36 : r ≤ 36 := by omega
              generalize hz' : putZ z xi xj (t + 1) (u + 1) (r + 1) = z' at *
              clear hz'
              generalize hD : planI h wd r (cellZ z') = D at *
              clear hD
              generalize hE : planZ h wd (r + 1) z' = E at *
              clear hE
              have hbN : base ≤ wq.heap.size := by omega
              gi_wp2_with (first
                | (refine wpListIn_load_row rfl 47 _ rfl W.heap.size rfl 47 C (0, 0) _ hheld Try.underlying47 rfl HSZ.out ?_)
                | (refine wpListIn_alloc_zero rfl 47 rfl zeroC zero_plan ?_)
                | (refine wpListIn_store_new rfl 47 _ _ rfl wq zeroC C rfl rfl rfl HSZ.out HS0.out HON.out ?_)
                | (gi_at_call 65; refine (callsIn_wide.2 (HLA.out)).mono ?_; rintro e W5 ⟨rfl, hN5, hg5⟩; have cN := (hN5.cell 2).trans HC2.out; have fN := hN5.frozen 2; have HN5 := Lib.hid (And.intro hN5 hg5); have hN6 := hN5.set 2 (.int .i64 ((r : Int) + 1)); rw [HR2.out] at hN6; clear hN5 hg5)
                | (refine wpListIn_load_row rfl 47 _ rfl wq.heap.size rfl 47 E (0, 0) _ hN6 Try.underlying47 rfl HSZ2.out ?_))
              obtain ⟨hN5, hg5⟩ := HN5.out
              have hs5 := hg5.size
              rw [World.size_alloc] at hs5
              have hbW6 : Below base wq (W5.setCell ⟨wq.heap.size, 2, none⟩ (.int .i64 ((r : Int) + 1))) := ((hb4.mono hbN).trans (below_of_grownBy hg5 (by rw [World.size_alloc]; omega) (fun k hk => by simp only [Option.some.injEq] at hk; omega))).setCell (p := ⟨wq.heap.size, 2, none⟩) hbN _
              have hJ6 := hJ _ _ _ HJ.out hbW6
              have hP6 := ((HPP.out.alloc (.cells C 47)).kept hg5 (by simp only [ne_eq, Option.some.injEq]; omega)).other (a := ⟨wq.heap.size, 2, none⟩) (by show W.heap.size ≠ wq.heap.size; omega) (.int .i64 ((r : Int) + 1))
              have hV6 := ((HV.out.alloc (.cells C 47)).kept hg5 (by simp only [ne_eq, Option.some.injEq]; omega)).other (a := ⟨wq.heap.size, 2, none⟩) (by show V ≠ wq.heap.size; omega) (.int .i64 ((r : Int) + 1))
              have hK6 : KeptFrom base wq (W5.setCell ⟨wq.heap.size, 2, none⟩ (.int .i64 ((r : Int) + 1))) := ⟨by rw [World.size_setCell]; omega, fun j hj hl => (Below.heap_setCell W5 ⟨wq.heap.size, 2, none⟩ _ j (by show j ≠ wq.heap.size; omega)).trans ((hg5.block j (by rw [World.size_alloc]; omega) (by simp only [ne_eq, Option.some.injEq]; omega)).trans (hb4.block j hl))⟩
              have hz6 : wq.heap.size ≤ (W5.setCell ⟨wq.heap.size, 2, none⟩ (.int .i64 ((r : Int) + 1))).heap.size := hK6.1
              have HK6 := Lib.hid (HK.out.trans hK6)
              refine (HIN.out _ (by omega) hJ6).mono ?_
              rintro e W7 ⟨rfl, hJ7, hk7⟩
              have hP7 : HeldB W7 W.heap.size 47 C := (hk7.2 _ hbase (by omega)).trans hP6
              have hV7 : HeldB W7 V 100 #[.int .i64 (xi : Int), .int .i64 (xj : Int), .int .i64 (hn : Int), .int .i64 (run : Int)] := (hk7.2 _ hbV (by omega)).trans hV6
              have HK7 := Lib.hid (HK6.out.trans hk7)
              rw [List.append_assoc, ← HRS.out] at hJ7
              clear hk7 hK6 hP6 hV6 hJ6 hbW6 hN5 hg5 hs5 hz6 hN6 cN fN c42 hb4 hP4 hheld
              gi_wp2
              go_roundw
              case rel => exact ⟨t + 1, by omega, by go_num, hP7, hV7, hJ7, HK7.out⟩
              case measure => simp [intOf]; omega
            · have htl' : decide ((t : Int) + 1 ≤ (hn : Int)) = false := by rw [decide_eq_false_iff_not]; omega
              obtain rfl : t = hn := by omega
              have HE := Lib.hid (HPW.out u)
              have hj2 : J (pre ++ PP (u + 1)) wq := by rw [HE.out, ← List.append_assoc]; exact hj
              gi_wp2
              go_roundw
              case rel => exact ⟨u + 1, by omega, by go_num, hP, hVb, hj2, hk⟩
              case measure => simp [intOf]; omega
        · have hlt' : decide ((u : Int) + 1 ≤ (run : Int)) = false := by rw [decide_eq_false_iff_not]; omega
          obtain rfl : u = run := by omega
          gi_wp2
          go_ret
          exact ⟨rfl, hj, hk⟩
end Go.Proofs.Ytpgcpmfemcfoaaa

/-
  The iterator over all plans of some rows and columns. (Walks.)
-/
namespace Go.Proofs.Ytpgcpmfemcfoaaa
open Go.RowKit Go.Shelf

attribute [local go_sem] Oper.semAt_some

theorem built_hw (h wd : Nat) : Try.prog.built 47 [(0, .int .i64 (h : Int)), (1, .int .i64 (wd : Int))] = some (planC h wd 0 (fun _ _ => 0)) := by kernel_rfl
theorem lay_free (h wd : Nat) : layI (fun _ _ => (0 : Int)) 0 0 h wd (-1) = cellZ (zFree h wd) := by
  funext a b
  unfold layI cellZ zFree
  by_cases hb : a < h ∧ b < wd
  · rw [if_pos (by omega), if_pos hb]; rfl
  · rw [if_neg (by omega), if_neg hb]; rfl

set_option maxRecDepth 100000 in
set_option maxHeartbeats 1000000 in
theorem allPlans_any (h wd : Nat) (w : World) (hh : h ≤ 6) (hw : wd ≤ 6) :
    Calls Try.prog 32 #[.int .i64 (h : Int), .int .i64 (wd : Int)] w
      fun e w' => ∃ B, e = .returned (.func (.func 66) #[] #[.pointer (some ⟨B, 0, none⟩)]) ∧ B = w.heap.size ∧ HeldB w' B 47 (planZ h wd 0 (zFree h wd)) ∧ Below w.heap.size w w' := by
  have hH := HeldB.new w 47 (planI h wd 0 (fun _ _ => (0 : Int)))
  have hb := below_alloc w (.cells (planI h wd 0 (fun _ _ => (0 : Int))) 47)
  have HLY := Lib.hid (lay_any w.heap.size h wd 0 (fun _ _ => (0 : Int)) 0 0 h wd (-1) _ (by omega) (by omega) hH)
  rw [lay_free] at HLY
  change Hid (Calls Try.prog _ #[_, .agg #[.int .i64 (0 : Int), .int .i64 (0 : Int), .int .i64 (h : Int), .int .i64 (wd : Int)], _] _ fun e w' => _ ∧ HeldB w' w.heap.size 47 (planZ h wd 0 (zFree h wd)) ∧ _) at HLY
  have HBT := Lib.hid (built_hw h wd)
  have HSZ := Lib.hid (planI_info h wd 0 (fun _ _ => (0 : Int)))
  have HS0 := Lib.hid (show zeroC.size = (planI h wd 0 (fun _ _ => (0 : Int))).size by rw [planI_size]; rfl)
  have HON := Lib.hid (planI_one h wd 0 (fun _ _ => (0 : Int)))
  have HPI := Lib.hid (show planC h wd 0 (fun _ _ => 0) = planI h wd 0 (fun _ _ => (0 : Int)) from rfl)
  rw [HPI.out] at HBT
  generalize planI h wd 0 (fun _ _ => (0 : Int)) = C at *
  generalize planZ h wd 0 (zFree h wd) = D at *
  go_enter Try.func32, Try.ntmps32
  go_wp2_with (first
    | (refine wpList_build_as rfl 47 _ rfl C (by simp only [List.map_toArray, List.map_cons, List.map_nil]; exact HBT.out) ?_)
    | (refine wpList_alloc_zero rfl 47 rfl zeroC zero_plan ?_)
    | (refine wpList_store_new rfl 47 _ _ rfl _ zeroC C rfl rfl rfl HSZ.out HS0.out HON.out ?_)
    | (go_at_call 65; refine (HLY.out).mono ?_; rintro e w1 ⟨rfl, hD, hg⟩))
  go_ret
  exact ⟨_, rfl, rfl, hD, hb.trans (below_of_grownBy hg (by simp) (fun k hk => by simp only [Option.some.injEq] at hk; omega))⟩

set_option maxRecDepth 100000 in
/-- what the iterator does: each plan is told once -/
theorem allPlans_in {h wd : Nat} (hh : h ≤ 6) (hw : wd ≤ 6) (B : Nat) (f : Nat) (hf : h * wd + 6 ≤ f) (l : Nat) (J : List PZ → World → Prop) (W1 : World) (hB : HeldB W1 B 47 (planZ h wd 0 (zFree h wd)))
    (hJ : ∀ s U W, J s U → Below W1.heap.size U W → J s W)
    (hY : ∀ m, 3 ≤ m → ∀ pre x rest W, allZ h wd = pre ++ x :: rest → W1.heap.size ≤ W.heap.size → J pre W → YieldAt Fence.wide m Try.prog l (encZ h wd x) W fun e W' => e = .returned (.bool true) ∧ J (pre ++ [x]) W' ∧ KeptFrom W1.heap.size W W')
    (h0 : J [] W1) :
    CallsIn Fence.wide f Try.prog 66 #[.func (.yield l) #[] #[], .pointer (some ⟨B, 0, none⟩)] W1 fun e W' => (∃ v, e = .returned v) ∧ J (allZ h wd) W' := by
  have hF : ∀ k, Fence.wide.fn k := fun _ => trivial
  have hn1 : 1 ≤ f := by omega
  have HF := Lib.hid (fillZ_in hh hw l W1.heap.size J hJ (allZ h wd) hY (h * wd) 0 (zFree h wd) (f - 1) [] [] W1 (FilI.start h wd) (freeC_all _ _ _) (by omega) (by unfold allZ; simp) (Nat.le_refl _) h0)
  have HSZ := Lib.hid (planZ_info h wd 0 (zFree h wd))
  have hHB : W1.heap[B]? = some (.cells (planZ h wd 0 (zFree h wd)) 47 (0, 0)) := hB
  rw [List.nil_append] at HF
  change Hid (CallsIn _ _ _ _ _ _ fun e W' => _ ∧ J (allZ h wd) W' ∧ _) at HF
  clear hJ hY h0 hB
  generalize planZ h wd 0 (zFree h wd) = C at *
  refine callsIn_of_wp Try.func66 rfl trivial ?_ rfl
  simp only [Try.ntmps66, List.size_toArray, List.length_cons, List.length_nil, Nat.reduceAdd, Nat.reduceSub, Array.replicate_succ, Array.replicate_zero, List.push_toArray, List.append_toArray, List.nil_append, List.cons_append]
  gi_wp2_with (first
    | (refine wpListIn_load_row rfl 47 _ rfl B rfl 47 C (0, 0) _ hHB Try.underlying47 rfl HSZ.out ?_)
    | (gi_at_call 67; refine HF.out.mono ?_; rintro e W2 ⟨rfl, hJ2, -⟩))
  go_end0
  exact ⟨⟨_, rfl⟩, hJ2⟩
end Go.Proofs.Ytpgcpmfemcfoaaa
