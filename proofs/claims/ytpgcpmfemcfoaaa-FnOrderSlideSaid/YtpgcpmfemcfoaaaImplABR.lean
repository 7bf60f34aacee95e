/-
  Merged texts: ImplA ImplB.
-/
import Derived.Test.YtpgcpmfemcfoaaaRows
import Derived.Test.YtpgcpmfemcfoaaaRowR

/-
  The program's plans and boxes: small methods. (Walks.)
-/
namespace Go.Proofs.Ytpgcpmfemcfoaaa
open Go.RowKit

set_option maxHeartbeats 400000 in
theorem area_any (row col high wide : Nat) (w : World) (h1 : high ≤ 6) (h2 : wide ≤ 6) :
    Calls Try.prog 130 #[.agg #[.int .i64 row, .int .i64 col, .int .i64 high, .int .i64 wide]] w
      fun e w' => e = .returned (.int .i64 ((high * wide : Nat) : Int)) ∧ Below w.heap.size w w' := by
  have hm : high * wide ≤ 36 := Nat.mul_le_mul h1 h2
  have hw : wrap64 ((high : Int) * (wide : Int)) = ((high * wide : Nat) : Int) := by
    rw [IntWalk.wrap64_in _ ⟨by rw [← Int.natCast_mul]; omega, by rw [← Int.natCast_mul]; omega⟩, Int.natCast_mul]
  have HW := Lib.hid hw; clear hw hm
  go_enter Try.func130, Try.ntmps130
  go_wp2
  go_ret
  exact ⟨ret_int HW.out, below_alloc _ _⟩

/-- all cells of a box are of one room -/
def aloneB (g : Nat → Nat → Nat) (room row col high wide : Nat) : Bool :=
  (List.range high).all fun i => (List.range wide).all fun j => g (row + i) (col + j) == room

theorem aloneB_no {g : Nat → Nat → Nat} {room row col high wide i j : Nat} (hi : i < high) (hj : j < wide) (h : ¬ g (row + i) (col + j) = room) : aloneB g room row col high wide = false := by
  rw [Bool.eq_false_iff]
  intro hh
  unfold aloneB at hh
  rw [List.all_eq_true] at hh
  have h2 := hh i (List.mem_range.2 hi)
  rw [List.all_eq_true] at h2
  have h3 := h2 j (List.mem_range.2 hj)
  exact h (by simpa using h3)
theorem aloneB_yes {g : Nat → Nat → Nat} {room row col high wide : Nat} (h : ∀ i, i < high → ∀ j, j < wide → g (row + i) (col + j) = room) : aloneB g room row col high wide = true := by
  unfold aloneB
  rw [List.all_eq_true]
  intro i hi
  rw [List.all_eq_true]
  intro j hj
  simpa using h i (List.mem_range.1 hi) j (List.mem_range.1 hj)

set_option maxHeartbeats 800000 in
theorem isAlone_any (h wd r : Nat) (g : Nat → Nat → Nat) (room row col high wide : Nat) (w : World) (h1 : row + high ≤ 6) (h2 : col + wide ≤ 6) :
    Calls Try.prog 129 #[.agg (planC h wd r g), .int .i64 room, .agg #[.int .i64 row, .int .i64 col, .int .i64 high, .int .i64 wide]] w
      fun e w' => e = .returned (.bool (aloneB g room row col high wide)) ∧ Below w.heap.size w w' := by
  go_enter Try.func129, Try.ntmps129
  go_wp2
  have hb : Below w.heap.size w ((w.alloc (.cells (planC h wd r g) 47)).alloc (.cells #[.int .i64 row, .int .i64 col, .int .i64 high, .int .i64 wide] 100)) := (below_alloc _ _).alloc (by simp) _
  go_loop [7, 8] (fun vi _ => ∃ (i : Nat), i ≤ high ∧ vi = .int .i64 ((row + i : Nat) : Int) ∧ ∀ i', i' < i → ∀ j, j < wide → g (row + i') (col + j) = room) (fun i _ => row + high - (intOf i).toNat)
  case atStart => exact ⟨0, Nat.zero_le _, rfl, fun i' hi' => by omega⟩
  case round =>
    obtain ⟨i, hi, rfl, hall⟩ := hrel
    have HALL := Lib.hid hall; clear hall
    by_cases hlt : i < high
    · go_wp2
      go_loop [8] (fun vj => ∃ (j : Nat), j ≤ wide ∧ vj = .int .i64 ((col + j : Nat) : Int) ∧ ∀ j', j' < j → g (row + i) (col + j') = room) (fun j => col + wide - (intOf j).toNat)
      case atStart => exact ⟨0, Nat.zero_le _, rfl, fun j' hj' => by omega⟩
      case round =>
        obtain ⟨j, hj, rfl, hr⟩ := hrel
        have HR := Lib.hid hr; clear hr
        by_cases hjl : j < wide
        · have hat := planC_at h wd r g (row + i) (col + j) (by omega) (by omega)
          have HN := Lib.hid (@aloneB_no g room row col high wide i j hlt hjl)
          have HY := Lib.hid (fun hx : g (row + i) (col + j) = room => @rows_step (fun j' => g (row + i) (col + j') = room) j HR.out hx)
          generalize g (row + i) (col + j) = x at *
          by_cases hx : x = room
          · have hne : ((x : Int) != (room : Int)) = false := by simp [hx]
            have HX := Lib.hid hx; clear hx
            go_wp2
            go_round
            case rel => exact ⟨j + 1, by omega, by go_num, HY.out HX.out⟩
            case measure => simp [intOf]; omega
          · have hne : ((x : Int) != (room : Int)) = true := by rw [bne_iff_ne]; omega
            have HX := Lib.hid hx; clear hx
            go_wp2
            go_ret
            exact ⟨ret_bool (HN.out HX.out).symm, hb⟩
        · have HA := Lib.hid (@rows_step (fun i' => ∀ j, j < wide → g (row + i') (col + j) = room) i HALL.out (fun j' hj' => HR.out j' (by omega)))
          go_wp2
          go_round
          case rel => exact ⟨i + 1, by omega, by go_num, HA.out⟩
          case measure => simp [intOf]; omega
    · have HA := Lib.hid (aloneB_yes (g := g) (room := room) (row := row) (col := col) (fun i' hi' => HALL.out i' (by omega : i' < i)) : aloneB g room row col high wide = true)
      go_wp2
      go_ret
      exact ⟨ret_bool HA.out.symm, hb⟩

/-- how many of the first n hold, from the first one on -/
def runLen (P : Nat → Bool) : Nat → Nat
  | 0 => 0
  | n + 1 => if P 0 then runLen (fun i => P (i + 1)) n + 1 else 0

theorem runLen_le : ∀ (n : Nat) (P : Nat → Bool), runLen P n ≤ n
  | 0, _ => Nat.le_refl _
  | n + 1, P => by
    rw [runLen]; split
    · have := runLen_le n (fun i => P (i + 1)); omega
    · omega

theorem runLen_eq : ∀ (n : Nat) (P : Nat → Bool) (t : Nat), t ≤ n → (∀ i, i < t → P i = true) → (t < n → P t = false) → runLen P n = t
  | 0, P, t, h, _, _ => by rw [runLen]; omega
  | n + 1, P, 0, _, _, h3 => by rw [runLen, h3 (by omega)]; rfl
  | n + 1, P, t + 1, h1, h2, h3 => by
    rw [runLen, h2 0 (by omega), if_pos rfl, runLen_eq n (fun i => P (i + 1)) t (by omega) (fun i hi => h2 (i + 1) (by omega)) (fun h => h3 (by omega))]

theorem runLen_all : ∀ (n : Nat) (P : Nat → Bool) (i : Nat), i < runLen P n → P i = true
  | 0, P, i, h => by rw [runLen] at h; omega
  | n + 1, P, i, h => by
    rw [runLen] at h
    split at h
    · cases i with
      | zero => assumption
      | succ i => exact runLen_all n (fun i => P (i + 1)) i (by omega)
    · omega

theorem runLen_stop : ∀ (n : Nat) (P : Nat → Bool), runLen P n < n → P (runLen P n) = false
  | 0, P, h => by omega
  | n + 1, P, h => by
    rw [runLen] at h ⊢
    split
    · rename_i h0
      rw [if_pos h0] at h
      exact runLen_stop n (fun i => P (i + 1)) (by omega)
    · simp_all

end Go.Proofs.Ytpgcpmfemcfoaaa

/-
  The program's boxes: where a room goes. (Walk.)
-/
namespace Go.Proofs.Ytpgcpmfemcfoaaa
open Go.RowKit

def boxHigh (h : Nat) (g : Nat → Nat → Nat) (row col : Nat) : Nat := runLen (fun t => g (row + t) col == g row col) (h - row)
def boxWide (wd : Nat) (g : Nat → Nat → Nat) (row col : Nat) : Nat := runLen (fun t => g row (col + t) == g row col) (wd - col)

/-- the world in which a box has gone so far -/
def bxW (w : World) (C : Array Value) (row col hi wi : Nat) : World :=
  ((w.alloc (.cells C 47)).alloc (.cells #[.int .i64 0, .int .i64 0, .int .i64 0, .int .i64 0] 100)).alloc (.cells #[.int .i64 row, .int .i64 col, .int .i64 hi, .int .i64 wi] 100)

theorem bxW_plan (w : World) (C : Array Value) (row col hi wi q k : Nat) : ((bxW w C row col hi wi).drewN q).cell? ⟨w.heap.size, k, none⟩ = C[k]? := by
  unfold bxW
  rw [World.cell?_drewN, World.cell?_alloc_past _ _ _ (by simp; omega), World.cell?_alloc_past _ _ _ (by simp), World.cell?_alloc_at _ _ _ _ rfl]
theorem bxW_box (w : World) (C : Array Value) (row col hi wi q k : Nat) : ((bxW w C row col hi wi).drewN q).cell? ⟨w.heap.size + 1 + 1, k, none⟩ = (#[Value.int .i64 row, .int .i64 col, .int .i64 hi, .int .i64 wi] : Array Value)[k]? := by
  unfold bxW
  rw [World.cell?_drewN, World.cell?_alloc_at _ _ _ _ (by simp)]
theorem bxW_free (w : World) (C : Array Value) (row col hi wi q k : Nat) : ((bxW w C row col hi wi).drewN q).frozen? ⟨w.heap.size + 1 + 1, k, none⟩ = false := by
  unfold bxW
  rw [World.frozen?_drewN, World.frozen?_alloc_at _ _ _ _ (by simp)]
theorem bxW_set (w : World) (C : Array Value) (row col hi wi q m : Nat) : ((bxW w C row col hi wi).drewN q).setCell ⟨w.heap.size + 1 + 1, 3, none⟩ (.int .i64 (m : Int)) = (bxW w C row col hi m).drewN q := by
  show ((bxW w C row col hi wi).setCell _ _).drewN q = _
  congr 1
  unfold bxW
  rw [World.setCell_alloc_at _ _ _ _ _ (by simp)]
  rfl
theorem bxW_set2 (w : World) (C : Array Value) (row col hi wi m : Nat) : (bxW w C row col hi wi).setCell ⟨w.heap.size + 1 + 1, 2, none⟩ (.int .i64 (m : Int)) = bxW w C row col m wi := by
  unfold bxW
  rw [World.setCell_alloc_at _ _ _ _ _ (by simp)]
  rfl
theorem bxW_below (w : World) (C : Array Value) (row col hi wi q : Nat) : Below w.heap.size w ((bxW w C row col hi wi).drewN q) :=
  ((((Below.refl _ w).alloc (Nat.le_refl _) _).alloc (by simp) _).alloc (by simp; omega) _).trans (below_drewN _ _ _)

set_option maxHeartbeats 800000 in
theorem boxAt_any (h wd r : Nat) (g : Nat → Nat → Nat) (row col : Nat) (w : World) (hh : h ≤ 6) (hw : wd ≤ 6) (h1 : row < h) (h2 : col < wd) :
    Calls Try.prog 94 #[.agg (planC h wd r g), .int .i64 row, .int .i64 col] w
      fun e w' => e = .returned (.agg #[.int .i64 row, .int .i64 col, .int .i64 (boxHigh h g row col : Nat), .int .i64 (boxWide wd g row col : Nat)]) ∧ Below w.heap.size w w' := by
  have hat := planC_at h wd r g row col (by omega) (by omega)
  have hp0 := planC_0 h wd r g
  have hp1 := planC_1 h wd r g
  have hcell : ∀ i j, i < 6 → j < 6 → (planC h wd r g)[3 + i * 6 + j]? = some (.int .i64 (g i j : Nat)) := planC_at h wd r g
  have HCELL := Lib.hid hcell; clear hcell
  generalize planC h wd r g = C at *
  obtain ⟨x, hx⟩ : ∃ x, g row col = x := ⟨_, rfl⟩
  rw [hx] at hat
  have HX := Lib.hid hx; clear hx
  go_enter Try.func94, Try.ntmps94
  go_wp2
  go_loopg [18] (h - row) (fun gh _ wr => ∃ (t : Nat), t + gh = h - row + 1 ∧ 1 ≤ t ∧ t ≤ h - row ∧ (∀ i, i < t → (g (row + i) col == x) = true) ∧ wr = bxW w C row col t 1)
  case atStart => exact ⟨1, by omega, Nat.le_refl _, by omega, (fun i hi => by obtain rfl : i = 0 := (by omega); rw [Nat.add_zero, HX.out]; simp), rfl⟩
  case round =>
    obtain ⟨t, htg, ht1, ht2, hall, hwr⟩ := hrel
    have HALL := Lib.hid hall; clear hall
    have f0 : wr.cell? ⟨w.heap.size, 0, none⟩ = some (.int .i64 h) := by rw [hwr, ← hp0]; exact bxW_plan w C row col t 1 0 0
    have f1 : wr.cell? ⟨w.heap.size + 1 + 1, 2, none⟩ = some (.int .i64 t) := by rw [hwr]; exact bxW_box w C row col t 1 0 2
    have f2 : wr.frozen? ⟨w.heap.size + 1 + 1, 2, none⟩ = false := by rw [hwr]; exact bxW_free w C row col t 1 0 2
    have hset : wr.setCell ⟨w.heap.size + 1 + 1, 2, none⟩ (.int .i64 ((t : Int) + 1)) = bxW w C row col (t + 1) 1 := by rw [hwr]; exact bxW_set2 w C row col t 1 (t + 1)
    have HSET := Lib.hid hset
    have HWR := Lib.hid hwr
    clear hset
    by_cases hlt : row + t < h
    · have f3 : wr.cell? ⟨w.heap.size, 3 + (row + t) * 6 + col, none⟩ = some (.int .i64 (g (row + t) col : Nat)) := by rw [hwr, ← HCELL.out (row + t) col (by omega) (by omega)]; exact bxW_plan w C row col t 1 0 _
      clear hwr
      obtain ⟨y, hy⟩ : ∃ y, g (row + t) col = y := ⟨_, rfl⟩
      rw [hy] at f3
      have HY := Lib.hid hy; clear hy
      by_cases hyx : y = x
      · have hbe : ((y : Int) == (x : Int)) = true := by simp [hyx]
        have HYX := Lib.hid hyx; clear hyx
        go_wp2
        go_roundg (gk - 1)
        case measure => omega
        case rel => exact ⟨t + 1, by omega, by omega, by omega, rows_step (P := fun i => (g (row + i) col == x) = true) HALL.out (by show (g (row + t) col == x) = true; rw [HY.out, HYX.out]; simp), HSET.out⟩
      · have hbe : ((y : Int) == (x : Int)) = false := by rw [beq_eq_false_iff_ne]; omega
        have hT : boxHigh h g row col = t := runLen_eq (h - row) _ t ht2 (fun i hi => by rw [HX.out]; exact HALL.out i hi) (fun _ => by rw [HX.out, HY.out]; simpa using hyx)
        have HT := Lib.hid hT; clear hT hyx
        go_wp2
        clear f0 f1 f2 f3 HSET
        go_loopg [42] (wd - col) (fun gh _ wq => ∃ (u q : Nat), u + gh = wd - col + 1 ∧ 1 ≤ u ∧ u ≤ wd - col ∧ (∀ i, i < u → (g row (col + i) == x) = true) ∧ wq = (bxW w C row col t u).drewN q)
        case atStart => exact ⟨1, 0, by omega, Nat.le_refl _, by omega, (fun i hi => by obtain rfl : i = 0 := (by omega); rw [Nat.add_zero, HX.out]; simp), HWR.out⟩
        case round =>
          obtain ⟨u, q, hug, hu1, hu2, hall2, hwq⟩ := hrel
          have HALL2 := Lib.hid hall2; clear hall2 HWR
          have k0 : wr.cell? ⟨w.heap.size, 1, none⟩ = some (.int .i64 wd) := by rw [hwq, ← hp1]; exact bxW_plan w C row col t u q 1
          have k1 : wr.cell? ⟨w.heap.size + 1 + 1, 3, none⟩ = some (.int .i64 u) := by rw [hwq]; exact bxW_box w C row col t u q 3
          have k2 : wr.frozen? ⟨w.heap.size + 1 + 1, 3, none⟩ = false := by rw [hwq]; exact bxW_free w C row col t u q 3
          have k4 : wr.cell? ⟨w.heap.size + 1 + 1, 0, none⟩ = some (.int .i64 row) := by rw [hwq]; exact bxW_box w C row col t u q 0
          have k5 : wr.cell? ⟨w.heap.size + 1 + 1, 1, none⟩ = some (.int .i64 col) := by rw [hwq]; exact bxW_box w C row col t u q 1
          have k6 : wr.cell? ⟨w.heap.size + 1 + 1, 2, none⟩ = some (.int .i64 t) := by rw [hwq]; exact bxW_box w C row col t u q 2
          have hset : ∀ n, (wr.drewN n).setCell ⟨w.heap.size + 1 + 1, 3, none⟩ (.int .i64 ((u : Int) + 1)) = (bxW w C row col t (u + 1)).drewN (q + n) := fun n => by rw [hwq, World.drewN_drewN]; exact bxW_set w C row col t u (q + n) (u + 1)
          have HSET := Lib.hid hset
          have HWQ := Lib.hid hwq
          clear hset
          by_cases hlu : col + u < wd
          · have k3 : wr.cell? ⟨w.heap.size, 3 + row * 6 + (col + u), none⟩ = some (.int .i64 (g row (col + u) : Nat)) := by rw [hwq, ← HCELL.out row (col + u) (by omega) (by omega)]; exact bxW_plan w C row col t u q _
            clear hwq
            have hlu' : (col : Int) + (u : Int) < (wd : Int) := by omega
            obtain ⟨z, hz⟩ : ∃ z, g row (col + u) = z := ⟨_, rfl⟩
            rw [hz] at k3
            have HZ := Lib.hid hz; clear hz
            by_cases hzx : z = x
            · have hbz : ((z : Int) == (x : Int)) = true := by simp [hzx]
              have HZX := Lib.hid hzx; clear hzx
              go_wp2
              go_quiet (fail)
              go_wp2
              go_roundg (gk - 1)
              case measure => omega
              case rel => exact ⟨u + 1, q + nq, by omega, by omega, by omega, rows_step (P := fun i => (g row (col + i) == x) = true) HALL2.out (by show (g row (col + u) == x) = true; rw [HZ.out, HZX.out]; simp), HSET.out nq⟩
            · have hbz : ((z : Int) == (x : Int)) = false := by rw [beq_eq_false_iff_ne]; omega
              have hU : boxWide wd g row col = u := runLen_eq (wd - col) _ u hu2 (fun i hi => by rw [HX.out]; exact HALL2.out i hi) (fun _ => by rw [HX.out, HZ.out]; simpa using hzx)
              have HU := Lib.hid hU; clear hU hzx
              go_wp2
              go_quiet (fail)
              rw [HWQ.out]
              unfold bxW
              clear k0 k1 k2 k3 k4 k5 k6 HSET
              go_wp2
              refine bodyPost_ret (v := .agg #[.int .i64 row, .int .i64 col, .int .i64 t, .int .i64 u]) (by simp [results, Try.results94, go_sem]) rfl ⟨?_, ?_⟩
              · rw [HT.out, HU.out]
              · exact ((((bxW_below w C row col t u (q + nq)).setCell (by simp) _).setCell (by simp) _).setCell (by simp) _).setCell (by simp) _
          · clear hwq
            have hlu' : decide ((col : Int) + (u : Int) < (wd : Int)) = false := by rw [decide_eq_false_iff_not]; omega
            have hU : boxWide wd g row col = u := runLen_eq (wd - col) _ u hu2 (fun i hi => by rw [HX.out]; exact HALL2.out i hi) (fun _ => by omega)
            have HU := Lib.hid hU; clear hU
            go_wp2
            go_quiet (fail)
            rw [HWQ.out]
            unfold bxW
            clear k0 k1 k2 k4 k5 k6 HSET
            go_wp2
            refine bodyPost_ret (v := .agg #[.int .i64 row, .int .i64 col, .int .i64 t, .int .i64 u]) (by simp [results, Try.results94, go_sem]) rfl ⟨?_, ?_⟩
            · rw [HT.out, HU.out]
            · exact ((((bxW_below w C row col t u (q + nq)).setCell (by simp) _).setCell (by simp) _).setCell (by simp) _).setCell (by simp) _
    · have hT : boxHigh h g row col = t := runLen_eq (h - row) _ t ht2 (fun i hi => by rw [HX.out]; exact HALL.out i hi) (fun _ => by omega)
      have HT := Lib.hid hT; clear hT hwr
      go_wp2
      clear f0 f1 f2 HSET
      go_loopg [42] (wd - col) (fun gh _ wq => ∃ (u q : Nat), u + gh = wd - col + 1 ∧ 1 ≤ u ∧ u ≤ wd - col ∧ (∀ i, i < u → (g row (col + i) == x) = true) ∧ wq = (bxW w C row col t u).drewN q)
      case atStart => exact ⟨1, 0, by omega, Nat.le_refl _, by omega, (fun i hi => by obtain rfl : i = 0 := (by omega); rw [Nat.add_zero, HX.out]; simp), HWR.out⟩
      case round =>
        obtain ⟨u, q, hug, hu1, hu2, hall2, hwq⟩ := hrel
        have HALL2 := Lib.hid hall2; clear hall2 HWR
        have k0 : wr.cell? ⟨w.heap.size, 1, none⟩ = some (.int .i64 wd) := by rw [hwq, ← hp1]; exact bxW_plan w C row col t u q 1
        have k1 : wr.cell? ⟨w.heap.size + 1 + 1, 3, none⟩ = some (.int .i64 u) := by rw [hwq]; exact bxW_box w C row col t u q 3
        have k2 : wr.frozen? ⟨w.heap.size + 1 + 1, 3, none⟩ = false := by rw [hwq]; exact bxW_free w C row col t u q 3
        have k4 : wr.cell? ⟨w.heap.size + 1 + 1, 0, none⟩ = some (.int .i64 row) := by rw [hwq]; exact bxW_box w C row col t u q 0
        have k5 : wr.cell? ⟨w.heap.size + 1 + 1, 1, none⟩ = some (.int .i64 col) := by rw [hwq]; exact bxW_box w C row col t u q 1
        have k6 : wr.cell? ⟨w.heap.size + 1 + 1, 2, none⟩ = some (.int .i64 t) := by rw [hwq]; exact bxW_box w C row col t u q 2
        have hset : ∀ n, (wr.drewN n).setCell ⟨w.heap.size + 1 + 1, 3, none⟩ (.int .i64 ((u : Int) + 1)) = (bxW w C row col t (u + 1)).drewN (q + n) := fun n => by rw [hwq, World.drewN_drewN]; exact bxW_set w C row col t u (q + n) (u + 1)
        have HSET := Lib.hid hset
        have HWQ := Lib.hid hwq
        clear hset
        by_cases hlu : col + u < wd
        · have k3 : wr.cell? ⟨w.heap.size, 3 + row * 6 + (col + u), none⟩ = some (.int .i64 (g row (col + u) : Nat)) := by rw [hwq, ← HCELL.out row (col + u) (by omega) (by omega)]; exact bxW_plan w C row col t u q _
          clear hwq
          have hlu' : (col : Int) + (u : Int) < (wd : Int) := by omega
          obtain ⟨z, hz⟩ : ∃ z, g row (col + u) = z := ⟨_, rfl⟩
          rw [hz] at k3
          have HZ := Lib.hid hz; clear hz
          by_cases hzx : z = x
          · have hbz : ((z : Int) == (x : Int)) = true := by simp [hzx]
            have HZX := Lib.hid hzx; clear hzx
            go_wp2
            go_quiet (fail)
            go_wp2
            go_roundg (gk - 1)
            case measure => omega
            case rel => exact ⟨u + 1, q + nq, by omega, by omega, by omega, rows_step (P := fun i => (g row (col + i) == x) = true) HALL2.out (by show (g row (col + u) == x) = true; rw [HZ.out, HZX.out]; simp), HSET.out nq⟩
          · have hbz : ((z : Int) == (x : Int)) = false := by rw [beq_eq_false_iff_ne]; omega
            have hU : boxWide wd g row col = u := runLen_eq (wd - col) _ u hu2 (fun i hi => by rw [HX.out]; exact HALL2.out i hi) (fun _ => by rw [HX.out, HZ.out]; simpa using hzx)
            have HU := Lib.hid hU; clear hU hzx
            go_wp2
            go_quiet (fail)
            rw [HWQ.out]
            unfold bxW
            clear k0 k1 k2 k3 k4 k5 k6 HSET
            go_wp2
            refine bodyPost_ret (v := .agg #[.int .i64 row, .int .i64 col, .int .i64 t, .int .i64 u]) (by simp [results, Try.results94, go_sem]) rfl ⟨?_, ?_⟩
            · rw [HT.out, HU.out]
            · exact ((((bxW_below w C row col t u (q + nq)).setCell (by simp) _).setCell (by simp) _).setCell (by simp) _).setCell (by simp) _
        · clear hwq
          have hlu' : decide ((col : Int) + (u : Int) < (wd : Int)) = false := by rw [decide_eq_false_iff_not]; omega
          have hU : boxWide wd g row col = u := runLen_eq (wd - col) _ u hu2 (fun i hi => by rw [HX.out]; exact HALL2.out i hi) (fun _ => by omega)
          have HU := Lib.hid hU; clear hU
          go_wp2
          go_quiet (fail)
          rw [HWQ.out]
          unfold bxW
          clear k0 k1 k2 k4 k5 k6 HSET
          go_wp2
          refine bodyPost_ret (v := .agg #[.int .i64 row, .int .i64 col, .int .i64 t, .int .i64 u]) (by simp [results, Try.results94, go_sem]) rfl ⟨?_, ?_⟩
          · rw [HT.out, HU.out]
          · exact ((((bxW_below w C row col t u (q + nq)).setCell (by simp) _).setCell (by simp) _).setCell (by simp) _).setCell (by simp) _

end Go.Proofs.Ytpgcpmfemcfoaaa
