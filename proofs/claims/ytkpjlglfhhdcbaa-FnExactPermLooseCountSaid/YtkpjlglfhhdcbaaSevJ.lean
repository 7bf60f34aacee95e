
/-
  The program's permutations: the ranks of the numbers at four places. (Walks, and the mathematics of it.)
-/
import Derived.Test.YtkpjlglfhhdcbaaSevN
import Derived.Test.YtkpjlglfhhdcbaaSevQ
import Derived.Test.YtkpjlglfhhdcbaaSevF
import Derived.BigQuiet
namespace Go.Proofs.Ytkpjlglfhhdcbaa
open Go.RowKit

/-- how many of the first k of four places have a number that is not greater than the one at the i-th -/
def rkN (P : List Int) (F : List Nat) (i : Nat) : Nat → Nat
  | 0 => 0
  | k + 1 => rkN P F i k + if P.getD (F.getD k 0) 0 ≤ P.getD (F.getD i 0) 0 then 1 else 0
theorem rkN_le (P : List Int) (F : List Nat) (i : Nat) : ∀ k, rkN P F i k ≤ k
  | 0 => Nat.le_refl _
  | k + 1 => by have := rkN_le P F i k; rw [rkN]; split <;> omega
/-- the ranks once i places are over, and k of the next one -/
def rkL (P : List Int) (F : List Nat) (i k : Nat) : List Int := (List.range 4).map fun (j : Nat) => if j < i then ((rkN P F j 4 : Nat) : Int) else if j = i then ((rkN P F i k : Nat) : Int) else 0
theorem rkL_len (P : List Int) (F : List Nat) (i k : Nat) : (rkL P F i k).length = 4 := by simp [rkL]
theorem rkL_at {P : List Int} {F : List Nat} {i k j : Nat} (h : j < 4) : (rkL P F i k).getD j 0 = if j < i then ((rkN P F j 4 : Nat) : Int) else if j = i then ((rkN P F i k : Nat) : Int) else 0 := by simp [rkL, h]
theorem rkL_zero (P : List Int) (F : List Nat) : rkL P F 0 0 = List.replicate 4 0 := by
  refine list_ext (by rw [rkL_len]; rfl) fun j hj => ?_
  rw [rkL_len] at hj
  rw [rkL_at hj, if_neg (by omega), List.getD_eq_getElem?_getD, List.getElem?_replicate, if_pos hj]
  split <;> rfl
theorem rkL_next (P : List Int) (F : List Nat) (i : Nat) : rkL P F i 4 = rkL P F (i + 1) 0 := by
  refine list_ext (by rw [rkL_len, rkL_len]) fun j hj => ?_
  rw [rkL_len] at hj
  rw [rkL_at hj, rkL_at hj]
  by_cases h : j < i
  · rw [if_pos h, if_pos (by omega)]
  · by_cases h' : j = i
    · subst h'; rw [if_neg h, if_pos rfl, if_pos (by omega)]
    · rw [if_neg h, if_neg h', if_neg (by omega)]; split <;> rfl
theorem rkL_put (P : List Int) (F : List Nat) {i k : Nat} (hi : i < 4) (v : Nat) (hv : rkN P F i (k + 1) = v) : (rkL P F i k).set i (v : Int) = rkL P F i (k + 1) := by
  refine list_ext (by rw [List.length_set, rkL_len, rkL_len]) fun j hj => ?_
  rw [List.length_set, rkL_len] at hj
  rw [set_getD _ _ _ _ (by rw [rkL_len]; exact hi), rkL_at hj, rkL_at hj]
  by_cases h : j = i
  · subst h; rw [if_pos rfl, if_neg (by omega), if_pos rfl, hv]
  · rw [if_neg h, if_neg h, if_neg h]
theorem rkL_same (P : List Int) (F : List Nat) {i k : Nat} (h : rkN P F i (k + 1) = rkN P F i k) : rkL P F i k = rkL P F i (k + 1) := by
  unfold rkL; rw [h]

def fourL (a b c d : Nat) : List Int := [(a : Int), (b : Int), (c : Int), (d : Int)]
def fourN (a b c d : Nat) : List Nat := [a, b, c, d]
theorem four_at {a b c d i : Nat} (h : i < 4) : (fourL a b c d).getD i 0 = (((fourN a b c d).getD i 0 : Nat) : Int) := by
  rcases (show i = 0 ∨ i = 1 ∨ i = 2 ∨ i = 3 by omega) with rfl | rfl | rfl | rfl <;> rfl
theorem four_low {a b c d i : Nat} (ha : a < 7) (hb : b < 7) (hc : c < 7) (hd : d < 7) (h : i < 4) : (fourN a b c d).getD i 0 < 7 := by
  rcases (show i = 0 ∨ i = 1 ∨ i = 2 ∨ i = 3 by omega) with rfl | rfl | rfl | rfl <;> assumption
theorem run_index4 {C : Array Value} {k : Nat} {v : Int} (hk : k < 4) (hC : C[k]? = some (.int .i64 v)) (w : World) : (Instr.index 54 (.agg C) (.int .i64 (k : Int))).run Try.prog w = .ok (.int .i64 v) w := by
  have h0 : (0 : Int) ≤ (k : Int) ∧ (k : Int) < 4 := by omega
  simp [Instr.index, asIntOf, run_underlying Try.underlying54, go_sem, hC, hk]
theorem four_size {L : List Int} (h : L.length = 4) : (Try.prog.info? 54).map (·.size) = some (numC L).size := by rw [numC_size, h]; kernel_rfl
theorem zero4 : numC (List.replicate 4 0) = #[.int .i64 0, .int .i64 0, .int .i64 0, .int .i64 0] := by kernel_rfl

set_option maxRecDepth 100000 in
set_option maxHeartbeats 4000000 in
theorem ranks_any {P : List Int} (h : Sev P) {a b c d : Nat} (ha : a < 7) (hb : b < 7) (hc : c < 7) (hd : d < 7) (w : World) :
    Calls Try.prog 65 #[.agg (numC P), .agg (numC (fourL a b c d))] w fun e w' => e = .returned (.agg (numC (rkL P (fourN a b c d) 4 0))) ∧ Below w.heap.size w w' := by
  have HF4 := Lib.hid (fun i (hi : i < 4) => four_low ha hb hc hd hi)
  have hfl : (fourL a b c d).length = 4 := rfl
  have HS4 := Lib.hid (four_size hfl)
  have hfat : ∀ i, i < 4 → (numC (fourL a b c d))[i]? = some (.int .i64 (((fourN a b c d).getD i 0 : Nat) : Int)) := fun i hi => by rw [numC_at (by rw [hfl]; exact hi), four_at hi]
  have HFA := Lib.hid hfat; clear hfat hfl
  have hpat : ∀ i, i < 7 → (numC P)[i]? = some (.int .i64 (P.getD i 0)) := fun i hi => numC_at (by rw [h.len]; exact hi)
  have HPA := Lib.hid hpat; clear hpat
  clear h ha hb hc hd
  generalize fourN a b c d = F at *
  generalize numC (fourL a b c d) = D at *
  have h0 : HeldB ((((w.alloc (.cells (numC P) 35)).alloc (.cells D 54)).alloc (.cells #[.int .i64 0, .int .i64 0, .int .i64 0, .int .i64 0] 54)).alloc (.cells #[.int .i64 0, .int .i64 0, .int .i64 0, .int .i64 0] 54)) w.heap.size 35 (numC P) := (((HeldB.new w _ _).alloc _).alloc _).alloc _
  have h1 : HeldB ((((w.alloc (.cells (numC P) 35)).alloc (.cells D 54)).alloc (.cells #[.int .i64 0, .int .i64 0, .int .i64 0, .int .i64 0] 54)).alloc (.cells #[.int .i64 0, .int .i64 0, .int .i64 0, .int .i64 0] 54)) (w.heap.size + 1) 54 D := by
    have := HeldB.new (w.alloc (.cells (numC P) 35)) 54 D
    rw [World.size_alloc] at this
    exact (this.alloc _).alloc _
  have h2 : HeldB ((((w.alloc (.cells (numC P) 35)).alloc (.cells D 54)).alloc (.cells #[.int .i64 0, .int .i64 0, .int .i64 0, .int .i64 0] 54)).alloc (.cells #[.int .i64 0, .int .i64 0, .int .i64 0, .int .i64 0] 54)) (w.heap.size + 1 + 1) 54 #[.int .i64 0, .int .i64 0, .int .i64 0, .int .i64 0] := by
    have := HeldB.new ((w.alloc (.cells (numC P) 35)).alloc (.cells D 54)) 54 #[.int .i64 0, .int .i64 0, .int .i64 0, .int .i64 0]
    rw [World.size_alloc, World.size_alloc] at this
    exact this.alloc _
  have h3 : HeldB ((((w.alloc (.cells (numC P) 35)).alloc (.cells D 54)).alloc (.cells #[.int .i64 0, .int .i64 0, .int .i64 0, .int .i64 0] 54)).alloc (.cells #[.int .i64 0, .int .i64 0, .int .i64 0, .int .i64 0] 54)) (w.heap.size + 1 + 1 + 1) 54 (numC (rkL P F 0 0)) := by
    have := HeldB.new (((w.alloc (.cells (numC P) 35)).alloc (.cells D 54)).alloc (.cells #[.int .i64 0, .int .i64 0, .int .i64 0, .int .i64 0] 54)) 54 #[.int .i64 0, .int .i64 0, .int .i64 0, .int .i64 0]
    rw [World.size_alloc, World.size_alloc, World.size_alloc] at this
    exact this.eq (by rw [rkL_zero, zero4])
  have hb0 : Below w.heap.size w ((((w.alloc (.cells (numC P) 35)).alloc (.cells D 54)).alloc (.cells #[.int .i64 0, .int .i64 0, .int .i64 0, .int .i64 0] 54)).alloc (.cells #[.int .i64 0, .int .i64 0, .int .i64 0, .int .i64 0] 54)) := ((((Below.refl _ w).alloc (Nat.le_refl _) _).alloc (by simp) _).alloc (by simp; omega) _).alloc (by simp; omega) _
  generalize numC P = C at *
  have hW1 : ((((w.alloc (.cells C 35)).alloc (.cells D 54)).alloc (.cells #[.int .i64 0, .int .i64 0, .int .i64 0, .int .i64 0] 54)).alloc (.cells #[.int .i64 0, .int .i64 0, .int .i64 0, .int .i64 0] 54)).heap[w.heap.size + 1]? = some (.cells D 54 (0, 0)) := h1
  go_enter Try.func65, Try.ntmps65
  go_wp2_with (refine wpList_load_row rfl 54 _ rfl (w.heap.size + 1) rfl 54 D (0, 0) _ hW1 Try.underlying54 rfl HS4.out ?_)
  clear hW1
  go_loopw [11] (fun vi wr => ∃ i : Nat, i ≤ 4 ∧ vi = .int .i64 i ∧ (HeldB wr w.heap.size 35 C ∧ HeldB wr (w.heap.size + 1) 54 D) ∧ HeldB wr (w.heap.size + 1 + 1) 54 #[.int .i64 0, .int .i64 0, .int .i64 0, .int .i64 0] ∧ HeldB wr (w.heap.size + 1 + 1 + 1) 54 (numC (rkL P F i 0)) ∧ Below w.heap.size w wr) (fun vi _ => 4 - (intOf vi).toNat)
  case atStart => exact ⟨0, by omega, rfl, ⟨h0, h1⟩, h2, h3, hb0⟩
  case round =>
    clear h0 h1 h2 h3 hb0
    obtain ⟨i, hi, rfl, ⟨h0, h1⟩, h2, h3, hb⟩ := hrel
    by_cases hli : i < 4
    · have hix := HFA.out i hli
      have hil := HF4.out i hli
      have hi4 : (i : Int) < 4 := by omega
      have hrun := run_index4 hli hix
      have HRUN := Lib.hid (hrun); clear hrun
      have hrw := HRUN.out wr
      clear hix
      have hW1 : wr.heap[w.heap.size + 1]? = some (.cells D 54 (0, 0)) := h1
      obtain ⟨x, hx⟩ : ∃ x, F.getD i 0 = x := ⟨_, rfl⟩
      rw [hx] at hrw hil
      go_wp2_with (refine wpList_load_row rfl 54 _ rfl (w.heap.size + 1) rfl 54 D (0, 0) _ hW1 Try.underlying54 rfl HS4.out ?_)
      have HX := Lib.hid hx; clear hx
      clear hrw hW1
      go_loopw [16] (fun vk wq => ∃ k : Nat, k ≤ 4 ∧ vk = .int .i64 k ∧ (HeldB wq w.heap.size 35 C ∧ HeldB wq (w.heap.size + 1) 54 D) ∧ HeldB wq (w.heap.size + 1 + 1) 54 #[.int .i64 0, .int .i64 0, .int .i64 0, .int .i64 0] ∧ HeldB wq (w.heap.size + 1 + 1 + 1) 54 (numC (rkL P F i k)) ∧ Below w.heap.size w wq) (fun vk _ => 4 - (intOf vk).toNat)
      case atStart => exact ⟨0, by omega, rfl, ⟨h0, h1⟩, h2, h3, hb⟩
      case round =>
        clear h0 h1 h2 h3 hb
        obtain ⟨k, hk, rfl, ⟨h0, h1⟩, h2, h3, hb⟩ := hrel
        by_cases hlk : k < 4
        · have hky := HFA.out k hlk
          have hyl := HF4.out k hlk
          obtain ⟨y, hy⟩ : ∃ y, F.getD k 0 = y := ⟨_, rfl⟩
          rw [hy] at hky hyl
          have hrk : rkN P F i (k + 1) = rkN P F i k + if P.getD y 0 ≤ P.getD x 0 then 1 else 0 := by rw [rkN, hy, HX.out]
          have HRK := Lib.hid hrk; clear hrk hy
          have cy := (h0.cell y).trans (HPA.out y hyl)
          have cx := (h0.cell x).trans (HPA.out x hil)
          have cr := (h3.cell i).trans (numC_at (by rw [rkL_len]; exact hli))
          have fr := h3.frozen i
          rw [rkL_at hli, if_neg (by omega), if_pos rfl] at cr
          have hrle := rkN_le P F i k
          have hy7 : (y : Int) < 7 := by omega
          have hx7 : (x : Int) < 7 := by omega
          have hk4 : (k : Int) < 4 := by omega
          obtain ⟨py, hpy⟩ : ∃ p, P.getD y 0 = p := ⟨_, rfl⟩
          obtain ⟨px, hpx⟩ : ∃ p, P.getD x 0 = p := ⟨_, rfl⟩
          rw [hpy, hpx] at HRK
          rw [hpy] at cy
          rw [hpx] at cx
          clear hpy hpx
          by_cases hle : py ≤ px
          · rw [if_pos hle] at HRK
            have hdl : decide (py ≤ px) = true := decide_eq_true hle
            have HPUT := Lib.hid (rkL_put P F hli _ HRK.out)
            have hrun := run_index4 hlk hky wr
            clear hle hky
            obtain ⟨rr, hrr⟩ : ∃ q, rkN P F i k = q := ⟨_, rfl⟩
            rw [hrr] at cr HPUT hrle
            clear hrr
            go_wp2
            go_quiet (fail)
            have k0 : HeldB (wr.drewN nq) w.heap.size 35 C := h0
            have k1 : HeldB (wr.drewN nq) (w.heap.size + 1) 54 D := h1
            have k2 : HeldB (wr.drewN nq) (w.heap.size + 1 + 1) 54 #[.int .i64 0, .int .i64 0, .int .i64 0, .int .i64 0] := h2
            have k3 : HeldB (wr.drewN nq) (w.heap.size + 1 + 1 + 1) 54 (numC (rkL P F i k)) := h3
            have cr2 : (wr.drewN nq).cell? ⟨w.heap.size + 1 + 1 + 1, i, none⟩ = some (.int .i64 (rr : Int)) := cr
            have fr2 := k3.frozen i
            have kb := hb.trans (below_drewN _ wr nq)
            clear h0 h1 h2 h3 hb cr fr cy cx hrun
            generalize wr.drewN nq = W3 at *
            have d3 := (k3.set i (.int .i64 ((rr : Int) + 1))).eq (show _ = numC (rkL P F i (k + 1)) from (numC_set _ _ _).trans (by rw [← HPUT.out]; rfl))
            have d0 := k0.other (a := ⟨w.heap.size + 1 + 1 + 1, i, none⟩) (by simp; omega) (.int .i64 ((rr : Int) + 1))
            have d1 := k1.other (a := ⟨w.heap.size + 1 + 1 + 1, i, none⟩) (by simp) (.int .i64 ((rr : Int) + 1))
            have d2 := k2.other (a := ⟨w.heap.size + 1 + 1 + 1, i, none⟩) (by simp) (.int .i64 ((rr : Int) + 1))
            have db := kb.setCell (p := ⟨w.heap.size + 1 + 1 + 1, i, none⟩) (by simp; omega) (.int .i64 ((rr : Int) + 1))
            clear k0 k1 k2 k3 kb
            go_wp2
            go_roundw
            case rel => exact ⟨k + 1, by omega, by go_num, ⟨d0, d1⟩, d2, d3, db⟩
            case measure => simp [intOf]; omega
          · rw [if_neg hle, Nat.add_zero] at HRK
            have hdl : decide (py ≤ px) = false := decide_eq_false hle
            have HSM := Lib.hid (rkL_same P F HRK.out)
            have hrun := run_index4 hlk hky wr
            clear hle hky
            go_wp2
            go_quiet (fail)
            go_wp2
            go_roundw
            case rel => exact ⟨k + 1, by omega, by go_num, ⟨h0, h1⟩, h2, by rw [← HSM.out]; exact h3, hb.trans (below_drewN _ wr nq)⟩
            case measure => simp [intOf]; omega
        · obtain rfl : k = 4 := by omega
          rw [rkL_next] at h3
          go_wp2
          go_roundw
          case rel => exact ⟨i + 1, by omega, by go_num, ⟨h0, h1⟩, h2, h3, hb⟩
          case measure => simp [intOf]; omega
    · obtain rfl : i = 4 := by omega
      have hlen := rkL_len P F 4 0
      have HS := Lib.hid (four_size hlen)
      have HN := Lib.hid (numC_one (rkL P F 4 0))
      have HZ := Lib.hid (show (#[.int .i64 0, .int .i64 0, .int .i64 0, .int .i64 0] : Array Value).size = (numC (rkL P F 4 0)).size by rw [numC_size, hlen]; rfl)
      have hr := h2.setRow (numC (rkL P F 4 0))
      go_wp2_with (first
        | (refine wpList_load_row rfl 54 _ rfl (w.heap.size + 1 + 1 + 1) rfl 54 _ (0, 0) _ h3 Try.underlying54 rfl HS.out ?_)
        | (refine wpList_store_row rfl 54 _ _ rfl (w.heap.size + 1 + 1) _ rfl rfl 54 _ h2 HS.out HZ.out HN.out ?_))
      exact bodyPost_ret (v := .agg (numC (rkL P F 4 0))) (results_cell_row Try.results65 _ _ (w.heap.size + 1 + 1) 54 _ (0, 0) _ rfl hr Try.underlying54 rfl HS.out) rfl ⟨rfl, below_setRowB hb (by omega) _⟩

end Go.Proofs.Ytkpjlglfhhdcbaa
