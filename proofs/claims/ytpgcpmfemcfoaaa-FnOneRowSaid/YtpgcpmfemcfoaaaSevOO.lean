/-
  The program's permutations: the places of the numbers. (Walks.)
-/
import Derived.Test.YtpgcpmfemcfoaaaSevNO

namespace Go.Proofs.Ytpgcpmfemcfoaaa
open Go.RowKit

set_option maxRecDepth 100000 in
set_option maxHeartbeats 2000000 in
theorem other_any {P : List Int} (h : Sev P) (w : World) :
    Calls Try.prog 113 #[.agg (numC P)] w fun e w' => e = .returned (.agg (numC (othP P 7))) ∧ Below w.heap.size w w' := by
  have HI := Lib.hid (perm_size h.len)
  have HB := Lib.hid (HeldB.new w 85 (numC P))
  have hAt : ∀ i, i < 7 → (numC P)[i]? = some (.int .i64 (P.getD i 0)) := fun i hi => numC_at (by rw [h.len]; exact hi)
  have HAT := Lib.hid hAt; clear hAt
  generalize numC P = C at *
  have hW1 : (((w.alloc (.cells C 85)).alloc (.cells #[.int .i64 0, .int .i64 0, .int .i64 0, .int .i64 0, .int .i64 0, .int .i64 0, .int .i64 0] 85)).alloc (.cells #[.int .i64 0, .int .i64 0, .int .i64 0, .int .i64 0, .int .i64 0, .int .i64 0, .int .i64 0] 85)).heap[w.heap.size]? = some (.cells C 85 (0, 0)) := ((HB.out).alloc _).alloc _
  go_enter Try.func113, Try.ntmps113
  go_wp2_with (first
    | (refine wpList_load_row rfl 85 _ rfl w.heap.size rfl 85 C (0, 0) _ hW1 Try.underlying85 rfl HI.out ?_))
  have hH : HeldB (((w.alloc (.cells C 85)).alloc (.cells #[.int .i64 0, .int .i64 0, .int .i64 0, .int .i64 0, .int .i64 0, .int .i64 0, .int .i64 0] 85)).alloc (.cells #[.int .i64 0, .int .i64 0, .int .i64 0, .int .i64 0, .int .i64 0, .int .i64 0, .int .i64 0] 85)) (w.heap.size + 1 + 1) 85 (numC (othP P 0)) := by
    have := HeldB.new ((w.alloc (.cells C 85)).alloc (.cells #[.int .i64 0, .int .i64 0, .int .i64 0, .int .i64 0, .int .i64 0, .int .i64 0, .int .i64 0] 85)) 85 #[.int .i64 0, .int .i64 0, .int .i64 0, .int .i64 0, .int .i64 0, .int .i64 0, .int .i64 0]
    rw [World.size_alloc, World.size_alloc] at this
    exact this.eq zero7.symm
  have hR : HeldB (((w.alloc (.cells C 85)).alloc (.cells #[.int .i64 0, .int .i64 0, .int .i64 0, .int .i64 0, .int .i64 0, .int .i64 0, .int .i64 0] 85)).alloc (.cells #[.int .i64 0, .int .i64 0, .int .i64 0, .int .i64 0, .int .i64 0, .int .i64 0, .int .i64 0] 85)) (w.heap.size + 1) 85 (numC (List.replicate 7 0)) := by
    have := HeldB.new (w.alloc (.cells C 85)) 85 #[.int .i64 0, .int .i64 0, .int .i64 0, .int .i64 0, .int .i64 0, .int .i64 0, .int .i64 0]
    rw [World.size_alloc] at this
    exact (this.alloc _).eq zero7.symm
  have hb0 : Below w.heap.size w (((w.alloc (.cells C 85)).alloc (.cells #[.int .i64 0, .int .i64 0, .int .i64 0, .int .i64 0, .int .i64 0, .int .i64 0, .int .i64 0] 85)).alloc (.cells #[.int .i64 0, .int .i64 0, .int .i64 0, .int .i64 0, .int .i64 0, .int .i64 0, .int .i64 0] 85)) := (((Below.refl _ w).alloc (Nat.le_refl _) _).alloc (by simp) _).alloc (by simp; omega) _
  clear hW1
  have HLW := Lib.hid h.low
  go_loopw [7] (fun vk wr => ∃ k : Nat, k ≤ 7 ∧ vk = .int .i64 k ∧ HeldB wr (w.heap.size + 1 + 1) 85 (numC (othP P k)) ∧ HeldB wr (w.heap.size + 1) 85 (numC (List.replicate 7 0)) ∧ Below w.heap.size w wr) (fun vk _ => 7 - (intOf vk).toNat)
  case atStart => exact ⟨0, by omega, rfl, hH, hR, hb0⟩
  case round =>
    clear hH hR hb0
    obtain ⟨k, hk, rfl, hH, hR, hb⟩ := hrel
    by_cases hlt : k < 7
    · have hc := HAT.out k hlt
      have hlo := HLW.out k hlt
      have hk7 : (k : Int) < 7 := by omega
      by_cases hp : 0 < P.getD k 0
      · obtain ⟨v, hv⟩ : ∃ v : Nat, P.getD k 0 = (v : Int) + 1 := ⟨(P.getD k 0 - 1).toNat, by omega⟩
        have hO : othP P (k + 1) = (othP P k).set v ((k : Int) + 1) := by rw [othP, if_pos hp, hv]; congr 1; omega
        have HO := Lib.hid hO; clear hO
        rw [hv] at hc hlo
        have hc0 := (hH.cell v).trans (numC_at (by rw [othP_len]; omega))
        have hf0 := hH.frozen v
        have hv7 : (v : Int) < 7 := by omega
        have hix := run_index7 hlt hc wr
        clear hp hv
        generalize (othP P k).getD v 0 = z at *
        go_wp2
        go_roundw
        case rel => exact ⟨k + 1, by omega, by go_num, by rw [HO.out, ← numC_set]; exact hH.set _ _, hR.other (by simp) _, hb.setCell (by simp; omega) _⟩
        case measure => simp [intOf]; omega
      · have hO : othP P (k + 1) = othP P k := by rw [othP, if_neg hp]
        have HO := Lib.hid hO; clear hO
        generalize P.getD k 0 = x at *
        have hix := run_index7 hlt hc wr
        go_wp2
        go_roundw
        case rel => exact ⟨k + 1, by omega, by go_num, by rw [HO.out]; exact hH, hR, hb⟩
        case measure => simp [intOf]; omega
    · obtain rfl : k = 7 := by omega
      have HS := Lib.hid (perm_size (othP_len P 7))
      have HN := Lib.hid (numC_one (othP P 7))
      have HZ := Lib.hid (show (numC (List.replicate 7 0)).size = (numC (othP P 7)).size by rw [numC_size, numC_size, othP_len]; rfl)
      go_wp2_with (first
        | (refine wpList_load_row rfl 85 _ rfl (w.heap.size + 1 + 1) rfl 85 _ (0, 0) _ hH Try.underlying85 rfl HS.out ?_)
        | (refine wpList_store_row rfl 85 _ _ rfl (w.heap.size + 1) _ rfl rfl 85 _ hR HS.out HZ.out HN.out ?_))
      have hc5 := hR.setRow (numC (othP P 7))
      exact bodyPost_ret (v := .agg (numC (othP P 7))) (results_perm Try.results113 rfl hc5 (othP_len _ _)) rfl ⟨rfl, below_setRowB hb (by omega) _⟩

end Go.Proofs.Ytpgcpmfemcfoaaa
