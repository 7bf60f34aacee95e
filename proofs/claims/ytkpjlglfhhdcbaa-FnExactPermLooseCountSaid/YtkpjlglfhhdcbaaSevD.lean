
/-
  The program's permutations put together. (Walks.)
-/
import Derived.Test.YtkpjlglfhhdcbaaSevB
namespace Go.Proofs.Ytkpjlglfhhdcbaa
open Go.RowKit

def asideR (l m : List Int) : List Int := if l.length + m.length ≤ 7 ∧ 1 ≤ l.length + m.length then asideL l m else []
theorem asideR_yes {l m : List Int} (h : l.length + m.length ≤ 7 ∧ 1 ≤ l.length + m.length) : asideR l m = asideL l m := by unfold asideR; rw [if_pos h]
theorem asideR_no {l m : List Int} (h : ¬ (l.length + m.length ≤ 7 ∧ 1 ≤ l.length + m.length)) : asideR l m = [] := by unfold asideR; rw [if_neg h]
theorem asideR_few {l m : List Int} (hl : Few l) (hm : Few m) : Few (asideR l m) := by
  unfold asideR; split
  · exact hl.aside hm (by omega)
  · exact few_nil
theorem aside_take {l m : List Int} (h : l.length + m.length ≤ 7) {k : Nat} (hk : k < m.length) : (padL ((asideL l m).take (l.length + k))).set (l.length + k) ((l.length : Int) + (m.getD k 0 + 1)) = padL ((asideL l m).take (l.length + (k + 1))) := by
  have := padL_take (l := asideL l m) (k := l.length + k) (by rw [asideL_len]; exact h) (by rw [asideL_len]; omega)
  rw [aside_snd hk] at this
  rw [show (l.length : Int) + (m.getD k 0 + 1) = m.getD k 0 + l.length + 1 by omega]
  exact this

set_option maxRecDepth 100000 in
set_option maxHeartbeats 4000000 in
theorem aside_any {l m : List Int} (hl : Few l) (hm : Few m) (w : World) :
    Calls Try.prog 51 #[.agg (numC (padL l)), .agg (numC (padL m))] w fun e w' => e = .returned (.tuple #[.agg (numC (padL (asideR l m))), .bool (isN ((l.length : Int) + (m.length : Int)))]) ∧ Below w.heap.size w w' := by
  have hl7 := hl.len
  have hm7 := hm.len
  have hpl := padL_len hl7
  have hpm := padL_len hm7
  have HIL := Lib.hid (isLength_any ((l.length : Int) + (m.length : Int)))
  have h0 : HeldB (((w.alloc (.cells (numC (padL l)) 35)).alloc (.cells (numC (padL m)) 35)).alloc (.cells #[.int .i64 0, .int .i64 0, .int .i64 0, .int .i64 0, .int .i64 0, .int .i64 0, .int .i64 0] 35)) w.heap.size 35 (numC (padL l)) := ((HeldB.new w _ _).alloc _).alloc _
  have h1 : HeldB (((w.alloc (.cells (numC (padL l)) 35)).alloc (.cells (numC (padL m)) 35)).alloc (.cells #[.int .i64 0, .int .i64 0, .int .i64 0, .int .i64 0, .int .i64 0, .int .i64 0, .int .i64 0] 35)) (w.heap.size + 1) 35 (numC (padL m)) := by
    have := HeldB.new (w.alloc (.cells (numC (padL l)) 35)) 35 (numC (padL m))
    rw [World.size_alloc] at this
    exact this.alloc _
  have h2 : HeldB (((w.alloc (.cells (numC (padL l)) 35)).alloc (.cells (numC (padL m)) 35)).alloc (.cells #[.int .i64 0, .int .i64 0, .int .i64 0, .int .i64 0, .int .i64 0, .int .i64 0, .int .i64 0] 35)) (w.heap.size + 1 + 1) 35 #[.int .i64 0, .int .i64 0, .int .i64 0, .int .i64 0, .int .i64 0, .int .i64 0, .int .i64 0] := by
    have := HeldB.new ((w.alloc (.cells (numC (padL l)) 35)).alloc (.cells (numC (padL m)) 35)) 35 #[.int .i64 0, .int .i64 0, .int .i64 0, .int .i64 0, .int .i64 0, .int .i64 0, .int .i64 0]
    rwa [World.size_alloc, World.size_alloc] at this
  have hb0 : Below w.heap.size w (((w.alloc (.cells (numC (padL l)) 35)).alloc (.cells (numC (padL m)) 35)).alloc (.cells #[.int .i64 0, .int .i64 0, .int .i64 0, .int .i64 0, .int .i64 0, .int .i64 0, .int .i64 0] 35)) := (((Below.refl _ w).alloc (Nat.le_refl _) _).alloc (by simp) _).alloc (by simp; omega) _
  have HZ0 := Lib.hid (show (Try.prog.info? 35).map (·.size) = some (#[.int .i64 0, .int .i64 0, .int .i64 0, .int .i64 0, .int .i64 0, .int .i64 0, .int .i64 0] : Array Value).size by kernel_rfl)
  have HZ1 := Lib.hid (show (#[.int .i64 0, .int .i64 0, .int .i64 0, .int .i64 0, .int .i64 0, .int .i64 0, .int .i64 0] : Array Value).all (·.oneCell') = true by kernel_rfl)
  go_enter Try.func51, Try.ntmps51
  go_wp2
  generalize hW : ((w.alloc (.cells (numC (padL l)) 35)).alloc (.cells (numC (padL m)) 35)).alloc (.cells #[.int .i64 0, .int .i64 0, .int .i64 0, .int .i64 0, .int .i64 0, .int .i64 0, .int .i64 0] 35) = W at *
  clear hW
  have HM1 := Lib.hid (fun (d : Nat) (os : Array Obj) => Calls.regrown_of (many_any hl.lo (Sort.grow (redrawn W d) os)))
  have HM2 := Lib.hid (fun (d : Nat) (os : Array Obj) => Calls.regrown_of (many_any hm.lo (Sort.grow (redrawn W d) os)))
  have HR1 := Lib.hid (held_regrown h0)
  have HR2 := Lib.hid (held_regrown h1)
  have HSL := Lib.hid (show (Try.prog.info? 35).map (·.size) = some (numC (padL l)).toList.length by rw [Array.length_toList]; exact perm_size hpl)
  have HSM := Lib.hid (show (Try.prog.info? 35).map (·.size) = some (numC (padL m)).toList.length by rw [Array.length_toList]; exact perm_size hpm)
  refine wp_region_quiet_below (by kernel_rfl) (by kernel_rfl) ?_
  refine wpQuiet_load_mid (by rfl) 35 _ rfl w.heap.size 0 (by rfl) (numC (padL l)).toList (numC (padL l)) rfl _ HR1.out Try.underlying35 rfl HSL.out ?_
  go_simp
  repeat (first | go_big_quiet_step (with_reducible exact HM1.out _ _) | quiet_step (with_reducible exact HM1.out _ _))
  refine wpQuiet_load_mid (by rfl) 35 _ rfl (w.heap.size + 1) 0 (by rfl) (numC (padL m)).toList (numC (padL m)) rfl _ HR2.out Try.underlying35 rfl HSM.out ?_
  go_simp
  repeat (first | go_big_quiet_step (with_reducible exact HM2.out _ _) | quiet_step (with_reducible exact HM2.out _ _))
  refine wpQuiet_nil ?_
  intro r
  have hb7 := below_regrown W r.d r.os
  generalize Sort.grow (redrawn W r.d) r.os = W7 at *
  have k0 := h0.below hb7
  have k1 := h1.below hb7
  have k2 := h2.below hb7
  have hB := below_step hb0 hb0.size hb7
  clear HM1 HM2 HR1 HR2 HSL HSM h0 h1 h2 hb0 hb7
  by_cases hs : l.length + m.length ≤ 7 ∧ 1 ≤ l.length + m.length
  · have HY := Lib.hid (asideR_yes hs)
    have HF := Lib.hid (asideR_few hl hm)
    rw [isN_yes (by omega) (by omega)] at HIL
    have hm7i : (m.length : Int) ≤ 7 := by omega
    go_wp2_with (go_at_call 56; refine (HIL.out _).mono ?_; rintro e w1 ⟨rfl, rfl⟩)
    have hat : ∀ i, i < m.length → (numC (padL m))[i]? = some (.int .i64 (m.getD i 0 + 1)) := fun i hi => by rw [numC_at (by rw [hpm]; omega), padL_lt hi]
    have HAT := Lib.hid hat; clear hat
    have HLO := Lib.hid (fun i (hi : i < m.length) => hm.at hi)
    have hstart : HeldB w1 w.heap.size 35 (numC (padL ((asideL l m).take (l.length + 0)))) := k0.eq (by rw [Nat.add_zero]; unfold asideL; rw [List.take_left])
    clear k0 HIL
    go_loopw [23] (fun vk wr => ∃ k : Nat, k ≤ m.length ∧ vk = .int .i64 k ∧ HeldB wr w.heap.size 35 (numC (padL ((asideL l m).take (l.length + k)))) ∧ HeldB wr (w.heap.size + 1) 35 (numC (padL m)) ∧ HeldB wr (w.heap.size + 1 + 1) 35 #[.int .i64 0, .int .i64 0, .int .i64 0, .int .i64 0, .int .i64 0, .int .i64 0, .int .i64 0] ∧ Below w.heap.size w wr) (fun vk _ => m.length - (intOf vk).toNat)
    case atStart => exact ⟨0, Nat.zero_le _, rfl, hstart, k1, k2, hB⟩
    case round =>
      clear hstart k1 k2 hB
      obtain ⟨k, hk, rfl, hP, hQ, hR, hb⟩ := hrel
      have hlt7 : (padL ((asideL l m).take (l.length + k))).length = 7 := padL_len (by rw [List.length_take, asideL_len]; omega)
      by_cases hlt : k < m.length
      · have HT := Lib.hid (aside_take hs.1 hlt)
        have hlo := HLO.out k hlt
        have ck := (hQ.cell k).trans (HAT.out k hlt)
        have cp := (hP.cell (l.length + k)).trans (numC_at (by rw [hlt7]; omega))
        have fp := hP.frozen (l.length + k)
        obtain ⟨z, hz⟩ : ∃ z, (padL ((asideL l m).take (l.length + k))).getD (l.length + k) 0 = z := ⟨_, rfl⟩
        rw [hz] at cp
        have hP2 := (hP.set (l.length + k) (.int .i64 ((l.length : Int) + (m.getD k 0 + 1)))).eq ((numC_set _ _ _).trans (by rw [HT.out]))
        have hQ2 := hQ.other (a := ⟨w.heap.size, l.length + k, none⟩) (by simp) (.int .i64 ((l.length : Int) + (m.getD k 0 + 1)))
        have hR2 := hR.other (a := ⟨w.heap.size, l.length + k, none⟩) (by simp; omega) (.int .i64 ((l.length : Int) + (m.getD k 0 + 1)))
        have hb2 := hb.setCell (p := ⟨w.heap.size, l.length + k, none⟩) (Nat.le_refl _) (.int .i64 ((l.length : Int) + (m.getD k 0 + 1)))
        have hx7 : (l.length : Int) + (k : Int) < 7 := by omega
        have hkm : (k : Int) < (m.length : Int) := by omega
        clear hP hQ hR hb hz hlt7 hpl hpm
        generalize m.getD k 0 = x at *
        have HS := Lib.hid hs; clear hs
        go_wp2
        go_roundw
        case rel => exact ⟨k + 1, by omega, by go_num, hP2, hQ2, hR2, hb2⟩
        case measure => simp [intOf]; omega
      · obtain rfl : k = m.length := by omega
        have HS := Lib.hid (perm_size hlt7)
        have HN := Lib.hid (numC_one (padL ((asideL l m).take (l.length + m.length))))
        have HZ := Lib.hid (show (#[.int .i64 0, .int .i64 0, .int .i64 0, .int .i64 0, .int .i64 0, .int .i64 0, .int .i64 0] : Array Value).size = (numC (padL ((asideL l m).take (l.length + m.length)))).size by rw [numC_size, hlt7]; rfl)
        have HTK := Lib.hid (show (asideL l m).take (l.length + m.length) = asideL l m from List.take_of_length_le (by rw [asideL_len]; exact Nat.le_refl _))
        have H7 := Lib.hid hlt7
        have HIY := Lib.hid (isN_yes (n := (l.length : Int) + (m.length : Int)) (by omega) (by omega))
        clear hlt7 hpl hpm
        go_wp2_with (first
          | (refine wpList_load_row rfl 35 _ rfl w.heap.size rfl 35 _ (0, 0) _ hP Try.underlying35 rfl HS.out ?_)
          | (refine wpList_store_row rfl 35 _ _ rfl (w.heap.size + 1 + 1) _ rfl rfl 35 _ hR HS.out HZ.out HN.out ?_))
        exact bodyPost_ret (v := .tuple #[.agg (numC (padL (asideR l m))), .bool (isN ((l.length : Int) + (m.length : Int)))]) (by rw [HY.out, HIY.out]; have H77 := H7.out; rw [HTK.out] at H77 ⊢; exact results_perm2 Try.results51 rfl (hR.setRow _) H77 rfl) rfl ⟨rfl, below_setRowB hb (by omega) _⟩
  · have HY := Lib.hid (asideR_no hs)
    have HN := Lib.hid (isN_no (n := (l.length : Int) + (m.length : Int)) (by omega))
    rw [HN.out] at HIL
    go_wp2_with (first
      | (go_at_call 56; refine (HIL.out _).mono ?_; rintro e w1 ⟨rfl, rfl⟩)
      | (refine wpList_store_row rfl 35 _ _ rfl (w.heap.size + 1 + 1) #[.int .i64 0, .int .i64 0, .int .i64 0, .int .i64 0, .int .i64 0, .int .i64 0, .int .i64 0] rfl rfl 35 _ k2 HZ0.out rfl HZ1.out ?_))
    exact bodyPost_ret (v := .tuple #[.agg (numC (padL (asideR l m))), .bool (isN ((l.length : Int) + (m.length : Int)))]) (by rw [HY.out, HN.out]; exact results_perm2 Try.results51 rfl ((k2.setRow _).eq zero_perm.symm) rfl rfl) rfl ⟨rfl, below_setRowB hB (by omega) _⟩

end Go.Proofs.Ytkpjlglfhhdcbaa
