/-
  The program reads a permutation. (Walks.)
-/
import Derived.Test.YtpgcpmfemcfoaaaSevOO
import Derived.Test.YtpgcpmfemcfoaaaSevAO

namespace Go.Proofs.Ytpgcpmfemcfoaaa
open Go.RowKit

theorem padL_take {l : List Int} {k : Nat} (h7 : l.length ≤ 7) (hk : k < l.length) : (padL (l.take k)).set k (l.getD k 0 + 1) = padL (l.take (k + 1)) := by
  have hl : (l.take k).length = k := by rw [List.length_take]; omega
  have hl2 : (l.take (k + 1)).length = k + 1 := by rw [List.length_take]; omega
  have hg : ∀ i, i < k + 1 → (l.take (k + 1)).getD i 0 = l.getD i 0 := fun i hi => by
    rw [List.getD_eq_getElem?_getD, List.getElem?_take, if_pos hi, List.getD_eq_getElem?_getD]
  have hg2 : ∀ i, i < k → (l.take k).getD i 0 = l.getD i 0 := fun i hi => by
    rw [List.getD_eq_getElem?_getD, List.getElem?_take, if_pos hi, List.getD_eq_getElem?_getD]
  have hp := padL_len (l := l.take k) (by omega)
  refine padL_ext (by omega) (by rw [List.length_set]; exact hp) (fun i hi => ?_) (fun i hi h7' => ?_)
  · rw [set_getD _ _ _ _ (by omega), hg i (by omega)]
    by_cases h : i = k
    · subst h; rw [if_pos rfl]
    · rw [if_neg h, padL_lt (by omega), hg2 i (by omega)]
  · rw [set_getD _ _ _ _ (by omega), if_neg (by omega), padL_ge (by omega)]
theorem zero_perm : numC (padL []) = #[.int .i64 0, .int .i64 0, .int .i64 0, .int .i64 0, .int .i64 0, .int .i64 0, .int .i64 0] := zero7

set_option maxRecDepth 100000 in
set_option maxHeartbeats 4000000 in
theorem read_any (ao : Option Addr) (cap : Nat) (l : List Int) (w : World) (hl : l.length ≤ 1048576) (hc : CellsAt w ao (l.map (Value.int .i64))) :
    Calls Try.prog 86 #[.slice ao l.length cap] w fun e w' => e = .returned (.tuple #[.agg (numC (padL (orNil l))), .bool (isP l)]) ∧ Below w.heap.size w w' := by
  have HI := Lib.hid (isLength_any (l.length : Int))
  by_cases hn : 1 ≤ l.length ∧ l.length ≤ 7
  · rw [isN_yes (by omega) (by omega)] at HI
    obtain ⟨h1, h7⟩ := hn
    go_enter Try.func86, Try.ntmps86
    go_wp2_with (go_at_call 51; refine (HI.out _).mono ?_; rintro e w' ⟨rfl, rfl⟩)
    have HZ0 := Lib.hid (show (Try.prog.info? 85).map (·.size) = some (#[.int .i64 0, .int .i64 0, .int .i64 0, .int .i64 0, .int .i64 0, .int .i64 0, .int .i64 0] : Array Value).size by kernel_rfl)
    have HZ1 := Lib.hid (show (#[.int .i64 0, .int .i64 0, .int .i64 0, .int .i64 0, .int .i64 0, .int .i64 0, .int .i64 0] : Array Value).all (·.oneCell') = true by kernel_rfl)
    have hH : HeldB ((w.alloc (.cells #[.int .i64 0, .int .i64 0, .int .i64 0, .int .i64 0, .int .i64 0, .int .i64 0, .int .i64 0] 85)).alloc (.cells #[.int .i64 0, .int .i64 0, .int .i64 0, .int .i64 0, .int .i64 0, .int .i64 0, .int .i64 0] 85)) (w.heap.size + 1) 85 (numC (padL (l.take 0))) := by
      have := HeldB.new (w.alloc (.cells #[.int .i64 0, .int .i64 0, .int .i64 0, .int .i64 0, .int .i64 0, .int .i64 0, .int .i64 0] 85)) 85 #[.int .i64 0, .int .i64 0, .int .i64 0, .int .i64 0, .int .i64 0, .int .i64 0, .int .i64 0]
      rw [World.size_alloc] at this
      exact this.eq zero_perm.symm
    have hR : HeldB ((w.alloc (.cells #[.int .i64 0, .int .i64 0, .int .i64 0, .int .i64 0, .int .i64 0, .int .i64 0, .int .i64 0] 85)).alloc (.cells #[.int .i64 0, .int .i64 0, .int .i64 0, .int .i64 0, .int .i64 0, .int .i64 0, .int .i64 0] 85)) w.heap.size 85 #[.int .i64 0, .int .i64 0, .int .i64 0, .int .i64 0, .int .i64 0, .int .i64 0, .int .i64 0] := (HeldB.new w 85 #[.int .i64 0, .int .i64 0, .int .i64 0, .int .i64 0, .int .i64 0, .int .i64 0, .int .i64 0]).alloc _
    have hb0 : Below w.heap.size w ((w.alloc (.cells #[.int .i64 0, .int .i64 0, .int .i64 0, .int .i64 0, .int .i64 0, .int .i64 0, .int .i64 0] 85)).alloc (.cells #[.int .i64 0, .int .i64 0, .int .i64 0, .int .i64 0, .int .i64 0, .int .i64 0, .int .i64 0] 85)) := ((Below.refl _ w).alloc (Nat.le_refl _) _).alloc (by simp) _
    go_loopw [14] (fun vk wr => ∃ k : Nat, k ≤ l.length ∧ vk = .int .i64 k ∧ HeldB wr (w.heap.size + 1) 85 (numC (padL (l.take k))) ∧ HeldB wr w.heap.size 85 #[.int .i64 0, .int .i64 0, .int .i64 0, .int .i64 0, .int .i64 0, .int .i64 0, .int .i64 0] ∧ Below w.heap.size w wr ∧ ∀ x ∈ l.take k, 0 ≤ x ∧ x < (l.length : Int)) (fun vk _ => l.length - (intOf vk).toNat)
    case atStart => exact ⟨0, by omega, rfl, hH, hR, hb0, by simp⟩
    case round =>
      clear hH hR hb0
      obtain ⟨k, hk, rfl, hH, hR, hb, hall⟩ := hrel
      by_cases hlt : k < l.length
      · have hcr := hc.below hb
        obtain ⟨b, off, rfl, hcell⟩ := hcr.int k hlt
        have HC := Lib.hid hc; clear hc hcr
        have HALL := Lib.hid hall; clear hall
        by_cases hx : 0 ≤ l.getD k 0 ∧ l.getD k 0 < (l.length : Int)
        · have HT := Lib.hid (padL_take h7 hlt)
          have HTM := Lib.hid (take_mem_succ (P := fun x => 0 ≤ x ∧ x < (l.length : Int)) hlt HALL.out hx)
          obtain ⟨hx0, hx1⟩ := hx
          have hc0 := (hH.cell k).trans (numC_at (by rw [padL_len (by rw [List.length_take]; omega)]; omega))
          have hf0 := hH.frozen k
          have hk7 : (k : Int) < 7 := by omega
          have hnn : decide (l.getD k 0 < 0) = false := decide_eq_false (by omega)
          have hnl : decide ((l.length : Int) ≤ l.getD k 0) = false := decide_eq_false (by omega)
          obtain ⟨z, hz⟩ : ∃ z, (padL (l.take k)).getD k 0 = z := ⟨_, rfl⟩
          rw [hz] at hc0
          clear hz
          have hH2 := (hH.set k (.int .i64 (l.getD k 0 + 1))).eq ((numC_set _ _ _).trans (by rw [HT.out]))
          have hR2 := hR.other (a := ⟨w.heap.size + 1, k, none⟩) (by simp) (.int .i64 (l.getD k 0 + 1))
          have hb2 := hb.setCell (p := ⟨w.heap.size + 1, k, none⟩) (by simp) (.int .i64 (l.getD k 0 + 1))
          clear hH hR hb
          generalize l.getD k 0 = x at *
          go_wp2
          go_roundw
          case rel => exact ⟨k + 1, by omega, by go_num, hH2, hR2, hb2, HTM.out⟩
          case measure => simp [intOf]; omega
        · have hp : isP l = false := isP_out hlt (by omega)
          have hr := hR.setRow #[.int .i64 0, .int .i64 0, .int .i64 0, .int .i64 0, .int .i64 0, .int .i64 0, .int .i64 0]
          have hb2 := below_setRowB hb (Nat.le_refl _) #[.int .i64 0, .int .i64 0, .int .i64 0, .int .i64 0, .int .i64 0, .int .i64 0, .int .i64 0]
          have HP := Lib.hid hp; clear hp
          have hfin : ∀ tmps : Array Value, tmps.getD 2 undef = .pointer (some ⟨w.heap.size, 0, none⟩) → tmps.getD 3 undef = .bool false → (results Try.f86 tmps).run Try.prog (wr.setRow w.heap.size #[.int .i64 0, .int .i64 0, .int .i64 0, .int .i64 0, .int .i64 0, .int .i64 0, .int .i64 0]) = .ok (.tuple #[.agg (numC (padL (orNil l))), .bool (isP l)]) (wr.setRow w.heap.size #[.int .i64 0, .int .i64 0, .int .i64 0, .int .i64 0, .int .i64 0, .int .i64 0, .int .i64 0]) := fun tmps a b => by
            rw [HP.out, orNil_no HP.out]
            exact results_perm2 Try.results86 a (hr.eq zero_perm.symm) rfl b
          have HFIN := Lib.hid hfin; clear hfin
          by_cases hneg : l.getD k 0 < 0
          · have hnn : decide (l.getD k 0 < 0) = true := decide_eq_true hneg
            generalize l.getD k 0 = x at *
            clear hx
            go_wp2_with (refine wpList_store_row rfl 85 _ _ rfl w.heap.size #[.int .i64 0, .int .i64 0, .int .i64 0, .int .i64 0, .int .i64 0, .int .i64 0, .int .i64 0] rfl rfl 85 _ hR HZ0.out rfl HZ1.out ?_)
            exact bodyPost_ret (v := .tuple #[.agg (numC (padL (orNil l))), .bool (isP l)]) (HFIN.out _ rfl rfl) rfl ⟨rfl, hb2⟩
          · have hnn : decide (l.getD k 0 < 0) = false := decide_eq_false hneg
            have hnl : decide ((l.length : Int) ≤ l.getD k 0) = true := decide_eq_true (by omega)
            generalize l.getD k 0 = x at *
            clear hx
            go_wp2_with (refine wpList_store_row rfl 85 _ _ rfl w.heap.size #[.int .i64 0, .int .i64 0, .int .i64 0, .int .i64 0, .int .i64 0, .int .i64 0, .int .i64 0] rfl rfl 85 _ hR HZ0.out rfl HZ1.out ?_)
            exact bodyPost_ret (v := .tuple #[.agg (numC (padL (orNil l))), .bool (isP l)]) (HFIN.out _ rfl rfl) rfl ⟨rfl, hb2⟩
      · obtain rfl : k = l.length := by omega
        rw [List.take_length] at hall hH
        have HALL := Lib.hid hall; clear hall
        have hsev : Sev (padL l) := sev_pad h7 (fun x hx => by have := HALL.out x hx; omega)
        have HO1 := Lib.hid (fun (d : Nat) (os : Array Obj) => Calls.regrown_of (other_any hsev (Sort.grow (redrawn wr d) os)))
        have HO2 := Lib.hid (fun (d : Nat) (os : Array Obj) => Calls.regrown_of (other_any hsev.oth (Sort.grow (redrawn wr d) os)))
        have HRP := Lib.hid (held_regrown hH)
        have HS := Lib.hid (perm_size hsev.len)
        have HSL := Lib.hid (show (Try.prog.info? 85).map (·.size) = some (numC (padL l)).toList.length by rw [Array.length_toList]; exact HS.out)
        have HRUN := Lib.hid (fun w => run_neq_nums Try.underlying85 hsev.oth.oth.len hsev.len w)
        have HDI := Lib.hid (pad_distinct h7 HALL.out)
        go_wp2_with fail
        refine wp_region_quiet_below (by kernel_rfl) (by kernel_rfl) ?_
        refine wpQuiet_load_mid (by rfl) 85 _ rfl (w.heap.size + 1) 0 (by rfl) (numC (padL l)).toList (numC (padL l)) rfl _ HRP.out Try.underlying85 rfl HSL.out ?_
        go_simp
        repeat (first | go_big_quiet_step (with_reducible first | exact HO1.out _ _ | exact HO2.out _ _) | quiet_step (with_reducible first | exact HO1.out _ _ | exact HO2.out _ _))
        refine wpQuiet_load_mid (by rfl) 85 _ rfl (w.heap.size + 1) 0 (by rfl) (numC (padL l)).toList (numC (padL l)) rfl _ HRP.out Try.underlying85 rfl HSL.out ?_
        go_simp
        refine wpQuiet_bin (by rfl) .neq 85 _ _ _ rfl _ (fun w => guard_nums guard_perm _ _ _ _ _ w) (fun w => HRUN.out w) ?_
        go_simp
        refine wpQuiet_nil ?_
        intro r
        have hb7 := below_regrown wr r.d r.os
        generalize Sort.grow (redrawn wr r.d) r.os = W7 at *
        have hH7 := hH.below hb7
        have hR7 := hR.below hb7
        have hB7 := below_step hb hb.size hb7
        clear HO1 HO2 HRP HRUN hH hR hb hb7
        by_cases hd : othP (othP (padL l) 7) 7 = padL l
        · have hp : isP l = true := isP_mk ⟨h7, HALL.out, HDI.out.1 hd⟩ h1
          have HPY := Lib.hid hp; clear hp
          have hdb : (!decide (othP (othP (padL l) 7) 7 = padL l)) = false := by rw [decide_eq_true hd]; rfl
          have HN := Lib.hid (numC_one (padL l))
          have HZ := Lib.hid (show (#[.int .i64 0, .int .i64 0, .int .i64 0, .int .i64 0, .int .i64 0, .int .i64 0, .int .i64 0] : Array Value).size = (numC (padL l)).size by rw [numC_size, hsev.len]; rfl)
          have hr := hR7.setRow (numC (padL l))
          have hb2 := below_setRowB hB7 (Nat.le_refl _) (numC (padL l))
          clear hd
          generalize (!decide (othP (othP (padL l) 7) 7 = padL l)) = d at *
          subst hdb
          go_wp2_with (first
            | (refine wpList_load_row rfl 85 _ rfl (w.heap.size + 1) rfl 85 _ (0, 0) _ hH7 Try.underlying85 rfl HS.out ?_)
            | (refine wpList_store_row rfl 85 _ _ rfl w.heap.size _ rfl rfl 85 _ hR7 HS.out HZ.out HN.out ?_))
          exact bodyPost_ret (v := .tuple #[.agg (numC (padL (orNil l))), .bool (isP l)]) (by rw [orNil_yes HPY.out, HPY.out]; exact results_perm2 Try.results86 rfl hr hsev.len rfl) rfl ⟨rfl, hb2⟩
        · have hp : isP l = false := by
            cases hx : isP l
            · rfl
            · exact absurd (HDI.out.2 (isP_few hx).nodup) hd
          have HPN := Lib.hid hp; clear hp
          have hdb : (!decide (othP (othP (padL l) 7) 7 = padL l)) = true := by rw [decide_eq_false hd]; rfl
          have hr := hR7.setRow #[.int .i64 0, .int .i64 0, .int .i64 0, .int .i64 0, .int .i64 0, .int .i64 0, .int .i64 0]
          have hb2 := below_setRowB hB7 (Nat.le_refl _) #[.int .i64 0, .int .i64 0, .int .i64 0, .int .i64 0, .int .i64 0, .int .i64 0, .int .i64 0]
          clear hd
          generalize (!decide (othP (othP (padL l) 7) 7 = padL l)) = d at *
          subst hdb
          go_wp2_with (refine wpList_store_row rfl 85 _ _ rfl w.heap.size #[.int .i64 0, .int .i64 0, .int .i64 0, .int .i64 0, .int .i64 0, .int .i64 0, .int .i64 0] rfl rfl 85 _ hR7 HZ0.out rfl HZ1.out ?_)
          exact bodyPost_ret (v := .tuple #[.agg (numC (padL (orNil l))), .bool (isP l)]) (by rw [orNil_no HPN.out, HPN.out]; exact results_perm2 Try.results86 rfl (hr.eq zero_perm.symm) rfl rfl) rfl ⟨rfl, hb2⟩
  · have hp : isP l = false := isP_long (by omega)
    rw [isN_no (by omega)] at HI
    rw [orNil_no hp, hp]
    have hH := HeldB.new w 85 #[.int .i64 0, .int .i64 0, .int .i64 0, .int .i64 0, .int .i64 0, .int .i64 0, .int .i64 0]
    have hb := below_alloc w (.cells #[.int .i64 0, .int .i64 0, .int .i64 0, .int .i64 0, .int .i64 0, .int .i64 0, .int .i64 0] 85)
    go_enter Try.func86, Try.ntmps86
    go_wp2_with (go_at_call 51; refine (HI.out _).mono ?_; rintro e w' ⟨rfl, rfl⟩)
    exact bodyPost_ret (v := .tuple #[.agg (numC (padL [])), .bool false]) (results_perm2 Try.results86 rfl (hH.eq zero_perm.symm) rfl rfl) rfl ⟨rfl, hb⟩

end Go.Proofs.Ytpgcpmfemcfoaaa
