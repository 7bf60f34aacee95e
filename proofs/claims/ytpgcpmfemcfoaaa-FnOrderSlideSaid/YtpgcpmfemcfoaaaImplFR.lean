/-
  The program draws a plan out of marks. (Walk.)
-/
import Derived.Test.YtpgcpmfemcfoaaaImplDER
import Derived.Test.YtpgcpmfemcfoaaaSpecAR

namespace Go.Proofs.Ytpgcpmfemcfoaaa
open Go.RowKit

/-- the marks of a grid, row by row -/
def markL (wd : Nat) (m : Nat → Nat → Nat) (t : Nat) : List Nat := (List.range t).map fun k => m (k / wd) (k % wd)
def markF (h wd : Nat) (m : Nat → Nat → Nat) : List Nat := firsts (markL wd m (h * wd))
/-- the room of each cell, once t cells are over -/
def roomG (h wd : Nat) (m : Nat → Nat → Nat) (t : Nat) (i j : Nat) : Nat := if i < h ∧ j < wd ∧ i * wd + j < t then (markF h wd m).idxOf (m i j) else 0
def renG (h wd : Nat) (m : Nat → Nat → Nat) : Nat → Nat → Nat := roomG h wd m (h * wd)

def drawOk (h wd : Int) (m : Nat → Nat → Nat) : Bool :=
  l6B h 1 6 && l6B wd 1 6 && decide ((markF h.toNat wd.toNat m).length ≤ 9) && filledB h.toNat wd.toNat (renG h.toNat wd.toNat m)
def drawC (h wd : Int) (m : Nat → Nat → Nat) : Array Value :=
  if drawOk h wd m then planC h.toNat wd.toNat (markF h.toNat wd.toNat m).length (renG h.toNat wd.toNat m) else zeroC

/-- one more than the number of a mark; 0 is none yet -/
def nameN (o : List Nat) (v : Nat) : Nat := if v ∈ o then o.idxOf v + 1 else 0
def namesC (o : List Nat) : Array Value := ((List.range 26).map fun v => Value.int .i64 ((nameN o v : Nat) : Int)).toArray
theorem namesC_at (o : List Nat) (v : Nat) (h : v < 26) : (namesC o)[v]? = some (.int .i64 ((nameN o v : Nat) : Int)) := by
  simp [namesC, h]
theorem nameN_no {o : List Nat} {v : Nat} (h : v ∉ o) : nameN o v = 0 := if_neg h
theorem nameN_yes {o : List Nat} {v : Nat} (h : v ∈ o) : nameN o v = o.idxOf v + 1 := if_pos h
theorem nameN_new {o : List Nat} {v : Nat} (h : v ∉ o) : nameN (o ++ [v]) v = o.length + 1 := by
  rw [nameN_yes (by simp), List.idxOf_append, if_neg h]; simp
theorem nameN_old {o : List Nat} {v u : Nat} (h : u ≠ v) : nameN (o ++ [v]) u = nameN o u := by
  unfold nameN
  by_cases hu : u ∈ o
  · rw [if_pos hu, if_pos (by simp [hu]), List.idxOf_append, if_pos hu]
  · rw [if_neg hu, if_neg (by simp [hu, h])]

theorem namesC_set {o : List Nat} {v : Nat} (h : v ∉ o) (hv : v < 26) : (namesC o).setIfInBounds v (.int .i64 ((o.length + 1 : Nat) : Int)) = namesC (o ++ [v]) := by
  apply Array.ext_getElem?
  intro i
  rw [Array.getElem?_setIfInBounds]
  by_cases hi : i < 26
  · by_cases he : v = i
    · subst he
      rw [if_pos rfl, if_pos (by simpa [namesC] using hv), namesC_at _ _ hv, nameN_new h]
    · rw [if_neg he, namesC_at _ _ hi, namesC_at _ _ hi, nameN_old (Ne.symm he)]
  · have h1 : (namesC o)[i]? = none := by simp [namesC]; omega
    have h2 : (namesC (o ++ [v]))[i]? = none := by simp [namesC]; omega
    rw [h1, h2]
    split
    · split
      · omega
      · rfl
    · rfl

theorem zero_namesC : namesC [] = #[.int .i64 0, .int .i64 0, .int .i64 0, .int .i64 0, .int .i64 0, .int .i64 0, .int .i64 0, .int .i64 0, .int .i64 0, .int .i64 0, .int .i64 0, .int .i64 0, .int .i64 0, .int .i64 0, .int .i64 0, .int .i64 0, .int .i64 0, .int .i64 0, .int .i64 0, .int .i64 0, .int .i64 0, .int .i64 0, .int .i64 0, .int .i64 0, .int .i64 0, .int .i64 0] := by kernel_rfl
theorem zero_names (w : World) : (zeroValue 158).run Try.prog w = .ok (.agg (namesC [])) w := by
  rw [zero_namesC]; exact Try.zeroValue158 w

theorem planC_set2 (h w r r' : Nat) (g : Nat → Nat → Nat) : (planC h w r g).setIfInBounds 2 (.int .i64 (r' : Int)) = planC h w r' g := by
  simp [planC]

theorem planC_setg (h w r : Nat) (g : Nat → Nat → Nat) (i j x : Nat) (hi : i < 6) (hj : j < 6) : (planC h w r g).setIfInBounds (3 + i * 6 + j) (.int .i64 (x : Int)) = planC h w r (fun i' j' => if i' = i ∧ j' = j then x else g i' j') := by
  apply Array.ext_getElem?
  intro k
  rw [Array.getElem?_setIfInBounds]
  have hsz := planC_size h w r g
  by_cases hk : k < 39
  · by_cases h3 : k < 3
    · rw [if_neg (by omega)]
      have : k = 0 ∨ k = 1 ∨ k = 2 := by omega
      rcases this with rfl | rfl | rfl
      · rw [planC_0, planC_0]
      · rw [planC_1, planC_1]
      · rw [planC_2, planC_2]
    · obtain ⟨a, b, ha, hb, rfl⟩ : ∃ a b, a < 6 ∧ b < 6 ∧ k = 3 + a * 6 + b := ⟨(k - 3) / 6, (k - 3) % 6, by omega, by omega, by omega⟩
      rw [planC_at h w r _ a b ha hb, planC_at h w r _ a b ha hb]
      by_cases he : a = i ∧ b = j
      · obtain ⟨rfl, rfl⟩ := he
        rw [if_pos rfl, if_pos (by omega)]
        simp
      · rw [if_neg (by omega), if_neg he]
  · have h1 : (planC h w r g)[k]? = none := by rw [Array.getElem?_eq_none]; omega
    have h2 : (planC h w r (fun i' j' => if i' = i ∧ j' = j then x else g i' j'))[k]? = none := by rw [Array.getElem?_eq_none]; rw [planC_size]; omega
    rw [h1, h2]
    split
    · rw [if_neg (by omega)]
    · rfl

theorem planC_congr (h w r : Nat) {g g' : Nat → Nat → Nat} (he : ∀ i j, i < 6 → j < 6 → g i j = g' i j) : planC h w r g = planC h w r g' := by
  unfold planC
  congr 4
  apply List.map_congr_left
  intro k hk
  rw [List.mem_range] at hk
  rw [he (k / 6) (k % 6) (by omega) (by omega)]

/-- the world in which t cells are drawn -/
def DrawSt (w : World) (h wd : Nat) (m : Nat → Nat → Nat) (t : Nat) (wr : World) : Prop :=
  HeldB wr w.heap.size 47 zeroC ∧ HeldB wr (w.heap.size + 1) 47 (planC h wd (firsts (markL wd m t)).length (roomG h wd m t)) ∧
  HeldB wr (w.heap.size + 1 + 1) 158 (namesC (firsts (markL wd m t))) ∧ Below w.heap.size w wr

theorem DrawSt.below {w : World} {h wd : Nat} {m : Nat → Nat → Nat} {t : Nat} {wr w1 : World} (hd : DrawSt w h wd m t wr) (hb : Below wr.heap.size wr w1) : DrawSt w h wd m t w1 :=
  ⟨hd.1.below hb, hd.2.1.below hb, hd.2.2.1.below hb, below_step hd.2.2.2 hd.2.2.2.size hb⟩

theorem DrawSt.drew {w : World} {h wd : Nat} {m : Nat → Nat → Nat} {t : Nat} {wr : World} (hd : DrawSt w h wd m t wr) : DrawSt w h wd m t wr.drew :=
  ⟨hd.1.drew, hd.2.1.drew, hd.2.2.1.drew, hd.2.2.2.drew⟩

theorem markL_succ (wd : Nat) (m : Nat → Nat → Nat) (i j : Nat) (hj : j < wd) : markL wd m (i * wd + j + 1) = markL wd m (i * wd + j) ++ [m i j] := by
  obtain ⟨h1, h2⟩ := cell_div i j wd hj
  unfold markL
  rw [List.range_succ, List.map_append, List.map_singleton, h1, h2]

theorem markL_prefix (wd : Nat) (m : Nat → Nat → Nat) (t u : Nat) : ∃ R, markL wd m (t + u) = markL wd m t ++ R := by
  induction u with
  | zero => exact ⟨[], by simp⟩
  | succ u ih =>
    obtain ⟨R, hR⟩ := ih
    refine ⟨R ++ [m ((t + u) / wd) ((t + u) % wd)], ?_⟩
    rw [← Nat.add_assoc]
    unfold markL at *
    rw [List.range_succ, List.map_append, hR, List.append_assoc]
    rfl

/-- the number of a mark among all is told by the marks ahead of it -/
theorem markF_idx (h wd : Nat) (m : Nat → Nat → Nat) (i j : Nat) (hi : i < h) (hj : j < wd) : (markF h wd m).idxOf (m i j) = (firsts (markL wd m (i * wd + j))).idxOf (m i j) := by
  have hle : i * wd + j + 1 ≤ h * wd := by
    have : i * wd + wd ≤ h * wd := by rw [← Nat.succ_mul]; exact Nat.mul_le_mul_right _ hi
    omega
  obtain ⟨R, hR⟩ := markL_prefix wd m (i * wd + j + 1) (h * wd - (i * wd + j + 1))
  unfold markF
  rw [show h * wd = i * wd + j + 1 + (h * wd - (i * wd + j + 1)) from by omega, hR, markL_succ wd m i j hj, List.append_assoc, List.singleton_append, name_at]

theorem roomG_succ (h wd : Nat) (m : Nat → Nat → Nat) (i j : Nat) (hi : i < h) (hj : j < wd) :
    (fun i' j' => if i' = i ∧ j' = j then (firsts (markL wd m (i * wd + j))).idxOf (m i j) else roomG h wd m (i * wd + j) i' j') = roomG h wd m (i * wd + j + 1) := by
  funext i' j'
  by_cases he : i' = i ∧ j' = j
  · obtain ⟨rfl, rfl⟩ := he
    rw [if_pos ⟨rfl, rfl⟩]
    unfold roomG
    rw [if_pos ⟨hi, hj, by omega⟩, markF_idx h wd m i' j' hi hj]
  · rw [if_neg he]
    unfold roomG
    by_cases hx : i' < h ∧ j' < wd ∧ i' * wd + j' < i * wd + j
    · rw [if_pos hx, if_pos ⟨hx.1, hx.2.1, by omega⟩]
    · rw [if_neg hx, if_neg]
      rintro ⟨a, b, c⟩
      apply hx
      refine ⟨a, b, ?_⟩
      rcases Nat.lt_or_ge (i' * wd + j') (i * wd + j) with h' | h'
      · exact h'
      · exfalso
        have heq : i' * wd + j' = i * wd + j := by omega
        apply he
        have e1 := cell_div i' j' wd b
        have e2 := cell_div i j wd hj
        rw [heq] at e1
        exact ⟨e1.1.symm.trans e2.1, e1.2.symm.trans e2.2⟩

set_option maxRecDepth 100000 in
set_option maxHeartbeats 2000000 in
theorem drawPlan_any (fid : Nat) (lb : Array Value) (h wd : Int) (m : Nat → Nat → Nat) (w : World) (eg : ∀ args w, (callFunc fid args).run Try.prog w = .ok (.enter fid args) w)
    (hm26 : ∀ i j, m i j < 26)
    (hm : ∀ W, Below w.heap.size w W → ∀ i j : Nat, (i : Int) < h → (j : Int) < wd → Calls Try.prog fid (#[.int .i64 i, .int .i64 j] ++ lb) W fun e W' => e = .returned (.int .i64 (m i j : Nat)) ∧ Below W.heap.size W W') :
    Calls Try.prog 75 #[.int .i64 h, .int .i64 wd, .func (.func fid) #[] lb] w fun e w' => e = .returned (.tuple #[.agg (drawC h wd m), .bool (drawOk h wd m)]) ∧ Below w.heap.size w w' := by
  by_cases h1 : 1 ≤ h
  · by_cases h2 : h ≤ 6
    · by_cases h3 : 1 ≤ wd
      · by_cases h4 : wd ≤ 6
        · have HM := Lib.hid hm; clear hm
          obtain ⟨hn, rfl⟩ : ∃ hn : Nat, h = (hn : Int) := ⟨h.toNat, by omega⟩
          obtain ⟨wn, rfl⟩ : ∃ wn : Nat, wd = (wn : Int) := ⟨wd.toNat, by omega⟩
          have hd1 : decide ((hn : Int) < 1) = false := by rw [decide_eq_false_iff_not]; omega
          have hd2 : decide (6 < (hn : Int)) = false := by rw [decide_eq_false_iff_not]; omega
          have hd3 : decide ((wn : Int) < 1) = false := by rw [decide_eq_false_iff_not]; omega
          have hd4 : decide (6 < (wn : Int)) = false := by rw [decide_eq_false_iff_not]; omega
          have hbt : (Try.prog.built 47 [(0, .int .i64 (hn : Int)), (1, .int .i64 (wn : Int))]) = some (planC hn wn 0 (fun _ _ => 0)) := by kernel_rfl
          have HBT := Lib.hid hbt; clear hbt
          go_enter Try.func75, Try.ntmps75
          go_wp2_with (first
            | (refine wpList_alloc_zero rfl 47 rfl zeroC zero_plan ?_)
            | (refine wpList_alloc_zero rfl 158 rfl (namesC []) zero_names ?_)
            | (refine wpList_build_as rfl 47 _ rfl (planC hn wn 0 (fun _ _ => 0)) (by simp only [List.map_toArray, List.map_cons, List.map_nil]; exact HBT.out) ?_)
            | (refine wpList_store_new rfl 47 _ _ rfl _ zeroC _ rfl rfl rfl (plan_size _ _ _ _) (by rw [planC_size]; rfl) (planC_one _ _ _ _) ?_))
          have hst0 : DrawSt w hn wn m 0 (((w.alloc (.cells zeroC 47)).alloc (.cells (planC hn wn 0 (fun _ _ => 0)) 47)).alloc (.cells (namesC []) 158)) := by
            refine ⟨((HeldB.new w _ _).alloc _).alloc _, ?_, ?_, ?_⟩
            · have := (HeldB.new (w.alloc (.cells zeroC 47)) 47 (planC hn wn 0 (fun _ _ => 0))).alloc (.cells (namesC []) 158)
              rw [World.size_alloc] at this
              exact this.eq (planC_congr hn wn 0 (fun i j _ _ => by unfold roomG; rw [if_neg (by omega)]))
            · have := HeldB.new ((w.alloc (.cells zeroC 47)).alloc (.cells (planC hn wn 0 (fun _ _ => 0)) 47)) 158 (namesC [])
              rw [World.size_alloc, World.size_alloc] at this
              exact this
            · exact (((Below.refl _ w).alloc (Nat.le_refl _) _).alloc (by simp) _).alloc (by simp; omega) _
          go_loopw [32] (fun vi wr => ∃ i : Nat, i ≤ hn ∧ vi = .int .i64 i ∧ DrawSt w hn wn m (i * wn) wr) (fun i _ => hn - (intOf i).toNat)
          case atStart => exact ⟨0, Nat.zero_le _, rfl, by rw [Nat.zero_mul]; exact hst0⟩
          case round =>
            clear hst0
            obtain ⟨i, hi, rfl, hst⟩ := hrel
            by_cases hlt : i < hn
            · go_wp2
              go_loopw [36] (fun vj wr => ∃ j : Nat, j ≤ wn ∧ vj = .int .i64 j ∧ DrawSt w hn wn m (i * wn + j) wr) (fun j _ => wn - (intOf j).toNat)
              case atStart => exact ⟨0, Nat.zero_le _, rfl, hst⟩
              case round =>
                clear hst
                obtain ⟨j, hj, rfl, hst⟩ := hrel
                by_cases hjl : j < wn
                · have hv := hm26 i j
                  have HMS := Lib.hid (markL_succ wn m i j hjl)
                  have HRG := Lib.hid (roomG_succ hn wn m i j hlt hjl)
                  have hol : (firsts (markL wn m (i * wn + j))).length ≤ 36 := Nat.le_trans (firsts_len _) (by
                    have : i * wn + wn ≤ hn * wn := by rw [← Nat.succ_mul]; exact Nat.mul_le_mul_right _ hlt
                    have h36 : hn * wn ≤ 36 := Nat.mul_le_mul (by omega : hn ≤ 6) (by omega : wn ≤ 6)
                    simp [markL]; omega)
                  go_wp2_with fail
                  refine (HM.out _ hst.2.2.2 i j (by omega) (by omega)).mono ?_
                  rintro e w1 ⟨rfl, hb1⟩
                  obtain ⟨hR, hG, hN, hB⟩ := hst.below hb1
                  clear hst hb1
                  have HSN := Lib.hid (firsts_snoc (markL wn m (i * wn + j)) (m i j))
                  generalize firsts (markL wn m (i * wn + j)) = o at *
                  have cN : w1.cell? ⟨w.heap.size + 1 + 1, m i j, none⟩ = some (.int .i64 ((nameN o (m i j) : Nat) : Int)) := (hN.cell _).trans (namesC_at o _ hv)
                  have fGc := hG.frozen (3 + i * 6 + j)
                  have cGc : w1.cell? ⟨w.heap.size + 1, 3 + i * 6 + j, none⟩ = some (.int .i64 ((roomG hn wn m (i * wn + j) i j : Nat) : Int)) := (hG.cell _).trans (planC_at _ _ _ _ i j (by omega) (by omega))
                  by_cases hmo : m i j ∈ o
                  · have hnm := nameN_yes hmo
                    rw [hnm] at cN
                    have hfo : firsts (markL wn m (i * wn + j + 1)) = o := by rw [HMS.out, HSN.out, if_pos hmo]
                    have hidx : o.idxOf (m i j) < o.length := List.idxOf_lt_length_of_mem hmo
                    have HFO := Lib.hid hfo; clear hfo hnm
                    have hG2 := (hG.set (3 + i * 6 + j) (.int .i64 ((o.idxOf (m i j) : Nat) : Int))).eq (planC_setg _ _ _ _ i j _ (by omega) (by omega))
                    rw [HRG.out] at hG2
                    have hR2 := hR.other (a := ⟨w.heap.size + 1, 3 + i * 6 + j, none⟩) (by simp) (.int .i64 ((o.idxOf (m i j) : Nat) : Int))
                    have hN2 := hN.other (a := ⟨w.heap.size + 1, 3 + i * 6 + j, none⟩) (by simp) (.int .i64 ((o.idxOf (m i j) : Nat) : Int))
                    have hB2 := hB.setCell (p := ⟨w.heap.size + 1, 3 + i * 6 + j, none⟩) (by simp) (.int .i64 ((o.idxOf (m i j) : Nat) : Int))
                    have hst2 : DrawSt w hn wn m (i * wn + j + 1) (w1.setCell ⟨w.heap.size + 1, 3 + i * 6 + j, none⟩ (.int .i64 ((o.idxOf (m i j) : Nat) : Int))) := ⟨hR2, by rw [HFO.out]; exact hG2, by rw [HFO.out]; exact hN2, hB2⟩
                    clear hG2 hR2 hN2 hB2 hG hN hR hB hmo
                    generalize o.idxOf (m i j) = x at *
                    have hne : (((x + 1 : Nat) : Int) == 0) = false := by rw [beq_eq_false_iff_ne]; omega
                    go_wp2
                    go_region
                    go_wp2
                    go_roundw
                    case rel => exact ⟨j + 1, by omega, by go_num, by rw [← Nat.add_assoc]; exact hst2.drew⟩
                    case measure => simp [intOf]; omega
                  · have hnm := nameN_no hmo
                    rw [hnm] at cN
                    have hfo : firsts (markL wn m (i * wn + j + 1)) = o ++ [m i j] := by rw [HMS.out, HSN.out, if_neg hmo]
                    have hidx : o.idxOf (m i j) = o.length := idxOf_not_mem hmo
                    have HFO := Lib.hid hfo; clear hfo hnm
                    rw [hidx] at HRG
                    have cG2 : w1.cell? ⟨w.heap.size + 1, 2, none⟩ = some (.int .i64 ((o.length : Nat) : Int)) := (hG.cell _).trans (planC_2 _ _ _ _)
                    have fG2 := hG.frozen 2
                    have fN := hN.frozen (m i j)
                    -- the three stores
                    have hGa := (hG.set 2 (.int .i64 ((o.length + 1 : Nat) : Int))).eq (planC_set2 _ _ _ _ _)
                    have hNa := hN.other (a := ⟨w.heap.size + 1, 2, none⟩) (by simp) (.int .i64 ((o.length + 1 : Nat) : Int))
                    have hRa := hR.other (a := ⟨w.heap.size + 1, 2, none⟩) (by simp) (.int .i64 ((o.length + 1 : Nat) : Int))
                    have hBa := hB.setCell (p := ⟨w.heap.size + 1, 2, none⟩) (by simp) (.int .i64 ((o.length + 1 : Nat) : Int))
                    have hNb := (hNa.set (m i j) (.int .i64 ((o.length + 1 : Nat) : Int))).eq (namesC_set hmo hv)
                    have hGb := hGa.other (a := ⟨w.heap.size + 1 + 1, m i j, none⟩) (by simp) (.int .i64 ((o.length + 1 : Nat) : Int))
                    have hRb := hRa.other (a := ⟨w.heap.size + 1 + 1, m i j, none⟩) (by simp; omega) (.int .i64 ((o.length + 1 : Nat) : Int))
                    have hBb := hBa.setCell (p := ⟨w.heap.size + 1 + 1, m i j, none⟩) (by simp; omega) (.int .i64 ((o.length + 1 : Nat) : Int))
                    have hGc := (hGb.set (3 + i * 6 + j) (.int .i64 ((o.length : Nat) : Int))).eq (planC_setg _ _ _ _ i j _ (by omega) (by omega))
                    rw [HRG.out] at hGc
                    have hRc := hRb.other (a := ⟨w.heap.size + 1, 3 + i * 6 + j, none⟩) (by simp) (.int .i64 ((o.length : Nat) : Int))
                    have hNc := hNb.other (a := ⟨w.heap.size + 1, 3 + i * 6 + j, none⟩) (by simp) (.int .i64 ((o.length : Nat) : Int))
                    have hBc := hBb.setCell (p := ⟨w.heap.size + 1, 3 + i * 6 + j, none⟩) (by simp) (.int .i64 ((o.length : Nat) : Int))
                    have hlen : (o ++ [m i j]).length = o.length + 1 := by simp
                    have hst2 : DrawSt w hn wn m (i * wn + j + 1) (((w1.setCell ⟨w.heap.size + 1, 2, none⟩ (.int .i64 ((o.length + 1 : Nat) : Int))).setCell ⟨w.heap.size + 1 + 1, m i j, none⟩ (.int .i64 ((o.length + 1 : Nat) : Int))).setCell ⟨w.heap.size + 1, 3 + i * 6 + j, none⟩ (.int .i64 ((o.length : Nat) : Int))) := ⟨hRc, by rw [HFO.out, hlen]; exact hGc, by rw [HFO.out]; exact hNc, hBc⟩
                    rw [show ((o.length + 1 : Nat) : Int) = (o.length : Int) + 1 from by omega] at hst2
                    clear hGa hNa hRa hBa hNb hGb hRb hBb hGc hRc hNc hBc hlen hG hN hR hB hmo hidx
                    have hz0 : (((0 : Nat) : Int) == 0) = true := by simp
                    go_wp2
                    go_region
                    go_wp2
                    go_roundw
                    case rel => exact ⟨j + 1, by omega, by go_num, by rw [← Nat.add_assoc]; exact hst2.drew⟩
                    case measure => simp [intOf]; omega
                · obtain rfl : j = wn := by omega
                  go_wp2
                  go_roundw
                  case rel => exact ⟨i + 1, by omega, by go_num, by rw [Nat.succ_mul]; exact hst⟩
                  case measure => simp [intOf]; omega
            · obtain rfl : i = hn := by omega
              obtain ⟨hR, hG, hN, hB⟩ := hst
              clear hN
              have hroomE : firsts (markL wn m (i * wn)) = markF i wn m := rfl
              have hgE : roomG i wn m (i * wn) = renG i wn m := rfl
              rw [hroomE, hgE] at hG
              clear hroomE hgE
              have hGh : wr.heap[w.heap.size + 1]? = some (.cells (planC i wn (markF i wn m).length (renG i wn m)) 47 (0, 0)) := hG
              have hRh : wr.heap[w.heap.size]? = some (.cells zeroC 47 (0, 0)) := hR
              have cG2 : wr.cell? ⟨w.heap.size + 1, 2, none⟩ = some (.int .i64 (((markF i wn m).length : Nat) : Int)) := (hG.cell _).trans (planC_2 _ _ _ _)
              have hdim : l6B (i : Int) 1 6 = true ∧ l6B (wn : Int) 1 6 = true := ⟨l6B_true h1 h2, l6B_true h3 h4⟩
              have hok : drawOk (i : Int) (wn : Int) m = (decide ((markF i wn m).length ≤ 9) && filledB i wn (renG i wn m)) := by
                unfold drawOk; rw [hdim.1, hdim.2]; rfl
              by_cases hr9 : (markF i wn m).length ≤ 9
              · have hdr : decide (9 < (((markF i wn m).length : Nat) : Int)) = false := by rw [decide_eq_false_iff_not]; omega
                have HFI := Lib.hid (fun W => isFilled_any i wn (markF i wn m).length (renG i wn m) (by omega) (by omega) W)
                have HSZ := Lib.hid (plan_size i wn (markF i wn m).length (renG i wn m))
                have HONE := Lib.hid (planC_one i wn (markF i wn m).length (renG i wn m))
                have HS39 := Lib.hid (planC_size i wn (markF i wn m).length (renG i wn m))
                rw [decide_eq_true hr9, Bool.true_and] at hok
                have hdC : drawC (i : Int) (wn : Int) m = if filledB i wn (renG i wn m) then planC i wn (markF i wn m).length (renG i wn m) else zeroC := by unfold drawC; rw [hok]; rfl
                have HOK := Lib.hid hok; have HDC := Lib.hid hdC
                clear hok hdC hr9
                generalize planC i wn (markF i wn m).length (renG i wn m) = C at *
                cases hfl : filledB i wn (renG i wn m)
                · have HFL := Lib.hid hfl
                  go_wp2_with (first
                    | (refine wpList_load_row_guard rfl 47 _ rfl (w.heap.size + 1) rfl 47 C (0, 0) _ hGh Try.underlying47 rfl HSZ.out ?_)
                    | (go_at_call 105; refine (HFI.out _).mono ?_; rintro e w2 ⟨rfl, hb2⟩; have hR2 := hR.below hb2; have hRh2 : w2.heap[w.heap.size]? = some (.cells zeroC 47 (0, 0)) := hR2)
                    | (refine wpList_build_as rfl 47 _ rfl zeroC (by simp only [List.map_toArray, List.map_nil]; exact built_zero) ?_)
                    | (refine wpList_store_row rfl 47 _ _ rfl w.heap.size zeroC rfl rfl 47 zeroC hRh2 (plan_size _ _ _ _) rfl (planC_one _ _ _ _) ?_))
                  refine bodyPost_ret (results_plan rfl rfl (hR2.setRow zeroC) (planC_size _ _ _ _) rfl) rfl ⟨?_, below_setRowB (below_step hB hB.size hb2) (Nat.le_refl _) _⟩
                  rw [HDC.out, HOK.out, HFL.out]; rfl
                · have HFL := Lib.hid hfl
                  go_wp2_with (first
                    | (refine wpList_load_row_guard rfl 47 _ rfl (w.heap.size + 1) rfl 47 C (0, 0) _ hGh Try.underlying47 rfl HSZ.out ?_)
                    | (go_at_call 105; refine (HFI.out _).mono ?_; rintro e w2 ⟨rfl, hb2⟩; have hR2 := hR.below hb2; have hRh2 : w2.heap[w.heap.size]? = some (.cells zeroC 47 (0, 0)) := hR2; have hGh2 : w2.heap[w.heap.size + 1]? = some (.cells C 47 (0, 0)) := hG.below hb2)
                    | (refine wpList_load_row rfl 47 _ rfl (w.heap.size + 1) rfl 47 C (0, 0) _ hGh2 Try.underlying47 rfl HSZ.out ?_)
                    | (refine wpList_store_row rfl 47 _ _ rfl w.heap.size C rfl rfl 47 zeroC hRh2 HSZ.out (by rw [HS39.out]; exact planC_size _ _ _ _) HONE.out ?_))
                  refine bodyPost_ret (results_plan rfl rfl (hR2.setRow C) HS39.out rfl) rfl ⟨?_, below_setRowB (below_step hB hB.size hb2) (Nat.le_refl _) _⟩
                  rw [HDC.out, HOK.out, HFL.out]; rfl
              · have hdr : decide (9 < (((markF i wn m).length : Nat) : Int)) = true := by rw [decide_eq_true_eq]; omega
                rw [decide_eq_false hr9, Bool.false_and] at hok
                have hdC : drawC (i : Int) (wn : Int) m = zeroC := by unfold drawC; rw [hok]; rfl
                have HOK := Lib.hid hok; have HDC := Lib.hid hdC
                clear hok hdC hr9
                go_wp2_with (first
                  | (refine wpList_build_as rfl 47 _ rfl zeroC (by simp only [List.map_toArray, List.map_nil]; exact built_zero) ?_)
                  | (refine wpList_store_row rfl 47 _ _ rfl w.heap.size zeroC rfl rfl 47 zeroC hRh (plan_size _ _ _ _) rfl (planC_one _ _ _ _) ?_))
                refine bodyPost_ret (results_plan rfl rfl (hR.setRow zeroC) (planC_size _ _ _ _) rfl) rfl ⟨?_, below_setRowB hB (Nat.le_refl _) _⟩
                rw [HDC.out, HOK.out]; rfl
        · have hd1 : decide (h < 1) = false := by rw [decide_eq_false_iff_not]; omega
          have hd2 : decide (6 < h) = false := by rw [decide_eq_false_iff_not]; omega
          have hd3 : decide (wd < 1) = false := by rw [decide_eq_false_iff_not]; omega
          have hd4 : decide (6 < wd) = true := by rw [decide_eq_true_eq]; omega
          have hok : drawOk h wd m = false := by unfold drawOk; rw [@l6B_hi wd 1 6 h4]; simp
          have hdC : drawC h wd m = zeroC := by unfold drawC; rw [hok]; rfl
          have HOK := Lib.hid hok; have HDC := Lib.hid hdC
          clear hok hdC hm
          go_enter Try.func75, Try.ntmps75
          go_wp2_with (first
            | (refine wpList_alloc_zero rfl 47 rfl zeroC zero_plan ?_)
            | (refine wpList_build_as rfl 47 _ rfl zeroC (by simp only [List.map_toArray, List.map_nil]; exact built_zero) ?_)
            | (refine wpList_store_new rfl 47 _ _ rfl _ zeroC _ rfl rfl rfl (plan_size _ _ _ _) rfl (planC_one _ _ _ _) ?_))
          refine bodyPost_ret (results_plan rfl rfl (HeldB.new w 47 zeroC) (planC_size _ _ _ _) rfl) rfl ⟨?_, below_alloc _ _⟩
          rw [HDC.out, HOK.out]; rfl
      · have hd1 : decide (h < 1) = false := by rw [decide_eq_false_iff_not]; omega
        have hd2 : decide (6 < h) = false := by rw [decide_eq_false_iff_not]; omega
        have hd3 : decide (wd < 1) = true := by rw [decide_eq_true_eq]; omega
        have hok : drawOk h wd m = false := by unfold drawOk; rw [@l6B_lo wd 1 6 h3]; simp
        have hdC : drawC h wd m = zeroC := by unfold drawC; rw [hok]; rfl
        have HOK := Lib.hid hok; have HDC := Lib.hid hdC
        clear hok hdC hm
        go_enter Try.func75, Try.ntmps75
        go_wp2_with (first
          | (refine wpList_alloc_zero rfl 47 rfl zeroC zero_plan ?_)
          | (refine wpList_build_as rfl 47 _ rfl zeroC (by simp only [List.map_toArray, List.map_nil]; exact built_zero) ?_)
          | (refine wpList_store_new rfl 47 _ _ rfl _ zeroC _ rfl rfl rfl (plan_size _ _ _ _) rfl (planC_one _ _ _ _) ?_))
        refine bodyPost_ret (results_plan rfl rfl (HeldB.new w 47 zeroC) (planC_size _ _ _ _) rfl) rfl ⟨?_, below_alloc _ _⟩
        rw [HDC.out, HOK.out]; rfl
    · have hd1 : decide (h < 1) = false := by rw [decide_eq_false_iff_not]; omega
      have hd2 : decide (6 < h) = true := by rw [decide_eq_true_eq]; omega
      have hok : drawOk h wd m = false := by unfold drawOk; rw [@l6B_hi h 1 6 h2]; simp
      have hdC : drawC h wd m = zeroC := by unfold drawC; rw [hok]; rfl
      have HOK := Lib.hid hok; have HDC := Lib.hid hdC
      clear hok hdC hm
      go_enter Try.func75, Try.ntmps75
      go_wp2_with (first
        | (refine wpList_alloc_zero rfl 47 rfl zeroC zero_plan ?_)
        | (refine wpList_build_as rfl 47 _ rfl zeroC (by simp only [List.map_toArray, List.map_nil]; exact built_zero) ?_)
        | (refine wpList_store_new rfl 47 _ _ rfl _ zeroC _ rfl rfl rfl (plan_size _ _ _ _) rfl (planC_one _ _ _ _) ?_))
      refine bodyPost_ret (results_plan rfl rfl (HeldB.new w 47 zeroC) (planC_size _ _ _ _) rfl) rfl ⟨?_, below_alloc _ _⟩
      rw [HDC.out, HOK.out]; rfl
  · have hd1 : decide (h < 1) = true := by rw [decide_eq_true_eq]; omega
    have hok : drawOk h wd m = false := by unfold drawOk; rw [@l6B_lo h 1 6 h1]; simp
    have hdC : drawC h wd m = zeroC := by unfold drawC; rw [hok]; rfl
    have HOK := Lib.hid hok; have HDC := Lib.hid hdC
    clear hok hdC hm
    go_enter Try.func75, Try.ntmps75
    go_wp2_with (first
      | (refine wpList_alloc_zero rfl 47 rfl zeroC zero_plan ?_)
      | (refine wpList_build_as rfl 47 _ rfl zeroC (by simp only [List.map_toArray, List.map_nil]; exact built_zero) ?_)
      | (refine wpList_store_new rfl 47 _ _ rfl _ zeroC _ rfl rfl rfl (plan_size _ _ _ _) rfl (planC_one _ _ _ _) ?_))
    refine bodyPost_ret (results_plan rfl rfl (HeldB.new w 47 zeroC) (planC_size _ _ _ _) rfl) rfl ⟨?_, below_alloc _ _⟩
    rw [HDC.out, HOK.out]; rfl

end Go.Proofs.Ytpgcpmfemcfoaaa
