
/-
  The model's walls, all of them in order. (Walks.)
-/
import Derived.Test.YtdhnklaflbaeeaaWallK
import Derived.Test.YtdhnklaflbaeeaaNestB
namespace Go.Proofs.Ytdhnklaflbaeeaa
open Go.RowKit

def wlN (x : Wl) : List Int := [x.way, x.line, x.first, x.long]
theorem upL_three {p : List ByteArray} {k : Nat} : ∀ l ∈ upL p k, l.length = 3 := fun l hl => by
  unfold upL at hl; rw [List.mem_map] at hl; obtain ⟨x, _, rfl⟩ := hl; rfl

/-- the model's walls, as lists of numbers -/
def wallsL (p : List ByteArray) : List (List Int) := (upL p (wideB p)).map (fun l => 0 :: l) ++ (upL (transB p) p.length).map (fun l => 1 :: l)
theorem wallsL_walls {p : List ByteArray} (h : planB p = true) : wallsL p = (wallsP p).map wlN := by
  unfold wallsL
  rw [upL_grid h, upL_trans h, wallsP_yes h]
  unfold wallsG
  rw [List.map_append, List.map_map, List.map_map]
  congr 1
  · refine List.map_congr_left fun x hx => ?_
    simp [wlN, wlL, ways_up x hx]
  · refine List.map_congr_left fun x hx => ?_
    simp [wlN, wlL, ways_lv x hx]

theorem take_map_snoc {f : List Int → List Int} {U : List (List Int)} {i : Nat} (h : i < U.length) : (U.take (i + 1)).map f = (U.take i).map f ++ [f (U.getD i [])] := by
  rw [take_succ_getD U i [] h, List.map_append]; rfl

set_option maxRecDepth 100000 in
set_option maxHeartbeats 4000000 in
theorem l2Walls_any (ao : Option Addr) (cap : Nat) (p : List ByteArray) (w : World) (hp : planB p = true) (hc : CellsAt w ao (p.map Value.string)) :
    Calls Try.prog 121 #[.slice ao p.length cap] w
      fun e w' => ∃ ro rc, e = .returned (.slice ro (wallsL p).length rc) ∧ RowsOwn w' w.heap.size ro rc (wallsL p) ∧ Below w.heap.size w w' := by
  obtain ⟨ir, hri, hrz, hr1, hr2⟩ := info_parts Try.infoRow
  obtain ⟨im, hmi, hmz, hm1, hm2⟩ := info_parts Try.infoNum
  have hg := (planP_of hp).grid
  have h1 := hg.h1; have h6 := hg.h6; have w1' := hg.w1; have w6 := hg.w6; have hev := hg.even
  have HEV := Lib.hid hev
  have HET := Lib.hid (trans_even w1')
  have HTL := Lib.hid (trans_len p); have HTW := Lib.hid (trans_wide w1')
  clear hg hev
  have HU := Lib.hid (fun (w : World) (hc : CellsAt w ao (p.map Value.string)) => l2Upright_any ao cap _ p w rfl h1 h6 w1' w6 HEV.out hc)
  have HV := Lib.hid (fun (ao : Option Addr) (cap : Nat) (w : World) (hc : CellsAt w ao ((transB p).map Value.string)) => l2Upright_any ao cap (wideB p) (transB p) w HTL.out (by rw [HTL.out]; exact w1') (by rw [HTL.out]; exact w6) (by rw [HTW.out]; exact h1) (by rw [HTW.out]; exact h6) HET.out hc)
  have HTR := Lib.hid (fun (w : World) (hc : CellsAt w ao (p.map Value.string)) => l1Trans_any ao cap _ p w rfl h1 (by omega) (by omega) HEV.out hc)
  rw [HTW.out] at HV
  unfold wallsL
  have HU3 := Lib.hid (upL_three (p := p) (k := wideB p))
  have HV3 := Lib.hid (upL_three (p := transB p) (k := p.length))
  have hUl : (upL p (wideB p)).length ≤ 36 := Nat.le_trans (upL_len p _) (Nat.mul_le_mul w6 h6)
  have hVl : (upL (transB p) p.length).length ≤ 36 := Nat.le_trans (upL_len _ _) (by rw [HTL.out]; exact Nat.mul_le_mul h6 w6)
  generalize upL p (wideB p) = U at *
  generalize upL (transB p) p.length = V at *
  clear h1 h6 w1' w6 hp
  have HC := Lib.hid hc; clear hc
  go_enter Try.func121, Try.ntmps121
  go_wp2_with (go_at_call 153; refine (HU.out _ (HC.out.below (below_alloc _ _))).mono ?_; rintro e w1 ⟨uo, uc, rfl, hrow1, hb1⟩)
  obtain ⟨us, hus⟩ := hrow1
  have hR1 := (rowsOwn_made w).below hb1
  have hB1 : Below w.heap.size w w1 := (below_alloc w (.cells #[] 32)).trans (hb1.mono (by simp))
  have hs1 : w.heap.size + 1 ≤ w1.heap.size := by have := hb1.size; simp at this; omega
  have hus := hus.base (base' := w.heap.size + 1) (by simp)
  clear hb1
  go_loopw [3, 5] (fun vo vi wr => ∃ (i : Nat) (ro : Option Addr) (rc : Nat), i ≤ U.length ∧ vi = .int .i64 i ∧ vo = .slice ro (((U.take i).map fun l => 0 :: l)).length rc ∧ RowsOwn wr w.heap.size ro rc (((U.take i).map fun l => 0 :: l)) ∧
    w1.grownBy wr (some w.heap.size) ∧ (∀ a, ro = some a → a.block = w.heap.size ∨ w1.heap.size ≤ a.block) ∧ Below w.heap.size w wr) (fun _ vi _ => U.length - (intOf vi).toNat)
  case atStart => exact ⟨0, _, _, Nat.zero_le _, rfl, rfl, hR1, ⟨rfl, rfl, rfl, Nat.le_refl _, fun _ _ _ => rfl⟩, fun a ha => by cases ha; exact .inl rfl, hB1⟩
  case round =>
    obtain ⟨i, ro, rc, hi, rfl, rfl, hrow, hgr, hro, hB⟩ := hrel
    by_cases hlt : i < U.length
    · have hlt' : decide ((i : Int) < (U.length : Int)) = true := by rw [decide_eq_true_eq]; omega
      have h3 := HU3.out _ (getD_mem [] hlt)
      obtain ⟨bb, off, g, c, rfl, hcu, hcl, hbb1, hg1, hbb2, hg2⟩ := hus.row hlt (by rw [h3]; omega)
      have hcu' := hgr.cell hcu (by simp; omega)
      have hcl' := hcl.grown hgr (fun a ha => by cases ha; simp; omega)
      rw [h3] at hcu'
      have HTM := Lib.hid (take_map_snoc (f := fun l => 0 :: l) hlt)
      obtain ⟨l, hl⟩ : ∃ l, U.getD i [] = l := ⟨_, rfl⟩
      rw [hl] at HTM hcl' h3
      clear hcl hcu hl
      have hcuA := cell_below hcu' (below_alloc wr (.cells #[.int .i64 0] 3))
      clear hcu'
      obtain ⟨vs, hvs⟩ := hrow
      have hBl : (((U.take i).map fun l => 0 :: l)).length ≤ 80 := by simp; omega
      generalize hBQ : ((U.take i).map fun l => 0 :: l) = BQ at *
      have HBQ := Lib.hid hBQ; clear hBQ
      have h63 : BQ.length + 1 ≤ maxLen := by unfold maxLen; omega
      have h64 : (BQ.length + 1) * 24 ≤ 140737488355328 := by omega
      have hwr := hB.size
      have hlv : (l.map (Value.int .i64)).length = 3 * 1 := by rw [List.length_map, h3]
      have hone : ∀ v ∈ l.map (Value.int .i64), v.oneCell' = true := fun v hv => by rw [List.mem_map] at hv; obtain ⟨z, _, rfl⟩ := hv; rfl
      have hclA := hcl'.below (below_alloc wr (.cells #[.int .i64 0] 3))
      have hcells : ∀ j v, (l.map (Value.int .i64))[j]? = some v → (wr.alloc (.cells #[.int .i64 0] 3)).cell? ⟨g, 0 + j, none⟩ = some v := fun j v hj => by
        obtain ⟨b', o', he, hc'⟩ := hclA j v hj
        simp only [Option.some.injEq, Addr.mk.injEq, and_true] at he
        obtain ⟨rfl, rfl⟩ := he
        exact hc'
      have HCELLS := Lib.hid hcells
      clear hcells hclA
      go_wp2_with (first
        | (at_builtin; (refine wpList_pushK _ rfl _ _ 32 rfl wr.heap.size 3 im (.int .i64 0) 1 8 Try.underlying32 hmi hmz hm1 hm2 rfl (by decide) (some ⟨wr.heap.size, 0, none⟩) 1 1 _ rfl (owns_lit wr wr.heap.size 3 [.int .i64 0] (Nat.le_refl _) (by simp [maxLen])) (l.map (Value.int .i64)) 3 g 0 c rfl (by decide) hlv HCELLS.out hone (by simp [maxLen]) (by omega) (by simp) ?_); intro lo lc w7 hown7 hg7 hnew7; have hbB3 := below_of_grownBy' (below_alloc wr (.cells #[.int .i64 0] 3)) hg7 (fun a ha => by cases ha; exact Nat.le_refl _); have hs7 := hbB3.size)
        | (at_builtin; refine wpList_push _ rfl _ _ 50 rfl w.heap.size 32 ir (.slice none 0 0) 24 Try.underlying50 hri hrz hr1 hr2 rfl ro BQ.length rc vs rfl (ownsRow_below (ownsRow_below hvs.1 hbB3) (below_alloc _ _)) _ _ _ rfl (cell_new _ _ _) rfl h63 h64 (by simp; omega) ?_; intro ro2 rc2 w8 hown4 hg4 hnew4))
      have hlt2 := owns_lt hvs.1
      have hlo : ∀ a, lo = some a → wr.heap.size ≤ a.block := fun a ha => by
        rcases hnew7 a ha with h' | h'
        · cases h'; exact Nat.le_refl _
        · simp at h'; omega
      have hl4 : (0 :: l).length = 1 + 3 := by rw [List.length_cons, h3]
      have hvs2 := hvs.push (l := 0 :: l) (c := lc) (hbB3.trans ((below_alloc _ _).mono hs7)) (ownsRow_below (by rw [hl4]; exact ownsRow_base hown7 hwr) (below_alloc w7 _)) hlo (by rw [hl4]; exact hown4) hg4 hnew4
      have hg5 : w1.grownBy w8 (some w.heap.size) := grownBy_step hgr (grownBy_trans (grownBy_of_below (hbB3.trans ((below_alloc _ _).mono hs7)) _) hg4) (fun k hk => by
        obtain ⟨a, ha, rfl⟩ := ownBlock_is hk
        exact hro a ha)
      have hb5 := below_of_grownBy' (hB.trans ((hbB3.trans ((below_alloc _ _).mono hs7)).mono hwr)) hg4 (fun a ha => (hlt2 a ha).1)
      go_roundw
      case rel => exact ⟨i + 1, ro2, rc2, by omega, by go_num, by rw [HTM.out, List.length_append]; rfl, by rw [HTM.out]; exact ⟨_, hvs2⟩, hg5, (fun a ha => by
        rcases hnew4 a ha with h' | h'
        · exact hro a h'
        · right; have := hgr.size; simp at h'; omega), hb5⟩
      case measure => simp [intOf]; omega
    · obtain rfl : i = U.length := by omega
      have hlt' : decide ((U.length : Int) < (U.length : Int)) = false := by rw [decide_eq_false_iff_not]; omega
      rw [List.take_length] at hrow
      obtain ⟨vs, hvs⟩ := hrow
      obtain ⟨wA, rfl⟩ : ∃ wA, wA = wr := ⟨_, rfl⟩
      have hAs := hB.size
      obtain ⟨b0, hb0, hro0⟩ : ∃ b0, b0 < wA.heap.size ∧ ∀ a, ro = some a → a.block = b0 := by
        cases ro with
        | none => exact ⟨w.heap.size, by have := hgr.size; omega, fun a ha => by cases ha⟩
        | some a => exact ⟨a.block, (owns_lt hvs.1 a rfl).2, fun b hb => by cases hb; rfl⟩
      have hcA := HC.out.below hB
      clear hro hgr hR1 hB1
      have hUm : (U.map fun l => (0 : Int) :: l).length ≤ 36 := by rw [List.length_map]; exact hUl
      obtain ⟨UM, hUM⟩ : ∃ UM, (U.map fun l => (0 : Int) :: l) = UM := ⟨_, rfl⟩
      rw [hUM] at hvs hUm
      have HUM := Lib.hid hUM
      clear hUM
      go_wp2_with (first
        | (go_at_call 106; refine (HTR.out _ hcA).mono ?_; rintro e w2 ⟨to, tc, rfl, hown2, hb2⟩)
        | (go_at_call 153; refine (HV.out to tc _ (owns_cells hown2)).mono ?_; rintro e w3 ⟨vo, vc, rfl, hrow3, hb3⟩))
      obtain ⟨ys, hys⟩ := hrow3
      have hys := hys.base (base' := wA.heap.size) hb2.size
      have hvs3 := (hvs.below hb2).below hb3
      have hB3 := below_step hB hB.size (below_step hb2 hb2.size hb3)
      have hs3 := Nat.le_trans hb2.size hb3.size
      have HYS := Lib.hid hys
      clear hus hvs hB hb2 hb3 hcA hown2
      go_loopw [3, 7] (fun vo vi wr => ∃ (i : Nat) (ro : Option Addr) (rc : Nat), i ≤ V.length ∧ vi = .int .i64 i ∧ vo = .slice ro (UM ++ ((V.take i).map fun l => 1 :: l)).length rc ∧ RowsOwn wr w.heap.size ro rc (UM ++ ((V.take i).map fun l => 1 :: l)) ∧
        w3.grownBy wr (some b0) ∧ (∀ a, ro = some a → a.block = b0 ∨ w3.heap.size ≤ a.block) ∧ Below w.heap.size w wr) (fun _ vi _ => V.length - (intOf vi).toNat)
      case atStart => exact ⟨0, ro, rc, Nat.zero_le _, rfl, by rw [← HUM.out]; simp, by rw [List.take_zero, List.map_nil, List.append_nil]; exact ⟨_, hvs3⟩, ⟨rfl, rfl, rfl, Nat.le_refl _, fun _ _ _ => rfl⟩, fun a ha => .inl (hro0 a ha), hB3⟩
      case round =>
        obtain ⟨i, ro, rc, hi, rfl, rfl, hrow, hgr, hro, hB⟩ := hrel
        by_cases hlt : i < V.length
        · have hlt' : decide ((i : Int) < (V.length : Int)) = true := by rw [decide_eq_true_eq]; omega
          have h3 := HV3.out _ (getD_mem [] hlt)
          obtain ⟨bb, off, g, c, rfl, hcu, hcl, hbb1, hg1, hbb2, hg2⟩ := hys.row hlt (by rw [h3]; omega)
          have hcu' := hgr.cell hcu (by simp; omega)
          have hcl' := hcl.grown hgr (fun a ha => by cases ha; simp; omega)
          rw [h3] at hcu'
          have HTM := Lib.hid (take_map_snoc (f := fun l => 1 :: l) hlt)
          obtain ⟨l, hl⟩ : ∃ l, V.getD i [] = l := ⟨_, rfl⟩
          rw [hl] at HTM hcl' h3
          clear hcl hcu hl
          have hcuA := cell_below hcu' (below_alloc wr (.cells #[.int .i64 1] 3))
          clear hcu'
          obtain ⟨vs, hvs⟩ := hrow
          have hBl : (UM ++ ((V.take i).map fun l => 1 :: l)).length ≤ 80 := by simp; omega
          generalize hBQ : UM ++ ((V.take i).map fun l => 1 :: l) = BQ at *
          have HBQ := Lib.hid hBQ; clear hBQ
          have h63 : BQ.length + 1 ≤ maxLen := by unfold maxLen; omega
          have h64 : (BQ.length + 1) * 24 ≤ 140737488355328 := by omega
          have hwr := hB.size
          have hlv : (l.map (Value.int .i64)).length = 3 * 1 := by rw [List.length_map, h3]
          have hone : ∀ v ∈ l.map (Value.int .i64), v.oneCell' = true := fun v hv => by rw [List.mem_map] at hv; obtain ⟨z, _, rfl⟩ := hv; rfl
          have hclA := hcl'.below (below_alloc wr (.cells #[.int .i64 1] 3))
          have hcells : ∀ j v, (l.map (Value.int .i64))[j]? = some v → (wr.alloc (.cells #[.int .i64 1] 3)).cell? ⟨g, 0 + j, none⟩ = some v := fun j v hj => by
            obtain ⟨b', o', he, hc'⟩ := hclA j v hj
            simp only [Option.some.injEq, Addr.mk.injEq, and_true] at he
            obtain ⟨rfl, rfl⟩ := he
            exact hc'
          have HCELLS := Lib.hid hcells
          clear hcells hclA
          go_wp2_with (first
            | (at_builtin; (refine wpList_pushK _ rfl _ _ 32 rfl wr.heap.size 3 im (.int .i64 0) 1 8 Try.underlying32 hmi hmz hm1 hm2 rfl (by decide) (some ⟨wr.heap.size, 0, none⟩) 1 1 _ rfl (owns_lit wr wr.heap.size 3 [.int .i64 1] (Nat.le_refl _) (by simp [maxLen])) (l.map (Value.int .i64)) 3 g 0 c rfl (by decide) hlv HCELLS.out hone (by simp [maxLen]) (by omega) (by simp) ?_); intro lo lc w7 hown7 hg7 hnew7; have hbB3 := below_of_grownBy' (below_alloc wr (.cells #[.int .i64 1] 3)) hg7 (fun a ha => by cases ha; exact Nat.le_refl _); have hs7 := hbB3.size)
            | (at_builtin; refine wpList_push _ rfl _ _ 50 rfl w.heap.size 32 ir (.slice none 0 0) 24 Try.underlying50 hri hrz hr1 hr2 rfl ro BQ.length rc vs rfl (ownsRow_below (ownsRow_below hvs.1 hbB3) (below_alloc _ _)) _ _ _ rfl (cell_new _ _ _) rfl h63 h64 (by simp; omega) ?_; intro ro2 rc2 w8 hown4 hg4 hnew4))
          have hlt2 := owns_lt hvs.1
          have hlo : ∀ a, lo = some a → wr.heap.size ≤ a.block := fun a ha => by
            rcases hnew7 a ha with h' | h'
            · cases h'; exact Nat.le_refl _
            · simp at h'; omega
          have hl4 : (1 :: l).length = 1 + 3 := by rw [List.length_cons, h3]
          have hvs2 := hvs.push (l := 1 :: l) (c := lc) (hbB3.trans ((below_alloc _ _).mono hs7)) (ownsRow_below (by rw [hl4]; exact ownsRow_base hown7 hwr) (below_alloc w7 _)) hlo (by rw [hl4]; exact hown4) hg4 hnew4
          have hg5 : w3.grownBy w8 (some b0) := grownBy_step hgr (grownBy_trans (grownBy_of_below (hbB3.trans ((below_alloc _ _).mono hs7)) _) hg4) (fun k hk => by
            obtain ⟨a, ha, rfl⟩ := ownBlock_is hk
            exact hro a ha)
          have hb5 := below_of_grownBy' (hB.trans ((hbB3.trans ((below_alloc _ _).mono hs7)).mono hwr)) hg4 (fun a ha => (hlt2 a ha).1)
          go_roundw
          case rel => exact ⟨i + 1, ro2, rc2, by omega, by go_num, by rw [HTM.out, ← List.append_assoc, HBQ.out, List.length_append]; rfl, by rw [HTM.out, ← List.append_assoc, HBQ.out]; exact ⟨_, hvs2⟩, hg5, (fun a ha => by
            rcases hnew4 a ha with h' | h'
            · exact hro a h'
            · right; have := hgr.size; simp at h'; omega), hb5⟩
          case measure => simp [intOf]; omega
        · obtain rfl : i = V.length := by omega
          have hlt' : decide ((V.length : Int) < (V.length : Int)) = false := by rw [decide_eq_false_iff_not]; omega
          rw [List.take_length] at hrow
          rw [← HUM.out] at hrow
          go_wp2
          go_ret
          exact ⟨ro, rc, by rw [HUM.out, List.take_length]; rfl, hrow, hB⟩

end Go.Proofs.Ytdhnklaflbaeeaa
