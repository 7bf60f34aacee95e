
/-
  The model's tables: rows of rows that are read and written. (Walks.)
-/
import Derived.Test.YtfemfmkgdgcemaaNests
import Derived.Test.YtfemfmkgdgcemaaShN
import Derived.Test.YtfemfmkgdgcemaaShB
namespace Go.Proofs.Ytfemfmkgdgcemaa
open Go.RowKit

theorem sh_own_set {w : World} {base g n cap : Nat} {xs : List Value} (h : w.ownsRow base 3 1 (.slice (some ⟨g, 0, none⟩) n cap) n xs) (j : Nat) (u : Value) : (w.setCell ⟨g, j, none⟩ u).ownsRow base 3 1 (.slice (some ⟨g, 0, none⟩) n cap) n (xs.set j u) := by
  refine ⟨by rw [List.length_set]; exact h.1, ?_⟩
  rcases h.2 with ⟨hv, _⟩ | ⟨g0, cap0, cur, hv, hbg, hgg, hnc, hcm, hcs, ht⟩
  · cases hv
  · simp only [Value.slice.injEq, Option.some.injEq, Addr.mk.injEq, and_true] at hv
    obtain ⟨rfl, _, rfl⟩ := hv
    refine .inr ⟨g, cap, cur.setIfInBounds j u, rfl, hbg, heap_setCell_same w g j cur 3 u hgg, hnc, hcm, by rw [Array.size_setIfInBounds]; exact hcs, ?_⟩
    rw [Array.toList_setIfInBounds, List.take_set, ht]
/-- one number of one row is written -/
theorem RowsAt.putOne {w : World} {base : Nat} {ro : Option Addr} {rc : Nat} {L : List (List Int)} {us : List Value} (h : RowsAt w base ro rc L us) {i g c : Nat} {l : List Int} (hi : L[i]? = some l) (hu : us[i]? = some (.slice (some ⟨g, 0, none⟩) l.length c)) (j : Nat) (v : Int) :
    RowsAt (w.setCell ⟨g, j, none⟩ (.int .i64 v)) base ro rc (L.set i (l.set j v)) us := by
  have hil : i < L.length := (List.getElem?_eq_some_iff.1 hi).1
  have key : ∀ (k : Nat) (l' : List Int), L[k]? = some l' → ∃ (bo : Option Addr) (c : Nat), us[k]? = some (.slice bo l'.length c) ∧ w.ownsRow base 3 1 (.slice bo l'.length c) l'.length (l'.map (Value.int .i64)) ∧ Apart ro bo := h.2.1
  obtain ⟨bo, c1, e1, e2, e3⟩ := key i l hi
  rw [hu] at e1
  simp only [Option.some.injEq, Value.slice.injEq, true_and] at e1
  obtain ⟨rfl, rfl⟩ := e1
  refine ⟨?_, fun k l' hk => ?_, h.2.2⟩
  · rw [List.length_set]
    refine ownsRow_setCell_other h.1 ?_ _
    cases ro with
    | none => simp [Value.ownBlock]
    | some a => simp only [Value.ownBlock, ne_eq, Option.some.injEq]; exact e3 a _ rfl rfl
  · by_cases hik : i = k
    · subst hik
      rw [List.getElem?_set_self hil] at hk
      simp only [Option.some.injEq] at hk
      subst hk
      refine ⟨_, c, by rw [List.length_set]; exact hu, ?_, e3⟩
      rw [List.length_set, List.map_set]
      exact sh_own_set e2 j _
    · rw [List.getElem?_set_ne hik] at hk
      obtain ⟨bo, c1, f1, f2, f3⟩ := key k l' hk
      refine ⟨bo, c1, f1, ownsRow_setCell_other f2 ?_ _, f3⟩
      have := h.2.2 i k _ _ _ _ _ _ hik hu f1
      cases bo with
      | none => simp [Value.ownBlock]
      | some a => simp only [Value.ownBlock, ne_eq, Option.some.injEq]; exact fun e => this _ a rfl rfl e.symm
/-- a number of a row, to be read -/
theorem RowsAt.num {w : World} {base : Nat} {ro : Option Addr} {rc : Nat} {f : Nat → Nat → Int} {n : Nat} {us : List Value} (h : RowsAt w base ro rc (rowsR f n) us) {i j : Nat} (hi : i < n) (hj : j < 13) :
    ∃ bb off g c, ro = some ⟨bb, off, none⟩ ∧ w.cell? ⟨bb, off + i, none⟩ = some (.slice (some ⟨g, 0, none⟩) 13 c) ∧ w.cell? ⟨g, j, none⟩ = some (.int .i64 (f i j)) ∧ us[i]? = some (.slice (some ⟨g, 0, none⟩) 13 c) ∧ w.frozen? ⟨g, j, none⟩ = false := by
  have hL : (rowsR f n)[i]? = some (numsR f i 13) := by simp [rowsR, hi]
  obtain ⟨bo, c, e1, e2, _⟩ := h.2.1 i _ hL
  rw [numsR_len] at e1 e2
  obtain ⟨g, cap, hv, _, _⟩ := ownsRow_some e2 (by omega)
  simp only [Value.slice.injEq, true_and] at hv
  obtain ⟨rfl, rfl⟩ := hv
  obtain ⟨bb, off, hb, hc⟩ := owns_cells h.1 i _ e1
  refine ⟨bb, off, g, c, hb, hc, ?_, e1, ?_⟩
  · obtain ⟨b2, o2, hb2, hc2⟩ := (owns_cells e2).int j (by rw [numsR_len]; exact hj)
    simp only [Option.some.injEq, Addr.mk.injEq, and_true] at hb2
    obtain ⟨rfl, rfl⟩ := hb2
    rw [Nat.zero_add] at hc2
    rw [hc2, numsR_at f i 13 hj]
  · rcases e2.2 with ⟨hv, _⟩ | ⟨g0, cap0, cur, hv, _, hgg, _⟩
    · cases hv
    · simp only [Value.slice.injEq, Option.some.injEq, Addr.mk.injEq, and_true] at hv
      obtain ⟨rfl, _⟩ := hv
      exact frozen_of_row w g j cur 3 hgg
theorem RowsAt.put_num {w : World} {base : Nat} {ro : Option Addr} {rc : Nat} {f : Nat → Nat → Int} {us : List Value} (h : RowsAt w base ro rc (rowsR f 13) us) {i j g c : Nat} (hi : i < 13) (hu : us[i]? = some (.slice (some ⟨g, 0, none⟩) 13 c)) (v : Int) :
    RowsAt (w.setCell ⟨g, j, none⟩ (.int .i64 v)) base ro rc (rowsR (fun a b => if a = i ∧ b = j then v else f a b) 13) us := by
  have hL : (rowsR f 13)[i]? = some (numsR f i 13) := by simp [rowsR, hi]
  have := h.putOne hL (by rw [numsR_len]; exact hu) j v
  rwa [rowsR_set f hi] at this
/-- a number of the row in the making -/
theorem sh_row_num {w : World} {base : Nat} {bo : Option Addr} {bc : Nat} {f : Nat → Nat → Int} {k j : Nat} (h : w.ownsRow base 3 1 (.slice bo j bc) j ((numsR f k j).map (Value.int .i64))) {i : Nat} (hi : i < j) :
    ∃ b off, bo = some ⟨b, off, none⟩ ∧ w.cell? ⟨b, off + i, none⟩ = some (.int .i64 (f k i)) := by
  obtain ⟨b, off, hb, hc⟩ := (owns_cells h).int i (by rw [numsR_len]; exact hi)
  exact ⟨b, off, hb, by rw [hc, numsR_at f k j hi]⟩

theorem RowsAt.push_nums {w W2 w' : World} {base : Nat} {ao ao' : Option Addr} {cap cap' : Nat} {f : Nat → Nat → Int} {k : Nat} {us : List Value} (h : RowsAt w base ao cap (rowsR f k) us) {go : Option Addr} {c : Nat}
    (hb : Below w.heap.size w W2) (hl : W2.ownsRow base 3 1 (.slice go 13 c) 13 ((numsR f k 13).map (Value.int .i64))) (hg0 : ∀ a, go = some a → w.heap.size ≤ a.block)
    (hown : w'.ownsRow base 31 1 (.slice ao' (k + 1) cap') (k + 1) (us ++ [.slice go 13 c])) (hg : W2.grownBy w' (Value.ownBlock (.slice ao k cap))) (hnew : NewOr W2 ao ao') :
    RowsAt w' base ao' cap' (rowsR f (k + 1)) (us ++ [.slice go 13 c]) := by
  have := h.push (l := numsR f k 13) hb (by rw [numsR_len]; exact hl) hg0 (by rw [rowsR_len, numsR_len]; exact hown) (by rw [rowsR_len]; exact hg) hnew
  rw [numsR_len, ← rowsR_succ] at this
  exact this
theorem nums_zero (k : Nat) : (numsR (fun _ _ => 0) k 13).map (Value.int .i64) = List.replicate 13 (.int .i64 0) := by
  unfold numsR; rfl

set_option maxRecDepth 100000 in
set_option maxHeartbeats 4000000 in
theorem l9Worth_any (w : World) :
    Calls Try.prog 45 #[] w fun e w' => ∃ ro rc, e = .returned (.slice ro 13 rc) ∧ RowsOwn w' w.heap.size ro rc (rowsR (fun _ _ => 0) 13) ∧ Below w.heap.size w w' := by
  obtain ⟨ir, hri, hrz, hr1, hr2⟩ := info_parts Try.infoRow
  obtain ⟨im, hmi, hmz, hm1, hm2⟩ := info_parts Try.infoNum
  go_enter Try.func45, Try.ntmps45
  go_wp2
  have hW1 := below_alloc w (.cells #[] 31)
  have hR1 := rowsOwn_made w
  go_loopw [1, 2] (fun vo vk wr => ∃ (k : Nat) (ro : Option Addr) (rc : Nat), k ≤ 13 ∧ vk = .int .i64 (k : Int) ∧ vo = .slice ro k rc ∧ RowsOwn wr w.heap.size ro rc (rowsR (fun _ _ => 0) k) ∧ Below w.heap.size w wr) (fun _ k _ => 13 - (intOf k).toNat)
  case atStart => exact ⟨0, _, _, by omega, rfl, rfl, hR1, hW1⟩
  case round =>
    clear hR1 hW1
    obtain ⟨k, ro, rc, hk, rfl, rfl, hrow, hb⟩ := hrel
    by_cases hlt : k < 13
    · have hkm : decide ((k : Int) ≤ 12) = true := decide_eq_true (by omega)
      obtain ⟨us, hus⟩ := hrow
      have hus1 := hus.1
      rw [rowsR_len] at hus1
      have hbs := hb.size
      go_wp2_with (first
        | (at_make; refine wpList_make_full _ rfl _ _ 31 rfl wr.heap.size 3 im (.int .i64 0) 1 Try.underlying31 hmi hmz hm1 .i64 .i64 _ _ 13 rfl rfl rfl rfl (by rw [hm2]; omega) (by unfold maxLen; omega) (by omega) ?_; intro w3 ho3 hg3)
        | (at_builtin; refine wpList_push _ rfl _ _ 49 rfl w.heap.size 31 ir (.slice none 0 0) 24 Try.underlying49 hri hrz hr1 hr2 rfl ro k rc us rfl (ownsRow_below (ownsRow_below hus1 (below_of_grownBy hg3 (Nat.le_refl _) (fun k hk => by cases hk))) (below_alloc _ _)) _ _ _ rfl (cell_new _ _ _) rfl (by unfold maxLen; omega) (by omega) (by have := hg3.size; simp; omega) ?_; intro ro2 rc2 w4 hown4 hg4 hnew4))
      have hb3 : Below wr.heap.size wr w3 := below_of_grownBy hg3 (Nat.le_refl _) (fun k hk => by cases hk)
      have hb4 := hb3.alloc hb3.size (.cells #[.slice (some ⟨wr.heap.size, 0, none⟩) 13 13] 31)
      have hus4 := hus.push_nums hb4 (by rw [nums_zero]; exact ownsRow_base (ownsRow_below (owns_eq ho3 (by kernel_rfl)) (below_alloc _ _)) hbs) (fun a ha => by cases ha; exact Nat.le_refl _) hown4 hg4 hnew4
      have hbb : Below w.heap.size w w4 := below_push (below_step hb hbs hb3) (Nat.le_trans hbs hb3.size) hg4 (fun b hb' => (owns_lt hus1 b hb').1)
      clear hown4 hg4 hnew4 hb3 hb4 hg3 ho3
      go_roundw
      case rel => exact ⟨k + 1, _, _, by omega, by go_num, rfl, ⟨_, hus4⟩, hbb⟩
      case measure => simp [intOf]; omega
    · have hkm : decide ((k : Int) ≤ 12) = false := by rw [decide_eq_false_iff_not]; omega
      obtain rfl : k = 13 := by omega
      go_wp2
      go_ret
      exact ⟨ro, rc, rfl, hrow, hb⟩

set_option maxRecDepth 100000 in
set_option maxHeartbeats 8000000 in
theorem l9Table_any (u : Nat → Nat → Int) (hbd : ∀ a b, a ≤ 12 → b ≤ 12 → -400000 ≤ hlf u a b ∧ hlf u a b ≤ 400000) (mo : Option Addr) (mc B0 : Nat) (w : World) (hM : RowsOwn w B0 mo mc (rowsR u 13)) :
    Calls Try.prog 40 #[.slice mo 13 mc] w fun e w' => ∃ ro rc, e = .returned (.slice ro 13 rc) ∧ RowsOwn w' w.heap.size ro rc (rowsR (hlf u) 13) ∧ Below w.heap.size w w' := by
  obtain ⟨ir, hri, hrz, hr1, hr2⟩ := info_parts Try.infoRow
  obtain ⟨im, hmi, hmz, hm1, hm2⟩ := info_parts Try.infoNum
  obtain ⟨mus, hM⟩ := hM
  have HM := Lib.hid (fun (i j : Nat) (hi : i < 13) (hj : j < 13) => hM.num hi hj)
  clear hM
  have HBD := Lib.hid hbd
  clear hbd
  have HALL := Lib.hid (fun w h => bestH_all u w h)
  have HWS := Lib.hid (fun w h n => bestW_succ u (hlf u) w h n)
  have HHS := Lib.hid (fun w h n => bestH_succ u (hlf u) w h n)
  generalize hlf u = f at *
  go_enter Try.func40, Try.ntmps40
  go_wp2
  have hW1 := below_alloc w (.cells #[] 31)
  have hR1 := rowsOwn_made w
  go_loopw [3, 4] (fun vo vk wr => ∃ (k : Nat) (ro : Option Addr) (rc : Nat), k ≤ 13 ∧ vk = .int .i64 (k : Int) ∧ vo = .slice ro k rc ∧ RowsOwn wr w.heap.size ro rc (rowsR f k) ∧ Below w.heap.size w wr) (fun _ k _ => 13 - (intOf k).toNat)
  case atStart => exact ⟨0, _, _, by omega, rfl, rfl, hR1, hW1⟩
  case round =>
    clear hR1 hW1
    obtain ⟨k, ro, rc, hk, rfl, rfl, hrow, hb⟩ := hrel
    by_cases hlt : k < 13
    · have hkm : decide ((k : Int) ≤ 12) = true := decide_eq_true (by omega)
      obtain ⟨us, hus⟩ := hrow
      have hbs := hb.size
      go_wp2
      rename World => wo
      have hX0 := below_alloc wo (.cells #[] 3)
      have hX1 : (wo.alloc (.cells #[] 3)).ownsRow wo.heap.size 3 1 (.slice (some ⟨wo.heap.size, 0, none⟩) 0 0) 0 ((numsR f k 0).map (Value.int .i64)) := World.ownsRow_made wo #[] 0 (Nat.le_refl _) (Nat.zero_le _) rfl
      go_loopw [5, 6] (fun vr vj wj => ∃ (j : Nat) (bo : Option Addr) (bc : Nat), j ≤ 13 ∧ vj = .int .i64 (j : Int) ∧ vr = .slice bo j bc ∧ wj.ownsRow wo.heap.size 3 1 (.slice bo j bc) j ((numsR f k j).map (Value.int .i64)) ∧ Below wo.heap.size wo wj) (fun _ j _ => 13 - (intOf j).toNat)
      case atStart => exact ⟨0, _, _, by omega, rfl, rfl, hX1, hX0⟩
      case round =>
        clear hX0 hX1
        obtain ⟨j, bo, bc, hj, rfl, rfl, hrow, hbj⟩ := hrel
        by_cases hjl : j < 13
        · have hjm : decide ((j : Int) ≤ 12) = true := decide_eq_true (by omega)
          obtain ⟨mb, moff, mg, mcc, hmo, hm0, hm3, _, _⟩ := HM.out k j hlt hjl
          subst hmo
          have hbwj := below_step hb hbs hbj
          have hm0' := cell_below hm0 hbwj
          have hm3' := cell_below hm3 hbwj
          obtain ⟨b0, hb0⟩ : ∃ v, u k j = v := ⟨_, rfl⟩
          rw [hb0] at hm3'
          have HB0 := Lib.hid hb0
          clear hb0 hm0 hm3
          go_wp2
          rename World => wi
          have hbs2 := hbj.size
          go_loopw [7, 8] (fun vb vc wr => ∃ (c : Nat), 1 ≤ c ∧ 2 * (c - 1) ≤ k ∧ vc = .int .i64 (c : Int) ∧ vb = .int .i64 (bestW u f k j (c - 1)) ∧ Below wi.heap.size wi wr) (fun _ c _ => 13 - (intOf c).toNat)
          case atStart => exact ⟨1, Nat.le_refl _, by omega, rfl, by rw [← HB0.out]; rfl, Below.refl _ _⟩
          case round =>
            obtain ⟨c, hc1, hc2, rfl, rfl, hbc⟩ := hrel
            by_cases hcl : 2 * c ≤ k
            · have hcm : decide (2 * (c : Int) ≤ (k : Int)) = true := decide_eq_true (by omega)
              obtain ⟨d, hd⟩ : ∃ d, k = c + d := ⟨k - c, by omega⟩
              have hd2 : (k : Int) - (c : Int) = (d : Int) := by omega
              have hbc2 := below_step hbj hbs2 hbc
              have husw := hus.below hbc2
              obtain ⟨bb, off, g1, c1, e1, r1, s1, _, _⟩ := husw.num (i := c) (j := j) (by omega) hjl
              obtain ⟨bb2, off2, g2, c2, e2, r2, s2, _, _⟩ := husw.num (i := d) (j := j) (by omega) hjl
              rw [e1] at e2
              simp only [Option.some.injEq, Addr.mk.injEq, and_true] at e2
              obtain ⟨rfl, rfl⟩ := e2
              have HST := Lib.hid (HWS.out k j (c - 1))
              rw [show c - 1 + 1 = c by omega, show k - c = d by omega] at HST
              obtain ⟨l1, l2⟩ := HBD.out c j (by omega) (by omega)
              obtain ⟨l3, l4⟩ := HBD.out d j (by omega) (by omega)
              obtain ⟨p, hp⟩ : ∃ v, f c j = v := ⟨_, rfl⟩
              obtain ⟨q, hq⟩ : ∃ v, f d j = v := ⟨_, rfl⟩
              obtain ⟨bw, hbw⟩ : ∃ v, bestW u f k j (c - 1) = v := ⟨_, rfl⟩
              rw [hp] at s1 HST l1 l2
              rw [hq] at s2 HST l3 l4
              rw [hbw] at HST ⊢
              subst e1
              have HD := Lib.hid hd
              clear hp hq hbw husw hus hrow hd
              have HFIN := Lib.hid (fun (o : Int) (h : o = opG bw (p + q)) => h.trans HST.out.symm)
              clear HST
              have hck : c < k := by omega
              have hdk : d < k := by omega
              go_wp2
              go_quiet (fail)
              go_wp2
              go_roundw
              case rel => exact ⟨c + 1, by omega, by omega, by go_num, by rw [show c + 1 - 1 = c by omega]; exact congrArg (Value.int .i64) (HFIN.out _ rfl), hbc.trans (below_drewN _ _ _)⟩
              case measure => simp [intOf]; omega
            · have hcm : decide (2 * (c : Int) ≤ (k : Int)) = false := by rw [decide_eq_false_iff_not]; omega
              have HKC := Lib.hid (show c - 1 = k / 2 by omega)
              have hbwc := below_step hbj hbs2 hbc
              replace hrow := ownsRow_below hrow hbc
              clear hm0' hm3' HB0 hbc
              go_wp2
              rename World => wc
              have hbs3 := hbwc.size
              go_loopw [7, 9] (fun vb ve wr => ∃ (e : Nat), 1 ≤ e ∧ 2 * (e - 1) ≤ j ∧ ve = .int .i64 (e : Int) ∧ vb = .int .i64 (bestH u f k j (e - 1)) ∧ Below wc.heap.size wc wr) (fun _ e _ => 13 - (intOf e).toNat)
              case atStart => exact ⟨1, Nat.le_refl _, by omega, rfl, by rw [HKC.out]; rfl, Below.refl _ _⟩
              case round =>
                obtain ⟨e, he1, he2, rfl, rfl, hbe⟩ := hrel
                replace hrow := ownsRow_below hrow hbe
                have hbwe := below_step hbwc hbs3 hbe
                by_cases hel : 2 * e ≤ j
                · have hem : decide (2 * (e : Int) ≤ (j : Int)) = true := decide_eq_true (by omega)
                  obtain ⟨d, hd⟩ : ∃ d, j = e + d := ⟨j - e, by omega⟩
                  have hd2 : (j : Int) - (e : Int) = (d : Int) := by omega
                  obtain ⟨bb, off, e1, s1⟩ := sh_row_num hrow (i := e) (by omega)
                  obtain ⟨bb2, off2, e2, s2⟩ := sh_row_num hrow (i := d) (by omega)
                  rw [e1] at e2
                  simp only [Option.some.injEq, Addr.mk.injEq, and_true] at e2
                  obtain ⟨rfl, rfl⟩ := e2
                  have HST := Lib.hid (HHS.out k j (e - 1))
                  rw [show e - 1 + 1 = e by omega, show j - e = d by omega] at HST
                  obtain ⟨l1, l2⟩ := HBD.out k e (by omega) (by omega)
                  obtain ⟨l3, l4⟩ := HBD.out k d (by omega) (by omega)
                  obtain ⟨p, hp⟩ : ∃ v, f k e = v := ⟨_, rfl⟩
                  obtain ⟨q, hq⟩ : ∃ v, f k d = v := ⟨_, rfl⟩
                  obtain ⟨bw, hbw⟩ : ∃ v, bestH u f k j (e - 1) = v := ⟨_, rfl⟩
                  rw [hp] at s1 HST l1 l2
                  rw [hq] at s2 HST l3 l4
                  rw [hbw] at HST ⊢
                  subst e1
                  have hej : e < j := by omega
                  have hdj : d < j := by omega
                  have HD := Lib.hid hd
                  clear hp hq hbw hrow hd
                  have HFIN := Lib.hid (fun (o : Int) (h : o = opG bw (p + q)) => h.trans HST.out.symm)
                  clear HST
                  go_wp2
                  go_quiet (fail)
                  go_wp2
                  go_roundw
                  case rel => exact ⟨e + 1, by omega, by omega, by go_num, by rw [show e + 1 - 1 = e by omega]; exact congrArg (Value.int .i64) (HFIN.out _ rfl), hbe.trans (below_drewN _ _ _)⟩
                  case measure => simp [intOf]; omega
                · have hem : decide (2 * (e : Int) ≤ (j : Int)) = false := by rw [decide_eq_false_iff_not]; omega
                  have hfin : bestH u f k j (e - 1) = f k j := by rw [show e - 1 = j / 2 by omega]; exact HALL.out k j
                  rw [hfin]
                  clear hfin
                  obtain ⟨v, hv⟩ : ∃ v, f k j = v := ⟨_, rfl⟩
                  rw [hv]
                  have HV := Lib.hid (show (numsR f k (j + 1)).map (Value.int .i64) = (numsR f k j).map (Value.int .i64) ++ [.int .i64 v] by rw [numsR_succ, List.map_append, hv]; rfl)
                  clear hv
                  have hbs4 := hbwe.size
                  go_wp2_with (at_builtin; refine wpList_push _ rfl _ _ 31 rfl wo.heap.size 3 im (.int .i64 0) 8 Try.underlying31 hmi hmz hm1 hm2 rfl bo j bc _ rfl (ownsRow_below hrow (below_alloc _ _)) _ _ _ rfl (cell_new _ _ _) rfl (by unfold maxLen; omega) (by omega) (by simp; omega) ?_; intro bo2 bc2 w5 hown5 hg5 hnew5)
                  have hbn : Below wo.heap.size wo w5 := below_push hbwe hbs4 hg5 (fun b hb' => (owns_lt hrow b hb').1)
                  clear hg5 hnew5 hrow
                  go_roundw
                  case rel => exact ⟨j + 1, bo2, bc2, by omega, by go_num, rfl, by rw [HV.out]; exact hown5, hbn⟩
                  case measure => simp [intOf]; omega
        · have hjm : decide ((j : Int) ≤ 12) = false := by rw [decide_eq_false_iff_not]; omega
          obtain rfl : j = 13 := by omega
          have hus1 := hus.1
          rw [rowsR_len] at hus1
          replace hus1 := ownsRow_below hus1 hbj
          have hbs2 := hbj.size
          go_wp2_with (at_builtin; refine wpList_push _ rfl _ _ 49 rfl w.heap.size 31 ir (.slice none 0 0) 24 Try.underlying49 hri hrz hr1 hr2 rfl ro k rc us rfl (ownsRow_below hus1 (below_alloc _ _)) _ _ _ rfl (cell_new _ _ _) rfl (by unfold maxLen; omega) (by omega) (by simp; omega) ?_; intro ro2 rc2 w6 hown6 hg6 hnew6)
          have hus4 := hus.push_nums (hbj.alloc hbs2 _) (ownsRow_base (ownsRow_below hrow (below_alloc _ _)) hbs) (fun a ha => (owns_lt hrow a ha).1) hown6 hg6 hnew6
          have hbb : Below w.heap.size w w6 := below_push (below_step hb hbs hbj) (Nat.le_trans hbs hbs2) hg6 (fun b hb' => (owns_lt hus1 b hb').1)
          clear hown6 hg6 hnew6 hus1 hus hrow
          go_roundw
          case rel => exact ⟨k + 1, _, _, by omega, by go_num, rfl, ⟨_, hus4⟩, hbb⟩
          case measure => simp [intOf]; omega
    · have hkm : decide ((k : Int) ≤ 12) = false := by rw [decide_eq_false_iff_not]; omega
      obtain rfl : k = 13 := by omega
      go_wp2
      go_ret
      exact ⟨ro, rc, rfl, hrow, hb⟩

end Go.Proofs.Ytfemfmkgdgcemaa
