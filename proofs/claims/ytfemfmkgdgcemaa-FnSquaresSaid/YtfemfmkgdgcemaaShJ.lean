
/-
  The least numbers of squares: both sides. (Walks.)
-/
import Derived.Test.YtfemfmkgdgcemaaShI
import Derived.Test.YtfemfmkgdgcemaaShG
namespace Go.Proofs.Ytfemfmkgdgcemaa
open Go.RowKit

theorem squaN_bd (x y : Nat) (hx : x ≤ 12) (hy : y ≤ 12) (hx1 : 1 ≤ x) (hy1 : 1 ≤ y) : 1 ≤ squaN x y ∧ squaN x y ≤ 144 := by
  refine ⟨(squaN_one hx1 hy1 hx hy).1, ?_⟩
  rw [squaN_eq hx1 hy1 hx hy]
  have h1 := squa_area (tabG_least worthT).sup (x + y) x y (Nat.le_refl _) hx1 hy1
  have h2 : x * y ≤ 12 * 12 := Nat.mul_le_mul hx hy
  omega
theorem squa_bd (x y : Nat) (hx : x ≤ 12) (hy : y ≤ 12) (hx1 : 1 ≤ x) (hy1 : 1 ≤ y) : -400000 ≤ tabC opC worthS x y ∧ tabC opC worthS x y ≤ 400000 := by
  have := squaN_bd x y hx hy hx1 hy1
  unfold squaN at this
  omega
theorem worthT_bd (x y : Nat) (hx : x ≤ 12) (hy : y ≤ 12) : -400000 ≤ hlf worthT x y ∧ hlf worthT x y ≤ 400000 := by
  refine hlf_bd (fun w h => ?_) (fun h => ?_) (fun w => ?_) (fun w h h1 h2 h3 h4 => ?_) x y hx hy
  · unfold worthT; split <;> omega
  · unfold worthT; split <;> omega
  · unfold worthT; split <;> omega
  · have := squaN_bd w h h2 h4 h1 h3
    rw [squaN_eq h1 h3 h2 h4] at this
    omega
def squaO (w h : Int) : Int := if shB w h then squaN w.toNat h.toNat else 0

set_option maxRecDepth 100000 in
set_option maxHeartbeats 2000000 in
theorem shSquares_any (w h : Nat) (hw1 : 1 ≤ w) (hw : w ≤ 12) (hh1 : 1 ≤ h) (hh : h ≤ 12) (W : World) :
    Calls Try.prog 39 #[.agg #[.int .i64 (w : Int), .int .i64 (h : Int)]] W fun e W' => e = .returned (.int .i64 (squaN w h)) ∧ Below W.heap.size W W' := by
  have HB := Lib.hid (fun (W : World) => bestSquares_any worthS w h hw1 hw hh1 hh W squa_bd (fun x y W' _ hx _ hy _ => squares1_any x y hx hy W'))
  change Hid (∀ (W : World), Calls Try.prog _ _ W fun e W' => e = .returned (.int .i64 (squaN w h)) ∧ Below W.heap.size W W') at HB
  have hb0 := below_alloc W (.cells #[.int .i64 (w : Int), .int .i64 (h : Int)] 36)
  generalize squaN w h = v at *
  go_enter Try.func39, Try.ntmps39
  go_wp2_with (go_at_call 49; refine (HB.out _).mono ?_; rintro e w1 ⟨rfl, hb1⟩; clear HB)
  go_ret
  exact ⟨rfl, below_step hb0 hb0.size hb1⟩

set_option maxRecDepth 100000 in
set_option maxHeartbeats 2000000 in
theorem implSheetSquares_any (w h : Int) (W : World) :
    Calls Try.prog 20 #[.int .i64 w, .int .i64 h] W fun e W' => e = .returned (.tuple #[.int .i64 (squaO w h), .bool (shB w h)]) ∧ Below W.heap.size W W' := by
  unfold squaO
  cases h1 : shB w h
  · have H1 := Lib.hid (fun W => shRead_no h1 W)
    clear h1
    simp only [Bool.false_eq_true, if_false]
    go_enter Try.func20, Try.ntmps20
    go_wp2_with (go_at_call 38; refine (H1.out _).mono ?_; rintro e w1 ⟨rfl, hb1⟩; clear H1)
    go_ret2
    exact ⟨rfl, hb1.alloc hb1.size _⟩
  · have H1 := Lib.hid (fun W => shRead_yes h1 W)
    obtain ⟨w, h, rfl, rfl, hw1, hw2, hh1, hh2⟩ := shB_yes h1
    have H2 := Lib.hid (fun W => shSquares_any w h hw1 hw2 hh1 hh2 W)
    clear h1
    simp only [if_true, Int.toNat_natCast]
    generalize squaN w h = g at *
    go_enter Try.func20, Try.ntmps20
    go_wp2_with (first
      | (go_at_call 38; refine (H1.out _).mono ?_; rintro e w1 ⟨rfl, hb1⟩; clear H1)
      | (go_at_call 39; refine (H2.out _).mono ?_; rintro e w2 ⟨rfl, hb2⟩; clear H2))
    go_ret2
    exact ⟨rfl, below_step (hb1.alloc hb1.size _) (Nat.le_trans hb1.size (by simp)) hb2⟩

set_option maxRecDepth 100000 in
set_option maxHeartbeats 8000000 in
theorem specSheetSquares_any (w h : Int) (W : World) :
    Calls Try.prog 21 #[.int .i64 w, .int .i64 h] W fun e W' => e = .returned (.tuple #[.int .i64 (squaO w h), .bool (shB w h)]) ∧ Below W.heap.size W W' := by
  have H1 := Lib.hid (l9Sheet_any w h)
  unfold squaO
  cases h1 : shB w h
  · rw [h1] at H1
    clear h1
    simp only [Bool.false_eq_true, if_false]
    go_enter Try.func21, Try.ntmps21
    go_wp2_with (go_at_call 31; refine (H1.out _).mono ?_; rintro e w1 ⟨rfl, rfl⟩; clear H1)
    go_ret2
    exact ⟨rfl, Below.refl _ _⟩
  · rw [h1] at H1
    obtain ⟨w, h, rfl, rfl, hw1, hw2, hh1, hh2⟩ := shB_yes h1
    clear h1
    simp only [if_true, Int.toNat_natCast]
    obtain ⟨ir, hri, hrz, hr1, hr2⟩ := info_parts Try.infoRow
    obtain ⟨im, hmi, hmz, hm1, hm2⟩ := info_parts Try.infoNum
    have HTB := Lib.hid (fun (mo : Option Addr) (mc B0 : Nat) (W : World) (hM : RowsOwn W B0 mo mc (rowsR worthT 13)) => l9Table_any worthT worthT_bd mo mc B0 W hM)
    have HV := Lib.hid (show squaN w h = -hlf worthT w h by rw [squaN_eq hw1 hh1 hw2 hh2, hlf_tab _ hw1 hh1])
    have HBV := Lib.hid (squaN_bd w h hw2 hh2 hw1 hh1)
    have HW := Lib.hid (fun x y => show worthT x y = if x = y then -1 else -100000 from rfl)
    generalize hlf worthT = f at *
    generalize worthT = u at *
    go_enter Try.func21, Try.ntmps21
    go_wp2_with (go_at_call 31; refine (H1.out _).mono ?_; rintro e w1 ⟨rfl, rfl⟩; clear H1)
    rename World => w0
    have hW1 := below_alloc w0 (.cells #[] 31)
    have hR1 := rowsOwn_made w0
    go_loopw [6, 7] (fun vo vk wr => ∃ (k : Nat) (ro : Option Addr) (rc : Nat), k ≤ 13 ∧ vk = .int .i64 (k : Int) ∧ vo = .slice ro k rc ∧ RowsOwn wr w0.heap.size ro rc (rowsR u k) ∧ Below w0.heap.size w0 wr) (fun _ k _ => 13 - (intOf k).toNat)
    case atStart => exact ⟨0, _, _, by omega, rfl, rfl, hR1, hW1⟩
    case round =>
      clear hR1 hW1
      obtain ⟨k, ro, rc, hk, rfl, rfl, hrow, hb⟩ := hrel
      by_cases hlt : k < 13
      · have hkm : decide ((k : Int) ≤ 12) = true := decide_eq_true (by omega)
        obtain ⟨us, hus⟩ := hrow
        have hbs := hb.size
        go_wp2
        rename World => wo
        have hX0 := below_alloc wo (.cells #[] 3)
        have hX1 : (wo.alloc (.cells #[] 3)).ownsRow wo.heap.size 3 1 (.slice (some ⟨wo.heap.size, 0, none⟩) 0 0) 0 ((numsR u k 0).map (Value.int .i64)) := World.ownsRow_made wo #[] 0 (Nat.le_refl _) (Nat.zero_le _) rfl
        go_loopw [8, 9] (fun vr vj wj => ∃ (j : Nat) (bo : Option Addr) (bc : Nat), j ≤ 13 ∧ vj = .int .i64 (j : Int) ∧ vr = .slice bo j bc ∧ wj.ownsRow wo.heap.size 3 1 (.slice bo j bc) j ((numsR u k j).map (Value.int .i64)) ∧ Below wo.heap.size wo wj) (fun _ j _ => 13 - (intOf j).toNat)
        case atStart => exact ⟨0, _, _, by omega, rfl, rfl, hX1, hX0⟩
        case round =>
          clear hX0 hX1
          obtain ⟨j, bo, bc, hj, rfl, rfl, hrow, hbj⟩ := hrel
          have hbs4 := hbj.size
          by_cases hjl : j < 13
          · have hjm : decide ((j : Int) ≤ 12) = true := decide_eq_true (by omega)
            by_cases hkj : k = j
            · have hbe : ((k : Int) == (j : Int)) = true := by rw [beq_iff_eq]; omega
              have HV2 := Lib.hid (show (numsR u k (j + 1)).map (Value.int .i64) = (numsR u k j).map (Value.int .i64) ++ [.int .i64 (-1)] by rw [numsR_succ, List.map_append, HW.out, if_pos hkj]; rfl)
              clear hkj
              go_wp2_with (at_builtin; refine wpList_push _ rfl _ _ 31 rfl wo.heap.size 3 im (.int .i64 0) 8 Try.underlying31 hmi hmz hm1 hm2 rfl bo j bc _ rfl (ownsRow_below hrow (below_alloc _ _)) _ _ _ rfl (cell_new _ _ _) rfl (by unfold maxLen; omega) (by omega) (by simp; omega) ?_; intro bo2 bc2 w5 hown5 hg5 hnew5)
              have hbn : Below wo.heap.size wo w5 := below_push hbj hbs4 hg5 (fun b hb' => (owns_lt hrow b hb').1)
              clear hg5 hnew5 hrow
              go_roundw
              case rel => exact ⟨j + 1, bo2, bc2, by omega, by go_num, rfl, by rw [HV2.out]; exact hown5, hbn⟩
              case measure => simp [intOf]; omega
            · have hbe : ((k : Int) == (j : Int)) = false := by rw [beq_eq_false_iff_ne]; omega
              have HV2 := Lib.hid (show (numsR u k (j + 1)).map (Value.int .i64) = (numsR u k j).map (Value.int .i64) ++ [.int .i64 (-100000)] by rw [numsR_succ, List.map_append, HW.out, if_neg hkj]; rfl)
              clear hkj
              go_wp2_with (at_builtin; refine wpList_push _ rfl _ _ 31 rfl wo.heap.size 3 im (.int .i64 0) 8 Try.underlying31 hmi hmz hm1 hm2 rfl bo j bc _ rfl (ownsRow_below hrow (below_alloc _ _)) _ _ _ rfl (cell_new _ _ _) rfl (by unfold maxLen; omega) (by omega) (by simp; omega) ?_; intro bo2 bc2 w5 hown5 hg5 hnew5)
              have hbn : Below wo.heap.size wo w5 := below_push hbj hbs4 hg5 (fun b hb' => (owns_lt hrow b hb').1)
              clear hg5 hnew5 hrow
              go_roundw
              case rel => exact ⟨j + 1, bo2, bc2, by omega, by go_num, rfl, by rw [HV2.out]; exact hown5, hbn⟩
              case measure => simp [intOf]; omega
          · have hjm : decide ((j : Int) ≤ 12) = false := by rw [decide_eq_false_iff_not]; omega
            obtain rfl : j = 13 := by omega
            have hus1 := hus.1
            rw [rowsR_len] at hus1
            replace hus1 := ownsRow_below hus1 hbj
            go_wp2_with (at_builtin; refine wpList_push _ rfl _ _ 49 rfl w0.heap.size 31 ir (.slice none 0 0) 24 Try.underlying49 hri hrz hr1 hr2 rfl ro k rc us rfl (ownsRow_below hus1 (below_alloc _ _)) _ _ _ rfl (cell_new _ _ _) rfl (by unfold maxLen; omega) (by omega) (by simp; omega) ?_; intro ro2 rc2 w6 hown6 hg6 hnew6)
            have hus4 := hus.push_nums (hbj.alloc hbs4 _) (ownsRow_base (ownsRow_below hrow (below_alloc _ _)) hbs) (fun a ha => (owns_lt hrow a ha).1) hown6 hg6 hnew6
            have hbb : Below w0.heap.size w0 w6 := below_push (below_step hb hbs hbj) (Nat.le_trans hbs hbs4) hg6 (fun b hb' => (owns_lt hus1 b hb').1)
            clear hown6 hg6 hnew6 hus1 hus hrow
            go_roundw
            case rel => exact ⟨k + 1, _, _, by omega, by go_num, rfl, ⟨_, hus4⟩, hbb⟩
            case measure => simp [intOf]; omega
      · have hkm : decide ((k : Int) ≤ 12) = false := by rw [decide_eq_false_iff_not]; omega
        obtain rfl : k = 13 := by omega
        obtain ⟨hv1, hv2⟩ := HBV.out
        have hvv := HV.out
        obtain ⟨z, hz⟩ : ∃ v, f w h = v := ⟨_, rfl⟩
        rw [hz] at hvv
        have hz1 : -144 ≤ z := by omega
        have hz2 : z ≤ -1 := by omega
        have HVV := Lib.hid hvv
        have HZ := Lib.hid hz
        clear hvv hz hv1 hv2 HV HBV
        go_wp2_with (go_at_call 40; refine (HTB.out _ _ _ _ hrow).mono ?_; rintro e w5 ⟨ro5, rc5, rfl, ⟨us5, hus5⟩, hb5⟩; clear HTB
                     obtain ⟨bb5, off5, g5, c5, e5, r5, s5, _, _⟩ := hus5.num (i := w) (j := h) (by omega) (by omega)
                     rw [HZ.out] at s5
                     subst e5
                     clear hus5)
        rw [HVV.out]
        go_ret2
        exact ⟨rfl, below_step hb hb.size hb5⟩

end Go.Proofs.Ytfemfmkgdgcemaa
