
/-
  For every slice of bytes the law FnLongPerm returns true, and the slice reads behind the call as it read before. No condition.
-/
import Derived.Test.YtiaimcedcjapdaaLis
import Derived.Test.YtiaimcedcjapdaaDrawQ
import Derived.Test.YtiaimcedcjapdaaDraw
import Derived.Test.YtiaimcedcjapdaaLaws
namespace Go.Proofs.Ytiaimcedcjapdaa
open Go.ChangeShapes Go.WideShapes Go.ChangeAt Go.RowKit

set_option maxRecDepth 100000 in
set_option maxHeartbeats 4000000 in
theorem fnLongPerm_all (aC : Option Addr) (kC : Nat) (lC : List UInt8) (w : World) (mC : lC.length ≤ maxLen) (zC : lC.length ≤ kC) (cC : CellsAt w aC (lC.map byteV)) :
    Calls Try.prog 4 #[.slice aC lC.length kC] w fun e w' => e = .returned (.bool true) ∧ Below w.heap.size w w' := by
  have mC2 := mC
  clear mC2
  by_cases dC : lC.length ≤ 1048576
  · have hdC : decide (1048576 < (lC.length : Int)) = false := by rw [decide_eq_false_iff_not]; omega
    go_enter Try.func4, Try.ntmps4
    go_wp2_with fail
    refine (drawOrderLong_any _ _ _ _ zC dC cC).mono ?_
    rintro e w1 ⟨⟨roP, rcP, lP, hsm, rfl, c_P⟩, hb⟩
    have hB := hb
    clear hb
    have LP : lP.length ≤ 1048576 := by have := hsm.2.1; omega
    have SP : ∀ s ∈ lP, s.size ≤ 1048576 := fun s h => by have := hsm.2.2 s h; omega
    cases hp : plainB lP
    · -- no plain plan
      have HI := Lib.hid (fun w c => implOrderLong_any roP rcP lP w LP SP c)
      have HS := Lib.hid (fun w c => specOrderLong_any roP rcP lP w LP SP c)
      rw [hp, longP_no hp, longP_no hp] at HI HS
      clear hp
      go_wp2_with fail
      refine (HI.out _ c_P).mono ?_
      rintro e w2 ⟨rfl, hb⟩
      replace c_P := c_P.below hb
      replace hB := below_step hB hB.size hb
      clear hb
      go_wp2_with fail
      refine (HS.out _ c_P).mono ?_
      rintro e w3 ⟨rfl, hb⟩
      replace c_P := c_P.below hb
      replace hB := below_step hB hB.size hb
      clear hb
      go_wp2
      go_ret
      exact ⟨rfl, hB⟩
    · -- a plain plan
      obtain ⟨im, hmi, hmz, hm1, hm2⟩ := info_parts Try.infoNum
      have HI := Lib.hid (fun w c => implOrderLong_any roP rcP lP w LP SP c)
      have HS := Lib.hid (fun w c => specOrderLong_any roP rcP lP w LP SP c)
      have HX := Lib.hid (fun w c => implOrderPerm_any roP rcP lP w LP SP c)
      obtain ⟨m1, m2, m3, m4, m5⟩ := longPerm_math hp
      rw [hp] at HI HS HX
      clear hp
      obtain ⟨O, hO⟩ : ∃ O, O = permL lP := ⟨_, rfl⟩
      rw [← hO] at m1 m4 m5 HX
      clear hO
      generalize gridR lP = R at *
      have GU := Lib.hid (lisU_goes O R); have GD := Lib.hid (lisD_goes O R)
      have HAU := Lib.hid (lis_ahead O R).1; have HAD := Lib.hid (lis_ahead O R).2
      have HTW := Lib.hid (fun (k i : Nat) (hk : k < i) (hi : i < R) => lis_two (x := O) (r := R) hk hi)
      rw [← m4, ← m5] at HI HS
      clear m4 m5
      obtain ⟨L, hL⟩ : ∃ L, L = intsL O := ⟨_, rfl⟩
      rw [← hL] at HX
      have HLL := Lib.hid (show L.length = R by rw [hL, intsL_len, m1])
      have HLA := Lib.hid (show ∀ i, i < R → L.getD i 0 = ((O.getD i 0 : Nat) : Int) from fun i hi => by rw [hL]; exact ints_at O (by omega))
      clear hL m1
      generalize lisU O R = f at *
      generalize lisD O R = fd at *
      have EU := Lib.hid (show endS f (fun _ => 1) R = eM (fun a => sumS f (fun _ => 1) R a + 1) R from rfl)
      have ED := Lib.hid (show endS fd (fun _ => 1) R = eM (fun a => sumS fd (fun _ => 1) R a + 1) R from rfl)
      generalize endS f (fun _ => 1) R = vu at *
      generalize endS fd (fun _ => 1) R = vd at *
      go_wp2_with fail
      refine (HI.out _ c_P).mono ?_
      rintro e w4 ⟨rfl, hb⟩
      replace c_P := c_P.below hb
      replace hB := below_step hB hB.size hb
      clear hb
      go_wp2_with fail
      refine (HS.out _ c_P).mono ?_
      rintro e w5 ⟨rfl, hb⟩
      replace c_P := c_P.below hb
      replace hB := below_step hB hB.size hb
      clear hb
      go_wp2_with fail
      refine (HX.out _ c_P).mono ?_
      rintro e w6 ⟨⟨roX, rcX, rfl, ow⟩, hb⟩
      replace c_P := c_P.below hb
      replace hB := below_step hB hB.size hb
      clear hb
      have c_X := owns_cells ow
      clear ow
      rw [HLL.out]
      have CX := Lib.hid c_X; have HB9 := Lib.hid hB
      clear c_P c_X hB HI HS HX
      go_wp2_with (first | (at_make; have hU9 := hU0; refine wpList_make_full _ rfl _ _ 25 rfl w20.heap.size 3 im (.int .i64 0) 1 Try.underlying25 hmi hmz hm1 .i64 .i64 _ _ R rfl rfl rfl rfl ?e2 ?e3 (Nat.le_refl _) ?_; rotate_left 2; intro w21 ho hg; have hz := held_zeros ho; have hD0 : HeldB w21 w20.heap.size 3 (setsV (arrL (fun a => sumS fd (fun _ => 1) R a) R 0 0)) := (by rw [arrL_zero]; exact hz); have hU1 := hU0.kept hg (by simp); have hb21 : Below w6.heap.size w6 w21 := hb20.trans ((below_of_grownBy hg (Nat.le_refl _) (by simp)).mono hb20.size); clear ho hg hz hU9) | (at_make; refine wpList_make_full _ rfl _ _ 25 rfl w6.heap.size 3 im (.int .i64 0) 1 Try.underlying25 hmi hmz hm1 .i64 .i64 _ _ R rfl rfl rfl rfl ?d2 ?d3 (Nat.le_refl _) ?_; rotate_left 2; intro w20 ho hg; have hz := held_zeros ho; have hU0 : HeldB w20 w6.heap.size 3 (setsV (arrL (fun a => sumS f (fun _ => 1) R a) R 0 0)) := (by rw [arrL_zero]; exact hz); have hb20 : Below w6.heap.size w6 w20 := below_of_grownBy hg (Nat.le_refl _) (by simp); clear ho hg hz))
      case d2 => rw [hm2]; omega
      case d3 => unfold maxLen; omega
      case e2 => rw [hm2]; omega
      case e3 => unfold maxLen; omega
      have hs20 : w6.heap.size < w20.heap.size := hU0.lt
      clear hU0 hmi hmz hm1 hm2
      have hne : w6.heap.size ≠ w20.heap.size := by omega
      have HNE := Lib.hid hne; clear hne
      go_loopw [14, 15, 16] (fun vm vl vi wr => ∃ i : Nat, i ≤ R ∧ vi = .int .i64 i ∧ vm = .int .i64 ((eM (fun a => sumS f (fun _ => 1) R a + 1) i : Nat) : Int) ∧ vl = .int .i64 ((eM (fun a => sumS fd (fun _ => 1) R a + 1) i : Nat) : Int) ∧ HeldB wr w6.heap.size 3 (setsV (arrL (fun a => sumS f (fun _ => 1) R a) R i 0)) ∧ HeldB wr w20.heap.size 3 (setsV (arrL (fun a => sumS fd (fun _ => 1) R a) R i 0)) ∧ Below w6.heap.size w6 wr) (fun _ _ vi _ => R - (intOf vi).toNat)
      case atStart => exact ⟨0, Nat.zero_le _, rfl, rfl, rfl, hU1, hD0, hb21⟩
      case round =>
        clear hU1 hD0 hb21
        obtain ⟨i, hi, rfl, rfl, rfl, hU, hD, hq⟩ := hrel
        by_cases hlt : i < R
        · have hlt' : decide ((i : Int) < (R : Int)) = true := by rw [decide_eq_true_eq]; omega
          have i1 : (i : Int) < (R : Int) := by omega
          have cu := (hU.cell i).trans (setsV_at (by rw [arrL_len]; exact hlt))
          have fu := hU.frozen i
          have hU2 := (hU.set i (.int .i64 1)).eq (setsV_put _ _ 1)
          rw [arrL_put hlt] at hU2
          have hD2 : HeldB (wr.setCell ⟨w6.heap.size, i, none⟩ (.int .i64 1)) w20.heap.size 3 (setsV (arrL (fun a => sumS fd (fun _ => 1) R a) R i 0)) := hD.other (by have := HNE.out; simpa using fun e => this e.symm) _
          have cd := (hD2.cell i).trans (setsV_at (by rw [arrL_len]; exact hlt))
          have fz := hD2.frozen i
          have hD3 := (hD2.set i (.int .i64 1)).eq (setsV_put _ _ 1)
          rw [arrL_put hlt] at hD3
          have hU3 : HeldB ((wr.setCell ⟨w6.heap.size, i, none⟩ (.int .i64 1)).setCell ⟨w20.heap.size, i, none⟩ (.int .i64 1)) w6.heap.size 3 (setsV (arrL (fun a => sumS f (fun _ => 1) R a) R i 1)) := hU2.other (by have := HNE.out; simpa using this) _
          have hq3 : Below w6.heap.size w6 ((wr.setCell ⟨w6.heap.size, i, none⟩ (.int .i64 1)).setCell ⟨w20.heap.size, i, none⟩ (.int .i64 1)) := (hq.setCell (p := ⟨w6.heap.size, i, none⟩) (by simp) _).setCell (p := ⟨w20.heap.size, i, none⟩) (by simp; omega) _
          have HU3 := Lib.hid hU3; have HD3 := Lib.hid hD3; have HQ3 := Lib.hid hq3; clear hU hD hU2 hD2 hU3 hD3 hq hq3
          go_wp2
          skip
          go_loopw [17] (fun vk wr => ∃ k : Nat, k ≤ i ∧ vk = .int .i64 k ∧ HeldB wr w6.heap.size 3 (setsV (arrL (fun a => sumS f (fun _ => 1) R a) R i (gU f R i k + 1))) ∧ HeldB wr w20.heap.size 3 (setsV (arrL (fun a => sumS fd (fun _ => 1) R a) R i (gU fd R i k + 1))) ∧ Below w6.heap.size w6 wr) (fun vk _ => i - (intOf vk).toNat)
          case atStart => exact ⟨0, Nat.zero_le _, rfl, HU3.out, HD3.out, HQ3.out⟩
          case round =>
            clear HU3 HD3 HQ3 cu fu cd fz
            obtain ⟨k, hk, rfl, hU, hD, hq⟩ := hrel
            by_cases hki : k < i
            · have hki' : decide ((k : Int) < (i : Int)) = true := by rw [decide_eq_true_eq]; omega
              have k1 : (k : Int) < (R : Int) := by omega
              obtain ⟨bx, ox, rfl, kx⟩ := (CX.out.below hq).int k (by have := HLL.out; omega)
              obtain ⟨bx2, ox2, he, ky⟩ := (CX.out.below hq).int i (by have := HLL.out; omega)
              simp only [Option.some.injEq, Addr.mk.injEq, and_true] at he
              obtain ⟨rfl, rfl⟩ := he
              rw [HLA.out k (by omega)] at kx
              rw [HLA.out i hlt] at ky
              obtain ⟨t1, t2⟩ := HTW.out k i hki hlt
              obtain ⟨x, hx⟩ : ∃ x, x = O.getD k 0 := ⟨_, rfl⟩
              obtain ⟨y, hy⟩ : ∃ y, y = O.getD i 0 := ⟨_, rfl⟩
              rw [← hx] at kx t1 t2
              rw [← hy] at ky t1 t2
              clear hx hy
              by_cases hxy : x < y
              · have hd : decide ((x : Int) < (y : Int)) = true := by rw [decide_eq_true_eq]; omega
                have ht1 : f k i = true := by rw [t1, decide_eq_true hxy]
                have ht2 : fd k i = false := by rw [t2, decide_eq_true hxy]; rfl
                have ci := (hU.cell i).trans (setsV_at (by rw [arrL_len]; exact hlt))
                have ck := (hU.cell k).trans (setsV_at (by rw [arrL_len]; omega))
                rw [arrL_here hlt] at ci
                rw [arrL_ahead hki hlt] at ck
                have fi := hU.frozen i
                have hmm := gU_yes (r := R) (i := i) (k := k) ht1
                have hb1 := gU_few GU.out hlt m3 (show k ≤ R by omega)
                have hb2 := sum_ones_few GU.out (show k < R by omega) m3
                have hn := gU_no (r := R) (i := i) (k := k) ht2
                have HS2 := Lib.hid (fun n => show HeldB ((wr.drewN n).setCell ⟨w6.heap.size, i, none⟩ (.int .i64 ((gU f R i (k + 1) + 1 : Nat) : Int))) w6.heap.size 3 (setsV (arrL (fun a => sumS f (fun _ => 1) R a) R i (gU f R i (k + 1) + 1))) from ((hU.below (below_drewN _ _ _)).set i (.int .i64 ((gU f R i (k + 1) + 1 : Nat) : Int))).eq ((setsV_put _ _ _).trans (by rw [arrL_put hlt])))
                have HO2 := Lib.hid (fun n => show HeldB ((wr.drewN n).setCell ⟨w6.heap.size, i, none⟩ (.int .i64 ((gU f R i (k + 1) + 1 : Nat) : Int))) w20.heap.size 3 (setsV (arrL (fun a => sumS fd (fun _ => 1) R a) R i (gU fd R i (k + 1) + 1))) from by rw [hn]; exact (hD.below (below_drewN _ _ _)).other (by have := HNE.out; simpa using fun e => this e.symm) _)
                have HQ2 := Lib.hid (fun n => show Below w6.heap.size w6 ((wr.drewN n).setCell ⟨w6.heap.size, i, none⟩ (.int .i64 ((gU f R i (k + 1) + 1 : Nat) : Int))) from (below_step hq hq.size (below_drewN _ _ _)).setCell (p := ⟨w6.heap.size, i, none⟩) (by simp) _)
                clear hU hD hn
                obtain ⟨mm, hmv⟩ : ∃ mm, mm = gU f R i (k + 1) + 1 := ⟨_, rfl⟩
                rw [← hmv] at hmm HS2 HO2 HQ2
                obtain ⟨a, hA⟩ : ∃ a, a = gU f R i k := ⟨_, rfl⟩
                obtain ⟨b, hBb⟩ : ∃ b, b = sumS f (fun _ => 1) R k := ⟨_, rfl⟩
                rw [← hA] at hmm hb1 ci
                simp only [← hBb] at hmm hb2 ck
                have HMX := Lib.hid (show (if ((a + 1 : Nat) : Int) < ((b + 1 : Nat) : Int) + 1 then ((b + 1 : Nat) : Int) + 1 else ((a + 1 : Nat) : Int)) = (mm : Int) by rw [max_up1, hmm])
                have HMV := Lib.hid hmv
                clear hmm hmv hA hBb t1 t2 ht1 ht2
                generalize ha1 : a + 1 = a1 at *
                generalize hb1x : b + 1 = b1 at *
                have ba : a1 ≤ 80 := by omega
                have bb : b1 ≤ 80 := by omega
                clear ha1 hb1x hb1 hb2
                go_wp2
                go_quiet (fail)
                skip
                go_wp2
                go_region
                rw [HMX.out]
                go_wp2
                go_roundw
                case rel => exact ⟨k + 1, by omega, by go_num, by first | exact HS2.out _ | (rw [← HMV.out]; exact HS2.out _), by first | exact HO2.out _ | (rw [← HMV.out]; exact HO2.out _), HQ2.out _⟩
                case measure => simp [intOf]; omega
              · have hd : decide ((x : Int) < (y : Int)) = false := by rw [decide_eq_false_iff_not]; omega
                have ht1 : fd k i = true := by rw [t2, decide_eq_false hxy]; rfl
                have ht2 : f k i = false := by rw [t1, decide_eq_false hxy]
                have ci := (hD.cell i).trans (setsV_at (by rw [arrL_len]; exact hlt))
                have ck := (hD.cell k).trans (setsV_at (by rw [arrL_len]; omega))
                rw [arrL_here hlt] at ci
                rw [arrL_ahead hki hlt] at ck
                have fi := hD.frozen i
                have hmm := gU_yes (r := R) (i := i) (k := k) ht1
                have hb1 := gU_few GD.out hlt m3 (show k ≤ R by omega)
                have hb2 := sum_ones_few GD.out (show k < R by omega) m3
                have hn := gU_no (r := R) (i := i) (k := k) ht2
                have HS2 := Lib.hid (fun n => show HeldB ((wr.drewN n).setCell ⟨w20.heap.size, i, none⟩ (.int .i64 ((gU fd R i (k + 1) + 1 : Nat) : Int))) w20.heap.size 3 (setsV (arrL (fun a => sumS fd (fun _ => 1) R a) R i (gU fd R i (k + 1) + 1))) from ((hD.below (below_drewN _ _ _)).set i (.int .i64 ((gU fd R i (k + 1) + 1 : Nat) : Int))).eq ((setsV_put _ _ _).trans (by rw [arrL_put hlt])))
                have HO2 := Lib.hid (fun n => show HeldB ((wr.drewN n).setCell ⟨w20.heap.size, i, none⟩ (.int .i64 ((gU fd R i (k + 1) + 1 : Nat) : Int))) w6.heap.size 3 (setsV (arrL (fun a => sumS f (fun _ => 1) R a) R i (gU f R i (k + 1) + 1))) from by rw [hn]; exact (hU.below (below_drewN _ _ _)).other (by have := HNE.out; simpa using this) _)
                have HQ2 := Lib.hid (fun n => show Below w6.heap.size w6 ((wr.drewN n).setCell ⟨w20.heap.size, i, none⟩ (.int .i64 ((gU fd R i (k + 1) + 1 : Nat) : Int))) from (below_step hq hq.size (below_drewN _ _ _)).setCell (p := ⟨w20.heap.size, i, none⟩) (by simp; omega) _)
                clear hU hD hn
                obtain ⟨mm, hmv⟩ : ∃ mm, mm = gU fd R i (k + 1) + 1 := ⟨_, rfl⟩
                rw [← hmv] at hmm HS2 HO2 HQ2
                obtain ⟨a, hA⟩ : ∃ a, a = gU fd R i k := ⟨_, rfl⟩
                obtain ⟨b, hBb⟩ : ∃ b, b = sumS fd (fun _ => 1) R k := ⟨_, rfl⟩
                rw [← hA] at hmm hb1 ci
                simp only [← hBb] at hmm hb2 ck
                have HMX := Lib.hid (show (if ((a + 1 : Nat) : Int) < ((b + 1 : Nat) : Int) + 1 then ((b + 1 : Nat) : Int) + 1 else ((a + 1 : Nat) : Int)) = (mm : Int) by rw [max_up1, hmm])
                have HMV := Lib.hid hmv
                clear hmm hmv hA hBb t1 t2 ht1 ht2
                generalize ha1 : a + 1 = a1 at *
                generalize hb1x : b + 1 = b1 at *
                have ba : a1 ≤ 80 := by omega
                have bb : b1 ≤ 80 := by omega
                clear ha1 hb1x hb1 hb2
                go_wp2
                go_quiet (fail)
                skip
                go_wp2
                go_region
                rw [HMX.out]
                go_wp2
                go_roundw
                case rel => exact ⟨k + 1, by omega, by go_num, by first | exact HO2.out _ | (rw [← HMV.out]; exact HO2.out _), by first | exact HS2.out _ | (rw [← HMV.out]; exact HS2.out _), HQ2.out _⟩
                case measure => simp [intOf]; omega
            · obtain rfl : k = i := by omega
              have hki' : decide ((k : Int) < (k : Int)) = false := by rw [decide_eq_false_iff_not]; omega
              rw [gU_all GU.out hlt (HAU.out k)] at hU
              rw [gU_all GD.out hlt (HAD.out k)] at hD
              have cu := (hU.cell k).trans (setsV_at (by rw [arrL_len]; exact hlt))
              have cd := (hD.cell k).trans (setsV_at (by rw [arrL_len]; exact hlt))
              rw [arrL_here hlt] at cu cd
              rw [arrL_next (h := fun a => sumS f (fun _ => 1) R a) hlt] at hU
              rw [arrL_next (h := fun a => sumS fd (fun _ => 1) R a) hlt] at hD
              have HU := Lib.hid hU; have HD := Lib.hid hD; clear hU hD
              have b1 := sum_ones_few GU.out hlt m3
              have b2 := sum_ones_few GD.out hlt m3
              have e1 := eM_succ (fun a => sumS f (fun _ => 1) R a + 1) k
              have e2 := eM_succ (fun a => sumS fd (fun _ => 1) R a + 1) k
              have n1 : eM (fun a => sumS f (fun _ => 1) R a + 1) k ≤ 73 := (eM_le k).2 fun a ha => by have := sum_ones_few GU.out (show a < R by omega) m3; show sumS f (fun _ => 1) R a + 1 ≤ 73; omega
              have n2 : eM (fun a => sumS fd (fun _ => 1) R a + 1) k ≤ 73 := (eM_le k).2 fun a ha => by have := sum_ones_few GD.out (show a < R by omega) m3; show sumS fd (fun _ => 1) R a + 1 ≤ 73; omega
              have M1 := Lib.hid (show (if eM (fun a => sumS f (fun _ => 1) R a + 1) k < sumS f (fun _ => 1) R k + 1 then ((sumS f (fun _ => 1) R k + 1 : Nat) : Int) else ((eM (fun a => sumS f (fun _ => 1) R a + 1) k : Nat) : Int)) = ((eM (fun a => sumS f (fun _ => 1) R a + 1) (k + 1) : Nat) : Int) by rw [max_int0, e1])
              have M2 := Lib.hid (show (if eM (fun a => sumS fd (fun _ => 1) R a + 1) k < sumS fd (fun _ => 1) R k + 1 then ((sumS fd (fun _ => 1) R k + 1 : Nat) : Int) else ((eM (fun a => sumS fd (fun _ => 1) R a + 1) k : Nat) : Int)) = ((eM (fun a => sumS fd (fun _ => 1) R a + 1) (k + 1) : Nat) : Int) by rw [max_int0, e2])
              clear e1 e2
              generalize eM (fun a => sumS f (fun _ => 1) R a + 1) k = u0 at *
              generalize sumS f (fun _ => 1) R k + 1 = u1 at *
              generalize eM (fun a => sumS fd (fun _ => 1) R a + 1) k = d0 at *
              generalize sumS fd (fun _ => 1) R k + 1 = d1 at *
              go_wp2
              go_roundw
              case rel => exact ⟨k + 1, by omega, by go_num, by rw [← M1.out], by rw [← M2.out], HU.out, HD.out, hq⟩
              case measure => simp [intOf]; omega
        · obtain rfl : i = R := by omega
          have hlt' : decide ((i : Int) < (i : Int)) = false := by rw [decide_eq_false_iff_not]; omega
          rw [← EU.out, ← ED.out]
          have hB := below_step HB9.out HB9.out.size hq
          go_wp2
          go_ret
          exact ⟨rfl, hB⟩
  · have hdC : decide (1048576 < (lC.length : Int)) = true := by rw [decide_eq_true_eq]; omega
    go_enter Try.func4, Try.ntmps4
    go_wp2
    go_ret
    exact ⟨rfl, Below.refl _ _⟩

set_option maxRecDepth 100000 in
theorem fnLongPerm_lifted (os : Os) (started : os.Started) (H : Type) (enc : TypeId × Value → H) :
    ReturnsInHanded {} Try.checked os 4 .any (Rows.fnLongPermSpec.pre6 enc Try.prog Try.f4 Rows.fnLongPermRow.domain false) (Rows.fnLongPermSpec.post enc Try.prog Try.f4 false true false false) := by
  refine returnsInHanded_of_change (C := Try.checked) Try.own started (by kernel_rfl) Try.func4
    (ChangeSpec.witness6 (enc := enc) (C := Try.checked) false ⟨#[], #[.slice none 0 0], []⟩ 8 (by kernel_rfl) (by kernel_rfl) (by kernel_rfl) (by kernel_rfl)) ?_
  intro W base args ds gs before hval0 hW _ _
  have hval : ∀ (j : Nat) t v, Try.f4.params[j]? = some t → args[j]? = some v → Value.okWide Try.prog W .any base t v := hval0
  have hW' := hW
  obtain ⟨p, q, hA0, hV, rfl, _, _⟩ := hW
  have hA : DataW.TrodAll enc Try.prog W 0 (fun _ => true) true Try.f4.params.toList args.toList ds p := hA0
  rw [Try.params4] at hA hval
  obtain ⟨v0, d0, rfl, rfl, h0⟩ := trodAll_one hA
  obtain ⟨rfl, rfl⟩ := trodVars_none hV
  obtain ⟨aC, eC, kC, rfl⟩ := okWide_slice Try.underlying22 (hval 0 22 v0 rfl rfl)
  clear hA0 hval0
  simp only [List.append_nil] at hW'
  have hlt0 : ∀ x ∈ p, x.block < W.heap.size := fun x hx => by simpa using hW'.lt x (by simp [hx])
  obtain ⟨lC, rfl, mC, zC, cC⟩ := open_bytes h0
  refine (fnLongPerm_all aC kC lC W mC zC cC).mono fun e W' ⟨he, hb⟩ => ?_
  subst he
  refine ⟨_, rfl, _, _, _, [], _, [], hW', trodAll_mk1 (shut_bool Try.underlying4 _), trodAll_mk1 (Below.trod Try.laidOut (by kernel_rfl) (of_decide_eq_true (by kernel_rfl)) h0 hb hlt0), rfl, hb.frame _, fun h => by cases h⟩

theorem fnLongPerm_holds : Rows.FnLongPermSaid :=
  OpenClaim.holds_of_wide 4 Try.f4 rfl rfl rfl rfl rfl rfl rfl ⟨rfl, rfl, rfl, rfl, rfl⟩ rfl rfl rfl rfl rfl (by kernel_rfl) Try.func4 (by kernel_rfl)
    (of_decide_eq_true (by kernel_rfl)) (by unfold Func.isWrapper; first | (rw [if_pos (by decide +kernel)]; kernel_rfl) | (rw [if_neg (by decide +kernel)]; exact ⟨rfl, rfl⟩))
    (fun os started H enc _ => fnLongPerm_lifted os started H enc)

end Go.Proofs.Ytiaimcedcjapdaa
