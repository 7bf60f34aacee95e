/-
  Plans widened: the model's answer and the program's. (Walks.)
-/
import Derived.Test.YtamfnahbhhmiiaaTurnso1

namespace Go.Proofs.Ytamfnahbhhmiiaa
open Go.RowKit

def wideOk (p : List ByteArray) (k : Int) : Bool := planB p && (l6B k 1 3 && doneB (spreadB p k.toNat))
set_option maxHeartbeats 1000000 in
theorem specWide_any (ao : Option Addr) (cap : Nat) (p : List ByteArray) (k : Int) (w : World) (hl : p.length ≤ 1048576) (hs : ∀ s ∈ p, s.size ≤ 1048576) (hc : CellsAt w ao (p.map Value.string)) :
    Calls Try.prog 41 #[.slice ao p.length cap, .int .i64 k] w fun e w' => TextsRet w.heap.size (orNone (wideOk p k) (namesB (spreadB p k.toNat))) (wideOk p k) e w' ∧ Below w.heap.size w w' := by
  cases hp : planB p
  · have hw : wideOk p k = false := by unfold wideOk; rw [hp]; rfl
    rw [orNone_no hw, hw]
    go_enter Try.func41, Try.ntmps41
    go_wp2_with (first
      | (go_at_call 26; refine (specPlanIn_any _ _ _ _ hl hs hc).mono ?_; rw [hp]; rintro e w1 ⟨rfl, hb1⟩)
      | (go_at_call 75; refine (l1None_any _).mono ?_; rintro e w2 ⟨⟨ro, rc, rfl, hown2⟩, hb2⟩))
    go_ret2
    exact ⟨⟨_, _, rfl, ownsRow_base hown2 hb1.size⟩, below_step hb1 hb1.size hb2⟩
  · cases h6 : l6B k 1 3
    · have hw : wideOk p k = false := by unfold wideOk; rw [h6, Bool.false_and, Bool.and_false]
      rw [orNone_no hw, hw]
      go_enter Try.func41, Try.ntmps41
      go_wp2_with (first
        | (go_at_call 26; refine (specPlanIn_any _ _ _ _ hl hs hc).mono ?_; rw [hp]; rintro e w1 ⟨rfl, hb1⟩)
        | (go_at_call 74; refine (l6In_any _ _ _ _).mono ?_; rw [h6]; rintro e w3 ⟨rfl, rfl⟩)
        | (go_at_call 75; refine (l1None_any _).mono ?_; rintro e w2 ⟨⟨ro, rc, rfl, hown2⟩, hb2⟩))
      go_ret2
      exact ⟨⟨_, _, rfl, ownsRow_base hown2 hb1.size⟩, below_step hb1 hb1.size hb2⟩
    · have hw : wideOk p k = doneB (spreadB p k.toNat) := by unfold wideOk; rw [hp, h6]; rfl
      rw [hw]
      have hk : 1 ≤ k ∧ k ≤ 3 := by unfold l6B at h6; exact of_decide_eq_true h6
      obtain ⟨n, rfl⟩ : ∃ n : Nat, k = (n : Int) := ⟨k.toNat, by omega⟩
      rw [Int.toNat_natCast]
      have hg := (planP_of hp).grid
      have hd := spread_dims hg.h1 hg.w1 (show 1 ≤ n by omega) hg.even
      have HE0 := Lib.hid hg.even
      have HA1 := Lib.hid hd.a1; have HA2 := Lib.hid hd.a2; have HA3 := Lib.hid hd.a3
      have HB1 := Lib.hid hd.b1; have HB2 := Lib.hid hd.b2; have HB3 := Lib.hid hd.b3
      have HC1 := Lib.hid hd.c1; have HC2 := Lib.hid hd.c2; have HC3 := Lib.hid hd.c3
      have HD1 := Lib.hid hd.d1
      have hs6 : ∀ s ∈ spreadB p n, s.size ≤ 1048576 := fun s hs => by
        unfold spreadB transB at hs
        rw [matB_size s hs, show (oftenB (matB (wideB (oftenB p n)) (oftenB p n).length fun k_1 i => byteAt (oftenB p n) i k_1) n).length = _ from hd.c1]
        have := Nat.mul_le_mul hg.w6 (show n ≤ 3 by omega)
        omega
      have HS6 := Lib.hid hs6; clear hs6
      have q1 := Nat.mul_le_mul hg.w6 (show n ≤ 3 by omega)
      have q2 := Nat.mul_le_mul hg.h6 (show n ≤ 3 by omega)
      have q3 := hg.h1; have q4 := hg.h6; have q5 := hg.w1; have q6 := hg.w6
      have q7 := Nat.mul_pos hg.h1 (show 1 ≤ n by omega)
      have q8 := Nat.mul_pos hg.w1 (show 1 ≤ n by omega)
      have hh1 : p.length * n ≤ 1048576 := by omega
      have hh2 : wideB p * n ≤ 1048576 := by omega
      clear hd hg
      go_enter Try.func41, Try.ntmps41
      go_wp2_with fail
      refine (specPlanIn_any _ _ _ _ hl hs hc).mono ?_
      rw [hp]; rintro e w1 ⟨rfl, hb1⟩
      have hc1 := hc.below hb1
      go_wp2_with fail
      refine (l6In_any _ _ _ _).mono ?_
      rw [h6]; rintro e w1' ⟨rfl, rfl⟩
      go_wp2_with fail
      refine (l1Often_any _ _ _ p n _ rfl (by omega) (by omega) hc1).mono ?_
      rintro e w2 ⟨r2, c2, rfl, o2, b2⟩
      have hc2 := owns_cells o2
      go_wp2_with fail
      refine (l1Trans_any _ _ _ (oftenB p n) _ HA1.out (by rw [HA1.out]; omega) (by rw [HA1.out]; exact hh1) (by rw [HA2.out]; omega) HA3.out hc2).mono ?_
      rw [HA2.out]
      rintro e w3 ⟨r3, c3, rfl, o3, b3⟩
      have hc3 := owns_cells o3
      go_wp2_with fail
      refine (l1Often_any _ _ _ (transB (oftenB p n)) n _ HB1.out (by rw [HB1.out]; omega) (by omega) hc3).mono ?_
      rw [HB1.out]
      rintro e w4 ⟨r4, c4, rfl, o4, b4⟩
      have hc4 := owns_cells o4
      go_wp2_with fail
      refine (l1Trans_any _ _ _ (oftenB (transB (oftenB p n)) n) _ HC1.out (by rw [HC1.out]; omega) (by rw [HC1.out]; exact hh2) (by rw [HC2.out]; exact hh1) HC3.out hc4).mono ?_
      rw [HC2.out]
      rintro e w5 ⟨r5, c5, rfl, o5, b5⟩
      have hc5 := owns_cells o5
      go_wp2_with fail
      refine (l1Done_any _ _ _ (spreadB p n) _ HD1.out (by rw [HD1.out]; exact hh1) HS6.out hc5).mono ?_
      rintro e w6 ⟨⟨r6, c6, rfl, o6⟩, b6⟩
      go_wp2
      have z2 := below_step hb1 hb1.size b2
      have z3 := below_step z2 z2.size b3
      have z4 := below_step z3 z3.size b4
      have z5 := below_step z4 z4.size b5
      go_ret2
      exact ⟨⟨_, _, rfl, ownsRow_base o6 z5.size⟩, below_step z5 z5.size b6⟩

end Go.Proofs.Ytamfnahbhhmiiaa
