/-
  Merged texts: MeetS PointS SpecM.
-/
import Derived.Test.YtpgcpmfemcfoaaaSpecWXO
import Derived.BigQuiet
import Derived.StillTailTactics

/-
  How many rooms meet at a point: the model's answer. (Walks.)
-/
namespace Go.Proofs.Ytpgcpmfemcfoaaa
open Go.RowKit

/-- a letter is none of those ahead of it -/
def newL (cs : List UInt8) (a b : Nat) : Bool := (List.range b).all fun t => decide (cs.getD a 0 ≠ cs.getD t 0)
/-- how many letters differ, of the first ones -/
def newN (cs : List UInt8) (a : Nat) : Nat := (List.range a).countP fun t => newL cs t t
/-- the letters around a point -/
def cornL (p : List ByteArray) (i k : Nat) : List UInt8 := [byteAt p (i - 1) (k - 1), byteAt p (i - 1) k, byteAt p i (k - 1), byteAt p i k]

theorem newL_succ (cs : List UInt8) (a b : Nat) : newL cs a (b + 1) = (newL cs a b && decide (cs.getD a 0 ≠ cs.getD b 0)) := by
  unfold newL; rw [List.range_succ, List.all_append]; simp
theorem newN_succ (cs : List UInt8) (a : Nat) : newN cs (a + 1) = newN cs a + (if newL cs a a then 1 else 0) := by
  unfold newN; rw [List.range_succ, List.countP_append, List.countP_singleton]
theorem newN_zero (cs : List UInt8) : newN cs 0 = 0 := rfl
theorem newN_le (cs : List UInt8) (a : Nat) : newN cs a ≤ a := by
  unfold newN; have := List.countP_le_length (p := fun t => newL cs t t) (l := List.range a); simpa using this

set_option maxRecDepth 100000 in
set_option maxHeartbeats 4000000 in
theorem l2Meets_any (ao : Option Addr) (cap n : Nat) (p : List ByteArray) (i k : Nat) (w : World) (hn : p.length = n) (hl : p.length ≤ 6) (hw : wideB p ≤ 6) (he : Even p)
    (hi1 : 1 ≤ i) (hi : i < p.length) (hk1 : 1 ≤ k) (hk : k < wideB p) (hc : CellsAt w ao (p.map Value.string)) :
    Calls Try.prog 121 #[.slice ao n cap, .int .i64 i, .int .i64 k] w
      fun e w' => e = .returned (.int .i64 (newN (cornL p i k) 4 : Nat)) ∧ Below w.heap.size w w' := by
  subst hn
  have HC := Lib.hid hc
  obtain ⟨b1, off1, ha1, hc1⟩ := hc.str i hi
  obtain ⟨b2, off2, ha2, hc2⟩ := hc.str (i - 1) (by omega)
  subst ha1
  simp only [Option.some.injEq, Addr.mk.injEq, and_true] at ha2
  obtain ⟨rfl, rfl⟩ := ha2
  have hs1 : (p.getD i ByteArray.empty).size = wideB p := he i hi
  have hs2 : (p.getD (i - 1) ByteArray.empty).size = wideB p := he (i - 1) (by omega)
  have hk1l : k < (p.getD i ByteArray.empty).size := by omega
  have hk2l : k < (p.getD (i - 1) ByteArray.empty).size := by omega
  have hkl : k - 1 < (p.getD i ByteArray.empty).size := by omega
  have hkl2 : k - 1 < (p.getD (i - 1) ByteArray.empty).size := by omega
  have x11 := at_list (p.getD i ByteArray.empty) k hk1l
  have x10 := at_list (p.getD i ByteArray.empty) (k - 1) hkl
  have x01 := at_list (p.getD (i - 1) ByteArray.empty) k hk2l
  have x00 := at_list (p.getD (i - 1) ByteArray.empty) (k - 1) hkl2
  have HCO := Lib.hid (show cornL p i k = [byteAt p (i - 1) (k - 1), byteAt p (i - 1) k, byteAt p i (k - 1), byteAt p i k] from rfl)
  unfold byteAt at HCO
  generalize hcs : cornL p i k = cs at *
  generalize (p.getD i ByteArray.empty).data.toList.getD k 0 = e11 at *
  generalize (p.getD i ByteArray.empty).data.toList.getD (k - 1) 0 = e10 at *
  generalize (p.getD (i - 1) ByteArray.empty).data.toList.getD k 0 = e01 at *
  generalize (p.getD (i - 1) ByteArray.empty).data.toList.getD (k - 1) 0 = e00 at *
  generalize p.getD i ByteArray.empty = s1 at *
  generalize p.getD (i - 1) ByteArray.empty = s2 at *
  clear hc he hcs HC hs1 hs2
  have hi' : (i : Int) - 1 = ((i - 1 : Nat) : Int) := by omega
  have hk' : (k : Int) - 1 = ((k - 1 : Nat) : Int) := by omega
  have hil : i - 1 < p.length := by omega
  have q0 : IntKind.i64.wrap ((i - 1 : Nat) : Int) = ((i - 1 : Nat) : Int) := IntWalk.i64_in _ (by omega)
  have q1 : IntKind.i64.wrap ((k - 1 : Nat) : Int) = ((k - 1 : Nat) : Int) := IntWalk.i64_in _ (by omega)
  go_enter Try.func121, Try.ntmps121
  go_wp2
  refine wp_region_still_tail 28 (by kernel_rfl) (by kernel_rfl) ?_
  have hB1 : Below w.heap.size w ({ w with drawn := w.drawn + 1 } : World) := below_drewN w.heap.size w 1
  replace hc1 : World.cell? ({ w with drawn := w.drawn + 1 } : World) ⟨b1, off1 + i, none⟩ = some (.string s1) := hc1
  replace hc2 : World.cell? ({ w with drawn := w.drawn + 1 } : World) ⟨b1, off1 + (i - 1), none⟩ = some (.string s2) := hc2
  generalize ({ w with drawn := w.drawn + 1 } : World) = W1 at *
  simp only [List.take_succ_cons, List.take_zero, List.drop_succ_cons, List.drop_zero]
  repeat still_step
  refine wpStill_nil ?_
  have hcsA : CellsAt (W1.alloc (.cells #[.int .u8 e00.toNat, .int .u8 e01.toNat, .int .u8 e10.toNat, .int .u8 e11.toNat] 5)) (some ⟨W1.heap.size, 0, none⟩) (cs.map byteV) := by
    rw [HCO.out]; exact CellsAt.alloc_lit W1 ([e00, e01, e10, e11].map byteV) _
  have hB2 := hB1.trans ((below_alloc W1 (.cells #[.int .u8 e00.toNat, .int .u8 e01.toNat, .int .u8 e10.toNat, .int .u8 e11.toNat] 5)).mono hB1.size)
  have hcl : cs.length = 4 := by rw [HCO.out]; rfl
  have HB2 := Lib.hid hB2; have HCA := Lib.hid hcsA
  clear x11 x10 x01 x00 HCO hcsA hc1 hc2 hB1 hB2 q0 q1 hil
  go_wp2
  generalize hG : W1.heap.size = G at *
  generalize W1.alloc (.cells #[.int .u8 e00.toNat, .int .u8 e01.toNat, .int .u8 e10.toNat, .int .u8 e11.toNat] 5) = W2 at *
  clear hG W1
  go_loopw [8, 9, 10, 11] (fun vn va _ _ wr => ∃ a : Nat, a ≤ 4 ∧ va = .int .i64 a ∧ vn = .int .i64 (newN cs a : Nat) ∧ Below W2.heap.size W2 wr) (fun _ va _ _ _ => 4 - (intOf va).toNat)
  case atStart => exact ⟨0, by omega, rfl, rfl, Below.refl _ _⟩
  case round =>
    obtain ⟨a, ha, rfl, rfl, hB⟩ := hrel
    have hle := newN_le cs a
    by_cases hlt : a < 4
    · have hlt' : decide ((a : Int) < 4) = true := by rw [decide_eq_true_eq]; omega
      have HS := Lib.hid (newN_succ cs a)
      generalize hN : newN cs a = N at *
      have HN := Lib.hid hN; clear hN
      go_wp2
      go_loopw [10, 11] (fun vf vb wm => ∃ b : Nat, b ≤ a ∧ vb = .int .i64 b ∧ vf = .bool (newL cs a b) ∧ Below W2.heap.size W2 wm) (fun _ vb _ => a - (intOf vb).toNat)
      case atStart => exact ⟨0, by omega, rfl, rfl, hB⟩
      case round =>
        clear hB
        obtain ⟨b, hb, rfl, rfl, hB⟩ := hrel
        by_cases hba : b < a
        · have hba' : decide ((b : Int) < (a : Int)) = true := by rw [decide_eq_true_eq]; omega
          have HT := Lib.hid (newL_succ cs a b)
          have t1 : (a : Int) < 4 := by omega
          have t2 : (b : Int) < 4 := by omega
          have t3 : b < 4 := by omega
          obtain ⟨ba, oa, hea, hca⟩ := (HCA.out.below hB).byte a (by omega)
          obtain ⟨bb, ob, heb, hcb⟩ := (HCA.out.below hB).byte b (by omega)
          simp only [Option.some.injEq, Addr.mk.injEq, and_true] at hea heb
          obtain ⟨rfl, rfl⟩ := hea
          obtain ⟨h1, h2⟩ := heb
          subst h1; subst h2
          have hca2 := hca; have hcb2 := hcb
          rw [Nat.zero_add] at hca2 hcb2
          generalize hF : newL cs a b = F at *
          have HF := Lib.hid hF; clear hF
          generalize cs.getD a 0 = x at *
          generalize cs.getD b 0 = y at *
          cases F with
          | false =>
            go_wp2
            go_quiet (fail)
            go_wp2
            go_roundw
            case rel => exact ⟨b + 1, by omega, by go_num, by rw [HT.out]; rfl, hB.trans (below_drewN _ _ _)⟩
            case measure => simp [intOf]; omega
          | true =>
            by_cases hxy : x = y
            · have hne : ((x.toNat : Int) != (y.toNat : Int)) = false := by rw [hxy]; simp
              have HT' := Lib.hid (show newL cs a (b + 1) = false by rw [HT.out, hxy]; simp)
              clear HT hxy
              go_wp2
              go_quiet (fail)
              go_wp2
              go_roundw
              case rel => exact ⟨b + 1, by omega, by go_num, by rw [HT'.out], hB.trans (below_drewN _ _ _)⟩
              case measure => simp [intOf]; omega
            · have hne : ((x.toNat : Int) != (y.toNat : Int)) = true := by
                rw [bne_iff_ne]; intro h; exact hxy (UInt8.toNat_inj.mp (by omega))
              have HT' := Lib.hid (show newL cs a (b + 1) = true by rw [HT.out]; simp [hxy])
              clear HT hxy
              go_wp2
              go_quiet (fail)
              go_wp2
              go_roundw
              case rel => exact ⟨b + 1, by omega, by go_num, by rw [HT'.out], hB.trans (below_drewN _ _ _)⟩
              case measure => simp [intOf]; omega
        · obtain rfl : b = a := by omega
          have hba' : decide ((b : Int) < (b : Int)) = false := by rw [decide_eq_false_iff_not]; omega
          generalize hF : newL cs b b = F at *
          have HF := Lib.hid hF; clear hF
          cases F with
          | false =>
            go_wp2
            go_roundw
            case rel => exact ⟨b + 1, by omega, by go_num, by rw [HS.out]; rfl, hB⟩
            case measure => simp [intOf]; omega
          | true =>
            go_wp2
            go_roundw
            case rel => exact ⟨b + 1, by omega, by go_num, by rw [HS.out]; go_num, hB⟩
            case measure => simp [intOf]; omega
    · obtain rfl : a = 4 := by omega
      have hlt' : decide ((4 : Int) < (4 : Int)) = false := by decide
      go_wp2
      go_ret
      exact ⟨rfl, HB2.out.trans (hB.mono HB2.out.size)⟩
end Go.Proofs.Ytpgcpmfemcfoaaa

/-
  The points at which so many rooms meet: the model's answer. (Walks.)
-/
namespace Go.Proofs.Ytpgcpmfemcfoaaa
open Go.RowKit

/-- an inner point at which so many rooms meet -/
def metB (p : List ByteArray) (m i k : Nat) : Bool := decide (1 ≤ i) && decide (1 ≤ k) && decide (newN (cornL p i k) 4 = m)
def rowPts (p : List ByteArray) (m i k : Nat) : Nat := (List.range k).countP (metB p m i)
/-- how many points have so many rooms -/
def ptsN (p : List ByteArray) (m i : Nat) : Nat := ((List.range i).map fun j => rowPts p m j (wideB p)).sum

theorem rowPts_succ (p : List ByteArray) (m i k : Nat) : rowPts p m i (k + 1) = rowPts p m i k + (if metB p m i k then 1 else 0) := by
  unfold rowPts; rw [List.range_succ, List.countP_append, List.countP_singleton]
theorem rowPts_one (p : List ByteArray) (m i : Nat) : rowPts p m i 1 = 0 := by
  unfold rowPts; simp [List.range_succ, metB]
theorem rowPts_le (p : List ByteArray) (m i k : Nat) : rowPts p m i k ≤ k := by
  unfold rowPts; have := List.countP_le_length (p := metB p m i) (l := List.range k); simpa using this
theorem rowPts_zero (p : List ByteArray) (m k : Nat) : rowPts p m 0 k = 0 := by
  unfold rowPts; rw [List.countP_eq_zero]; intro a _; simp [metB]
theorem ptsN_succ (p : List ByteArray) (m i : Nat) : ptsN p m (i + 1) = ptsN p m i + rowPts p m i (wideB p) := by
  unfold ptsN; rw [List.range_succ, List.map_append, List.sum_append]; simp
theorem ptsN_one (p : List ByteArray) (m : Nat) : ptsN p m 1 = 0 := by
  unfold ptsN; simp [List.range_succ, rowPts_zero]
theorem ptsN_le (p : List ByteArray) (m i : Nat) (hw : wideB p ≤ 6) : ptsN p m i ≤ i * 6 := by
  induction i with
  | zero => simp [ptsN]
  | succ i ih => rw [ptsN_succ, Nat.succ_mul]; have := rowPts_le p m i (wideB p); omega

set_option maxRecDepth 100000 in
set_option maxHeartbeats 4000000 in
theorem l2Points_any (ao : Option Addr) (cap n m : Nat) (p : List ByteArray) (w : World) (hn : p.length = n) (h1 : 1 ≤ p.length) (hl : p.length ≤ 6) (w1 : 1 ≤ wideB p) (hw : wideB p ≤ 6) (he : Even p)
    (_hm : m ≤ 4) (hc : CellsAt w ao (p.map Value.string)) :
    Calls Try.prog 89 #[.slice ao n cap, .int .i64 m] w
      fun e w' => e = .returned (.int .i64 (ptsN p m p.length : Nat)) ∧ Below w.heap.size w w' := by
  subst hn
  have HC := Lib.hid hc
  have HM := Lib.hid (fun (i k : Nat) (w : World) (hi1 : 1 ≤ i) (hi : i < p.length) (hk1 : 1 ≤ k) (hk : k < wideB p) (hc : CellsAt w ao (p.map Value.string)) => l2Meets_any ao cap _ p i k w rfl hl hw he hi1 hi hk1 hk hc)
  obtain ⟨b0, off0, ha0, hc0⟩ := hc.str 0 (by omega)
  subst ha0
  rw [Nat.add_zero] at hc0
  have hs0 : (p.getD 0 ByteArray.empty).size = wideB p := rfl
  have HLE := Lib.hid (fun i => ptsN_le p m i hw)
  have HRL := Lib.hid (fun i k => rowPts_le p m i k)
  have HR1 := Lib.hid (fun i => rowPts_one p m i)
  have HP1 := Lib.hid (ptsN_one p m)
  have HRS := Lib.hid (fun i k => rowPts_succ p m i k)
  have HPS := Lib.hid (fun i => ptsN_succ p m i)
  generalize p.getD 0 ByteArray.empty = s0 at *
  have hp0 : 0 < p.length := h1
  clear hc he
  go_enter Try.func89, Try.ntmps89
  go_wp2
  go_loopw [5, 6, 7] (fun vn vi _ wr => ∃ i : Nat, 1 ≤ i ∧ i ≤ p.length ∧ vi = .int .i64 i ∧ vn = .int .i64 (ptsN p m i : Nat) ∧ Below w.heap.size w wr) (fun _ vi _ _ => p.length - (intOf vi).toNat)
  case atStart => exact ⟨1, Nat.le_refl _, h1, rfl, by rw [HP1.out]; rfl, Below.refl _ _⟩
  case round =>
    obtain ⟨i, hi1, hi, rfl, rfl, hB⟩ := hrel
    have hle := HLE.out i
    by_cases hlt : i < p.length
    · have hlt' : decide ((i : Int) < (p.length : Int)) = true := by rw [decide_eq_true_eq]; omega
      have HS := Lib.hid (HPS.out i)
      generalize ptsN p m i = N at *
      go_wp2
      go_loopw [5, 7] (fun vn vk wm => ∃ k : Nat, 1 ≤ k ∧ k ≤ wideB p ∧ vk = .int .i64 k ∧ vn = .int .i64 (N + rowPts p m i k : Nat) ∧ Below w.heap.size w wm) (fun _ vk _ => wideB p - (intOf vk).toNat)
      case atStart => exact ⟨1, Nat.le_refl _, w1, rfl, by rw [HR1.out]; rfl, hB⟩
      case round =>
        clear hB
        obtain ⟨k, hk1, hk, rfl, rfl, hB⟩ := hrel
        have hc0r := cell_below hc0 hB
        have hrl := HRL.out i k
        by_cases hkl : k < wideB p
        · have hkl' : decide ((k : Int) < (wideB p : Int)) = true := by rw [decide_eq_true_eq]; omega
          have HT := Lib.hid (HRS.out i k)
          have hmet : metB p m i k = decide (newN (cornL p i k) 4 = m) := by unfold metB; rw [decide_eq_true hi1, decide_eq_true hk1]; rfl
          rw [hmet] at HT
          have HX := Lib.hid (HM.out i k)
          have hn4 := newN_le (cornL p i k) 4
          clear hmet
          generalize newN (cornL p i k) 4 = z at *
          generalize hR : rowPts p m i k = R at *
          have HR := Lib.hid hR; clear hR
          by_cases hz : z = m
          · have hzb : ((z : Int) == (m : Int)) = true := by simp [hz]
            have HT' := Lib.hid (show rowPts p m i (k + 1) = R + 1 by rw [HT.out, hz]; simp)
            clear HT
            have HZ := Lib.hid hz; clear hz
            go_wp2_with (go_at_call 121; refine (HX.out _ hi1 hlt hk1 hkl (HC.out.below hB)).mono ?_; rintro e w2 ⟨rfl, hb2⟩)
            go_roundw
            case rel => exact ⟨k + 1, by omega, by omega, by go_num, by rw [HT'.out]; go_num, hB.trans (hb2.mono hB.size)⟩
            case measure => simp [intOf]; omega
          · have hzb : ((z : Int) == (m : Int)) = false := by simp; omega
            have HT' := Lib.hid (show rowPts p m i (k + 1) = R by rw [HT.out]; simp [hz])
            clear HT
            have HZ := Lib.hid hz; clear hz
            go_wp2_with (go_at_call 121; refine (HX.out _ hi1 hlt hk1 hkl (HC.out.below hB)).mono ?_; rintro e w2 ⟨rfl, hb2⟩)
            go_roundw
            case rel => exact ⟨k + 1, by omega, by omega, by go_num, by rw [HT'.out]; go_num, hB.trans (hb2.mono hB.size)⟩
            case measure => simp [intOf]; omega
        · obtain rfl : k = wideB p := by omega
          have hkl' : decide ((wideB p : Int) < (wideB p : Int)) = false := by rw [decide_eq_false_iff_not]; omega
          go_wp2
          go_roundw
          case rel => exact ⟨i + 1, by omega, by omega, by go_num, by rw [HS.out], hB⟩
          case measure => simp [intOf]; omega
    · obtain rfl : i = p.length := by omega
      have hlt' : decide ((p.length : Int) < (p.length : Int)) = false := by rw [decide_eq_false_iff_not]; omega
      go_wp2
      go_ret
      exact ⟨rfl, hB⟩
end Go.Proofs.Ytpgcpmfemcfoaaa

/-
  Crosses and tees: the model's answers. (Walks.)
-/
namespace Go.Proofs.Ytpgcpmfemcfoaaa
open Go.RowKit

/-- how many points of a plan have so many rooms; none of no plan -/
def meetN (p : List ByteArray) (m : Nat) : Nat := if planB p then ptsN p m p.length else 0

set_option maxRecDepth 100000 in
set_option maxHeartbeats 4000000 in
theorem specWallPlain_any (ao : Option Addr) (cap : Nat) (p : List ByteArray) (w : World) (hl : p.length ≤ 1048576) (hs : ∀ s ∈ p, s.size ≤ 1048576) (hc : CellsAt w ao (p.map Value.string)) :
    Calls Try.prog 59 #[.slice ao p.length cap] w fun e w' => e = .returned (.bool (planB p && decide (meetN p 4 = 0))) ∧ Below w.heap.size w w' := by
  unfold meetN
  cases hp : planB p
  · go_enter Try.func59, Try.ntmps59
    go_wp2_with (go_at_call 88; refine (specPlanIn_any _ _ _ _ hl hs hc).mono ?_; rw [hp]; rintro e w1 ⟨rfl, hb1⟩)
    go_ret
    exact ⟨rfl, hb1⟩
  · rw [if_pos rfl]
    have hg := (planP_of hp).grid
    have h1 := hg.h1; have h6 := hg.h6; have w1 := hg.w1; have w6 := hg.w6; have hev := hg.even
    have HEV := Lib.hid hev
    have HPT := Lib.hid (fun (w : World) (hc : CellsAt w ao (p.map Value.string)) => l2Points_any ao cap _ 4 p w rfl h1 h6 w1 w6 HEV.out (by omega) hc)
    clear hg hev
    generalize ptsN p 4 p.length = N at *
    go_enter Try.func59, Try.ntmps59
    go_wp2_with (first
      | (go_at_call 88; refine (specPlanIn_any _ _ _ _ hl hs hc).mono ?_; rw [hp]; rintro e w1 ⟨rfl, hb1⟩; have hc1 := hc.below hb1)
      | (go_at_call 89; refine (HPT.out _ hc1).mono ?_; rintro e w2 ⟨rfl, hb2⟩))
    go_ret
    refine ⟨?_, below_step hb1 hb1.size hb2⟩
    by_cases h0 : N = 0
    · simp [h0]
    · have : ((N : Int) == 0) = false := by simp [h0]
      simp [this, h0]

end Go.Proofs.Ytpgcpmfemcfoaaa
