
/-
  The program's depths and numbers of ways. (Walks.)
-/
import Derived.Test.YtcndlfkmmgdpaaaGui4
namespace Go.Proofs.Ytcndlfkmmgdpaaa
open Go.RowKit

theorem ctL_get {K : List (Nat × Nat)} {i : Nat} (hi : i < K.length) : (ctL K)[i * 2]? = some (.int .i64 (((K.getD i (0, 0)).1 : Nat) : Int)) ∧ (ctL K)[i * 2 + 1]? = some (.int .i64 (((K.getD i (0, 0)).2 : Nat) : Int)) := by
  induction K generalizing i with
  | nil => cases hi
  | cons c K ih =>
    have e : ctL (c :: K) = (ctC c).toList ++ ctL K := by simp [ctL]
    rw [e]
    cases i with
    | zero => exact ⟨rfl, rfl⟩
    | succ i =>
      have := ih (i := i) (by simpa using hi)
      rw [List.getElem?_append_right (by simp [ctC]; omega), List.getElem?_append_right (by simp [ctC]; omega), show (i + 1) * 2 - (ctC c).toList.length = i * 2 by simp [ctC]; omega, show (i + 1) * 2 + 1 - (ctC c).toList.length = i * 2 + 1 by simp [ctC]; omega, List.getD_cons_succ]
      exact this
/-- what comes of the first cuts -/
def deepK (g : Nat → Nat → Nat) (n : Nat) (R : Rc) (c : Nat × Nat) : Nat := 1 + max ((R.left c).deep g n) ((R.right c).deep g n)
def leastK (g : Nat → Nat → Nat) (n : Nat) (R : Rc) (i m : Nat) : Nat := (leastO (((R.cuts g).take i).map (deepK g n R))).getD m
theorem leastK_zero (g : Nat → Nat → Nat) (n : Nat) (R : Rc) (m : Nat) : leastK g n R 0 m = m := rfl
theorem leastK_step {g : Nat → Nat → Nat} {n : Nat} {R : Rc} {i m : Nat} (hi : i < (R.cuts g).length) (hd : deepK g n R ((R.cuts g).getD i (0, 0)) ≤ m) : leastK g n R (i + 1) m = min (leastK g n R i m) (deepK g n R ((R.cuts g).getD i (0, 0))) := by
  unfold leastK
  rw [take_succ_getD _ i (0, 0) hi, List.map_append]
  show (leastO (_ ++ [deepK g n R ((R.cuts g).getD i (0, 0))])).getD m = _
  rw [leastO_snoc]
  cases leastO (((R.cuts g).take i).map (deepK g n R)) with
  | none => show deepK g n R _ = min m _; omega
  | some b => rfl
theorem leastK_all {g : Nat → Nat → Nat} {n : Nat} {R : Rc} (h1 : R.one g = false) (hk : 0 < (R.cuts g).length) (m : Nat) : leastK g n R (R.cuts g).length m = R.deep g (n + 1) := by
  rw [Rc.deep_cut h1]
  unfold leastK
  rw [List.take_length]
  obtain ⟨x, e, _⟩ := leastO_le (l := (R.cuts g).map (deepK g n R)) (d := deepK g n R ((R.cuts g).getD 0 (0, 0))) (List.mem_map_of_mem (getD_mem (0, 0) hk))
  show (leastO ((R.cuts g).map (deepK g n R))).getD m = (leastO ((R.cuts g).map (deepK g n R))).getD 0
  rw [e]; rfl
theorem leastK_le {g : Nat → Nat → Nat} {n : Nat} {R : Rc} {i m : Nat} (h : ∀ c ∈ R.cuts g, deepK g n R c ≤ m) : leastK g n R i m ≤ m := by
  unfold leastK
  cases e : leastO (((R.cuts g).take i).map (deepK g n R)) with
  | none => exact Nat.le_refl _
  | some b =>
    show b ≤ m
    cases hl : ((R.cuts g).take i) with
    | nil => rw [hl] at e; cases e
    | cons c l =>
      obtain ⟨x, e2, hx⟩ := leastO_le (l := ((R.cuts g).take i).map (deepK g n R)) (d := deepK g n R c) (List.mem_map_of_mem (by rw [hl]; exact List.mem_cons_self))
      rw [e] at e2
      have := h c (List.mem_of_mem_take (by rw [hl]; exact List.mem_cons_self))
      have e3 : b = x := Option.some.inj e2
      omega
set_option maxRecDepth 100000 in
set_option maxHeartbeats 4000000 in
theorem deepI_any {h wd : Nat} {g : Nat → Nat → Nat} {r : Nat} {bx : Nat → Bx} (B : Boxy h wd g r bx) : ∀ (n : Nat) (R : Rc) (po : Option Addr) (cap : Nat) (w : World), R.Clo g h wd → R.h + R.w ≤ n → Gui g R → CellsAt w po (plL bx (R.rooms g r)) →
    Calls Try.prog 45 #[.slice po (R.rooms g r).length cap] w fun e w' => e = .returned (.int .i64 ((R.deep g n : Nat) : Int)) ∧ Below w.heap.size w w'
  | 0, R, _, _, _, C, hn, _, _ => by have := C.fit.h1; omega
  | n + 1, R, po, cap, w, C, hn, G, hc => by
    have hone := B.one_len C
    have hpos := B.rooms_pos C
    have h9 : (R.rooms g r).length ≤ 9 := Nat.le_trans Rc.rooms_few B.few
    cases h1 : R.one g
    · rw [h1] at hone
      have hlenI : (((R.rooms g r).length : Int) == 1) = false := by
        rw [beq_eq_false_iff_ne]; intro h
        rw [decide_eq_true (show (R.rooms g r).length = 1 by omega)] at hone; cases hone
      have HCU := Lib.hid (cutsR_any B R C po cap w hc)
      have hkl : 0 < (R.cuts g).length := by
        cases G with
        | one _ h => rw [h1] at h; cases h
        | cut _ c a b d _ _ => exact List.length_pos_of_mem (Rc.mem_cuts C.fit B.hh B.hw a b d)
      have HK := Lib.hid (fun i (hi : i < (R.cuts g).length) => by
        have hmem := getD_mem (l := R.cuts g) (0, 0) hi
        have hm := Rc.cuts_mem hmem
        have f1 := Rc.fit_left C.fit hm.2.1; have f2 := Rc.fit_right C.fit hm.2.1
        have gl := G.sub _ (Rc.left_sub hm.2.1) f1.1.h1 f1.1.w1
        have gr := G.sub _ (Rc.right_sub hm.2.1) f2.1.h1 f2.1.w1
        have cl := C.left B.rect hm.2.1 hm.2.2; have cr := C.right B.rect hm.2.1 hm.2.2
        have dl := B.deep_few (n := n) cl (by omega) gl
        have dr := B.deep_few (n := n) cr (by omega) gr
        have ha := B.rooms_add C hm.2.1 hm.2.2
        exact (⟨fun w hc => apartR_any B R C _ hmem po cap w hc, fun po cap w hc => deepI_any B n _ po cap w cl (by omega) gl hc, fun po cap w hc => deepI_any B n _ po cap w cr (by omega) gr hc, by unfold deepK; omega⟩ : _ ∧ _ ∧ _ ∧ deepK g n R ((R.cuts g).getD i (0, 0)) ≤ (R.rooms g r).length))
      have HST := Lib.hid (fun i (hi : i < (R.cuts g).length) => leastK_step hi (HK.out i hi).2.2.2)
      have HAL := Lib.hid (leastK_all (n := n) h1 hkl (R.rooms g r).length)
      have HLE := Lib.hid (fun i => leastK_le (n := n) (i := i) (m := (R.rooms g r).length) (fun c hc => by
        obtain ⟨i, hi, rfl⟩ := List.mem_iff_getElem.1 hc
        have := (HK.out i hi).2.2.2
        rwa [show (R.cuts g).getD i (0, 0) = (R.cuts g)[i] by simp [hi]] at this))
      have HGT := Lib.hid (fun i (hi : i < (R.cuts g).length) => ctL_get hi)
      have HDK := Lib.hid (fun c => show deepK g n R c = 1 + max ((R.left c).deep g n) ((R.right c).deep g n) from rfl)
      have HZ := Lib.hid (leastK_zero g n R (R.rooms g r).length)
      rw [← HAL.out]
      have HC := Lib.hid hc
      clear h1 hone hc hpos hkl G HAL
      generalize leastK g n R = lk at *
      generalize deepK g n R = dk at *
      generalize (R.rooms g r).length = len at *
      have hk10 : (R.cuts g).length ≤ 10 := List.length_filter_le _ linesC
      generalize hK : R.cuts g = K at *
      clear hK
      go_enter Try.func45, Try.ntmps45
      go_wp2_with fail
      refine HCU.out.mono ?_
      rintro e w1 ⟨ro, rc, rfl, hcl, hb1⟩
      have HCL := Lib.hid hcl
      clear hcl HCU
      go_wp2
      go_loopw [3, 16] (fun vd vi wr => ∃ (i : Nat), i ≤ K.length ∧ vi = .int .i64 (i : Int) ∧ vd = .int .i64 ((lk i len : Nat) : Int) ∧ Below w.heap.size w wr ∧ Below w1.heap.size w1 wr) (fun _ vi _ => K.length - (intOf vi).toNat)
      case atStart => exact ⟨0, Nat.zero_le _, rfl, by rw [HZ.out], hb1, Below.refl _ _⟩
      case round =>
        clear hb1
        obtain ⟨i, hi, rfl, rfl, hb, hbq⟩ := hrel
        by_cases hik : i < K.length
        · have hikI : (i : Int) < (K.length : Int) := by omega
          obtain ⟨hAP, hDL, hDR, hdl⟩ := HK.out i hik
          have hst := HST.out i hik
          have hle := HLE.out i
          have hdk := HDK.out (K.getD i (0, 0))
          have hgt := HGT.out i hik
          have HAP := Lib.hid hAP; have HDL := Lib.hid hDL; have HDR := Lib.hid hDR
          clear hAP hDL hDR
          generalize K.getD i (0, 0) = c at *
          obtain ⟨kb, ko, rfl, k0⟩ := (HCL.out.below hbq) _ _ hgt.1
          obtain ⟨kb', ko', e2, k1⟩ := (HCL.out.below hbq) _ _ hgt.2
          cases e2
          rw [← Nat.add_assoc] at k1
          have hb2 := hb.alloc hb.size (.cells #[.int .i64 ((c.1 : Nat) : Int), .int .i64 ((c.2 : Nat) : Int)] 86)
          have hq2 := hbq.alloc hbq.size (.cells #[.int .i64 ((c.1 : Nat) : Int), .int .i64 ((c.2 : Nat) : Int)] 86)
          have hc2 := HC.out.below hb2
          unfold ctC at HAP
          clear hgt
          generalize (R.left c).deep g n = dl at *
          generalize (R.right c).deep g n = dr at *
          generalize dk c = dd at *
          generalize hy : lk i len = y at *
          generalize hz : lk (i + 1) len = z at *
          have HZZ := Lib.hid hz
          clear hy hz
          go_wp2_with fail
          refine (HAP.out _ hc2).mono ?_
          rintro e w3 ⟨ra, ca, rb, cb, rfl, hca, hcb, hb3⟩
          have hb4 := below_step hb2 hb2.size hb3
          have hq4 := below_step hq2 hq2.size hb3
          clear k0 k1 HAP hb2 hq2 hb3 hb hbq hc2
          go_wp2_with fail
          refine (HDL.out _ _ _ hca).mono ?_
          rintro e w5 ⟨rfl, hb5⟩
          have hcb5 := hcb.below hb5
          have hb6 := below_step hb4 hb4.size hb5
          have hq6 := below_step hq4 hq4.size hb5
          clear hb4 hq4 hb5 hca hcb HDL
          go_wp2_with fail
          refine (HDR.out _ _ _ hcb5).mono ?_
          rintro e w7 ⟨rfl, hb7⟩
          have hb8 := below_step hb6 hb6.size hb7
          have hq8 := below_step hq6 hq6.size hb7
          clear hb6 hq6 hb7 hcb5 HDR
          by_cases hlr : dl < dr
          · have hlrI : (dl : Int) < (dr : Int) := by omega
            have HE := Lib.hid (show (if 1 + (dr : Int) < (y : Int) then 1 + (dr : Int) else (y : Int)) = (z : Int) by rw [hst]; split <;> omega)
            have hdr9 : dr ≤ 9 := by omega
            have hy9 : y ≤ 9 := by omega
            clear hdk hst hdl hle
            go_wp2
            go_roundw
            case rel => exact ⟨i + 1, by omega, by go_num, by rw [HZZ.out, ← HE.out], hb8, hq8⟩
            case measure => simp [intOf]; omega
          · have hlrI : ¬ (dl : Int) < (dr : Int) := by omega
            have HE := Lib.hid (show (if 1 + (dl : Int) < (y : Int) then 1 + (dl : Int) else (y : Int)) = (z : Int) by rw [hst]; split <;> omega)
            have hdr9 : dl ≤ 9 := by omega
            have hy9 : y ≤ 9 := by omega
            clear hdk hst hdl hle
            go_wp2
            go_roundw
            case rel => exact ⟨i + 1, by omega, by go_num, by rw [HZZ.out, ← HE.out], hb8, hq8⟩
            case measure => simp [intOf]; omega
        · have hke : i = K.length := by omega
          have hkI : ¬ (i : Int) < (K.length : Int) := by omega
          have HKE := Lib.hid (show lk i len = lk K.length len by rw [hke])
          clear hke
          go_wp2
          go_ret
          exact ⟨by rw [← HKE.out]; rfl, hb⟩
    · rw [h1] at hone
      have hlen : (R.rooms g r).length = 1 := of_decide_eq_true hone.symm
      rw [Rc.deep_one h1, hlen]
      clear h1 hone hlen
      go_enter Try.func45, Try.ntmps45
      go_wp2
      go_ret
      exact ⟨rfl, Below.refl _ _⟩

def sumK (g : Nat → Nat → Nat) (n : Nat) (R : Rc) (i : Nat) : Nat := (((R.cuts g).take i).map fun c => (R.left c).ways g n * (R.right c).ways g n).sum
theorem sumK_zero (g : Nat → Nat → Nat) (n : Nat) (R : Rc) : sumK g n R 0 = 0 := rfl
theorem sumK_step {g : Nat → Nat → Nat} {n : Nat} {R : Rc} {i : Nat} (hi : i < (R.cuts g).length) : sumK g n R (i + 1) = sumK g n R i + (R.left ((R.cuts g).getD i (0, 0))).ways g n * (R.right ((R.cuts g).getD i (0, 0))).ways g n := by
  unfold sumK
  rw [take_succ_getD _ i (0, 0) hi, List.map_append, List.sum_append]
  simp
theorem sumK_all {g : Nat → Nat → Nat} {n : Nat} {R : Rc} (h1 : R.one g = false) : sumK g n R (R.cuts g).length = R.ways g (n + 1) := by
  rw [Rc.ways_cut h1]; unfold sumK; rw [List.take_length]
theorem sumK_le {g : Nat → Nat → Nat} {n : Nat} {R : Rc} {m : Nat} : ∀ {i : Nat}, i ≤ (R.cuts g).length → (∀ i, i < (R.cuts g).length → (R.left ((R.cuts g).getD i (0, 0))).ways g n * (R.right ((R.cuts g).getD i (0, 0))).ways g n ≤ m) → sumK g n R i ≤ i * m
  | 0, _, _ => by rw [sumK_zero]; exact Nat.zero_le _
  | i + 1, hi, h => by
    have h1 := sumK_le (i := i) (by omega) h
    have h2 := h i (by omega)
    rw [sumK_step (by omega), Nat.succ_mul]
    omega
set_option maxRecDepth 100000 in
set_option maxHeartbeats 4000000 in
theorem waysI_any {h wd : Nat} {g : Nat → Nat → Nat} {r : Nat} {bx : Nat → Bx} (B : Boxy h wd g r bx) : ∀ (n : Nat) (R : Rc) (po : Option Addr) (cap : Nat) (w : World), R.Clo g h wd → R.h + R.w ≤ n → CellsAt w po (plL bx (R.rooms g r)) →
    Calls Try.prog 47 #[.slice po (R.rooms g r).length cap] w fun e w' => e = .returned (.int .i64 ((R.ways g n : Nat) : Int)) ∧ Below w.heap.size w w'
  | 0, R, _, _, _, C, hn, _ => by have := C.fit.h1; omega
  | n + 1, R, po, cap, w, C, hn, hc => by
    have hone := B.one_len C
    have hpos := B.rooms_pos C
    have h9 : (R.rooms g r).length ≤ 9 := Nat.le_trans Rc.rooms_few B.few
    cases h1 : R.one g
    · rw [h1] at hone
      have hlenI : (((R.rooms g r).length : Int) == 1) = false := by
        rw [beq_eq_false_iff_ne]; intro h
        rw [decide_eq_true (show (R.rooms g r).length = 1 by omega)] at hone; cases hone
      have HCU := Lib.hid (cutsR_any B R C po cap w hc)
      have HK := Lib.hid (fun i (hi : i < (R.cuts g).length) => by
        have hmem := getD_mem (l := R.cuts g) (0, 0) hi
        have hm := Rc.cuts_mem hmem
        have f1 := Rc.fit_left C.fit hm.2.1; have f2 := Rc.fit_right C.fit hm.2.1
        have cl := C.left B.rect hm.2.1 hm.2.2; have cr := C.right B.rect hm.2.1 hm.2.2
        have dl := B.ways_few (n := n) cl (by omega)
        have dr := B.ways_few (n := n) cr (by omega)
        have p1 := Nat.pow_le_pow_right (n := 10) (by omega) (show ((R.left ((R.cuts g).getD i (0, 0))).rooms g r).length - 1 ≤ 8 by have := Nat.le_trans (Rc.rooms_few (g := g) (r := r) (R := R.left ((R.cuts g).getD i (0, 0)))) B.few; omega)
        have p2 := Nat.pow_le_pow_right (n := 10) (by omega) (show ((R.right ((R.cuts g).getD i (0, 0))).rooms g r).length - 1 ≤ 8 by have := Nat.le_trans (Rc.rooms_few (g := g) (r := r) (R := R.right ((R.cuts g).getD i (0, 0)))) B.few; omega)
        exact (⟨fun w hc => apartR_any B R C _ hmem po cap w hc, fun po cap w hc => waysI_any B n _ po cap w cl (by omega) hc, fun po cap w hc => waysI_any B n _ po cap w cr (by omega) hc, ⟨Nat.le_trans dl p1, Nat.le_trans dr p2⟩⟩ : _ ∧ _ ∧ _ ∧ _ ≤ 10 ^ 8 ∧ _ ≤ 10 ^ 8))
      have HST := Lib.hid (fun i (hi : i < (R.cuts g).length) => sumK_step (g := g) (n := n) (R := R) hi)
      have HAL := Lib.hid (sumK_all (n := n) h1)
      have HLE := Lib.hid (fun i (hi : i ≤ (R.cuts g).length) => sumK_le (n := n) (i := i) (m := 10 ^ 16) (R := R) (g := g) hi (fun i hi => by
        obtain ⟨-, -, -, d1, d2⟩ := HK.out i hi
        exact Nat.le_trans (Nat.mul_le_mul d1 d2) (by decide)))
      have HGT := Lib.hid (fun i (hi : i < (R.cuts g).length) => ctL_get hi)
      have HZ := Lib.hid (sumK_zero g n R)
      rw [← HAL.out]
      have HC := Lib.hid hc
      clear h1 hone hc hpos HAL
      generalize sumK g n R = lk at *
      generalize (R.rooms g r).length = len at *
      have hk10 : (R.cuts g).length ≤ 10 := List.length_filter_le _ linesC
      generalize hK : R.cuts g = K at *
      clear hK
      go_enter Try.func47, Try.ntmps47
      go_wp2_with fail
      refine HCU.out.mono ?_
      rintro e w1 ⟨ro, rc, rfl, hcl, hb1⟩
      have HCL := Lib.hid hcl
      clear hcl HCU
      go_wp2
      go_loopw [3, 14] (fun vd vi wr => ∃ (i : Nat), i ≤ K.length ∧ vi = .int .i64 (i : Int) ∧ vd = .int .i64 ((lk i : Nat) : Int) ∧ Below w.heap.size w wr ∧ Below w1.heap.size w1 wr) (fun _ vi _ => K.length - (intOf vi).toNat)
      case atStart => exact ⟨0, Nat.zero_le _, rfl, by rw [HZ.out]; rfl, hb1, Below.refl _ _⟩
      case round =>
        clear hb1
        obtain ⟨i, hi, rfl, rfl, hb, hbq⟩ := hrel
        by_cases hik : i < K.length
        · have hikI : (i : Int) < (K.length : Int) := by omega
          obtain ⟨hAP, hDL, hDR, hdl, hdr⟩ := HK.out i hik
          have hst := HST.out i hik
          have hle := HLE.out i hi
          have hgt := HGT.out i hik
          have HAP := Lib.hid hAP; have HDL := Lib.hid hDL; have HDR := Lib.hid hDR
          clear hAP hDL hDR
          generalize K.getD i (0, 0) = c at *
          obtain ⟨kb, ko, rfl, k0⟩ := (HCL.out.below hbq) _ _ hgt.1
          obtain ⟨kb', ko', e2, k1⟩ := (HCL.out.below hbq) _ _ hgt.2
          cases e2
          rw [← Nat.add_assoc] at k1
          have hb2 := hb.alloc hb.size (.cells #[.int .i64 ((c.1 : Nat) : Int), .int .i64 ((c.2 : Nat) : Int)] 86)
          have hq2 := hbq.alloc hbq.size (.cells #[.int .i64 ((c.1 : Nat) : Int), .int .i64 ((c.2 : Nat) : Int)] 86)
          have hc2 := HC.out.below hb2
          unfold ctC at HAP
          clear hgt
          generalize (R.left c).ways g n = dl at *
          generalize (R.right c).ways g n = dr at *
          generalize hy : lk i = y at *
          generalize hz : lk (i + 1) = z at *
          have HZZ := Lib.hid hz
          clear hy hz
          go_wp2_with fail
          refine (HAP.out _ hc2).mono ?_
          rintro e w3 ⟨ra, ca, rb, cb, rfl, hca, hcb, hb3⟩
          have hb4 := below_step hb2 hb2.size hb3
          have hq4 := below_step hq2 hq2.size hb3
          clear k0 k1 HAP hb2 hq2 hb3 hb hbq hc2
          go_wp2_with fail
          refine (HDL.out _ _ _ hca).mono ?_
          rintro e w5 ⟨rfl, hb5⟩
          have hcb5 := hcb.below hb5
          have hb6 := below_step hb4 hb4.size hb5
          have hq6 := below_step hq4 hq4.size hb5
          clear hb4 hq4 hb5 hca hcb HDL
          go_wp2_with fail
          refine (HDR.out _ _ _ hcb5).mono ?_
          rintro e w7 ⟨rfl, hb7⟩
          have hb8 := below_step hb6 hb6.size hb7
          have hq8 := below_step hq6 hq6.size hb7
          clear hb6 hq6 hb7 hcb5 HDR
          have hpr : dl * dr ≤ 10 ^ 8 * 10 ^ 8 := Nat.mul_le_mul hdl hdr
          have HPR := Lib.hid (Int.natCast_mul dl dr)
          have w1 : IntKind.i64.wrap ((dl : Int) * (dr : Int)) = ((dl * dr : Nat) : Int) := by rw [← Int.natCast_mul]; exact IntWalk.i64_in _ (by omega)
          have w2 : wrap64 ((dl : Int) * (dr : Int)) = ((dl * dr : Nat) : Int) := by
            rw [← Int.natCast_mul]; generalize dl * dr = dp at *; unfold wrap64; omega
          have HE := Lib.hid (show (y : Int) + ((dl * dr : Nat) : Int) = (z : Int) by rw [hst]; omega)
          generalize dl * dr = dp at *
          clear hst hdl hdr HPR
          go_wp2
          go_roundw
          case rel => exact ⟨i + 1, by omega, by go_num, by rw [HZZ.out, ← HE.out], hb8, hq8⟩
          case measure => simp [intOf]; omega
        · have hke : i = K.length := by omega
          have hkI : ¬ (i : Int) < (K.length : Int) := by omega
          have HKE := Lib.hid (show lk i = lk K.length by rw [hke])
          clear hke
          go_wp2
          go_ret
          exact ⟨by rw [← HKE.out]; rfl, hb⟩
    · rw [h1] at hone
      have hlen : (R.rooms g r).length = 1 := of_decide_eq_true hone.symm
      rw [Rc.ways_one h1, hlen]
      clear h1 hone hlen
      go_enter Try.func47, Try.ntmps47
      go_wp2
      go_ret
      exact ⟨rfl, Below.refl _ _⟩

def deepP (p : List ByteArray) : Nat := if (treeP p).isSome = true then (allR p).deep (gridG p) 12 else 0
def waysP (p : List ByteArray) : Nat := if (treeP p).isSome = true then (allR p).ways (gridG p) 12 else 0
set_option maxRecDepth 100000 in
set_option maxHeartbeats 2000000 in
theorem implCutDeep_any (ao : Option Addr) (cap : Nat) (p : List ByteArray) (w : World) (hl : p.length ≤ 1048576) (hs : ∀ s ∈ p, s.size ≤ 1048576) (hc : CellsAt w ao (p.map Value.string)) :
    Calls Try.prog 21 #[.slice ao p.length cap] w fun e w' => e = .returned (.tuple #[.int .i64 ((deepP p : Nat) : Int), .bool (treeP p).isSome]) ∧ Below w.heap.size w w' := by
  have HR := Lib.hid (readCuttable_any ao cap p w hl hs hc)
  unfold CutRet at HR
  cases hT : (treeP p).isSome
  · rw [show deepP p = 0 by unfold deepP; rw [hT]; rfl]
    rw [hT] at HR
    clear hT
    go_enter Try.func21, Try.ntmps21
    go_wp2_with (go_at_call 34; refine HR.out.mono ?_; rintro e w1 ⟨⟨ro, m, rc, rfl, -⟩, hb1⟩)
    go_ret2
    exact ⟨rfl, hb1⟩
  · have h : planB p = true := by
      cases hp : planB p
      · rw [treeP_no hp] at hT; cases hT
      · rfl
    have hG : Gui (gridG p) (allR p) := by
      rw [treeP_yes h] at hT
      obtain ⟨t, ht⟩ := Option.isSome_iff_exists.1 hT
      exact Gui.of_tree ht
    have HD := Lib.hid (fun po cap w hc => deepI_any (boxy_of (planP_of h)) 12 (allR p) po cap w (allR_clo h) (allR_fit h).2 hG hc)
    rw [allR_rooms h, List.length_range] at HD
    rw [show deepP p = (allR p).deep (gridG p) 12 by unfold deepP; rw [hT]; rfl]
    rw [hT] at HR
    have HP := Lib.hid h
    clear hT h hG
    generalize (allR p).deep (gridG p) 12 = v at *
    go_enter Try.func21, Try.ntmps21
    go_wp2_with fail
    refine HR.out.mono ?_
    rintro e w1 ⟨⟨ro, m, rc, rfl, hcl⟩, hb1⟩
    obtain ⟨rfl, hcl2⟩ := hcl HP.out
    clear hcl
    go_wp2_with (go_at_call 45; refine (HD.out _ _ _ hcl2).mono ?_; rintro e w2 ⟨rfl, hb2⟩)
    go_ret2
    exact ⟨rfl, below_step hb1 hb1.size hb2⟩
set_option maxRecDepth 100000 in
set_option maxHeartbeats 2000000 in
theorem implCutWays_any (ao : Option Addr) (cap : Nat) (p : List ByteArray) (w : World) (hl : p.length ≤ 1048576) (hs : ∀ s ∈ p, s.size ≤ 1048576) (hc : CellsAt w ao (p.map Value.string)) :
    Calls Try.prog 24 #[.slice ao p.length cap] w fun e w' => e = .returned (.tuple #[.int .i64 ((waysP p : Nat) : Int), .bool (treeP p).isSome]) ∧ Below w.heap.size w w' := by
  have HR := Lib.hid (readCuttable_any ao cap p w hl hs hc)
  unfold CutRet at HR
  cases hT : (treeP p).isSome
  · rw [show waysP p = 0 by unfold waysP; rw [hT]; rfl]
    rw [hT] at HR
    clear hT
    go_enter Try.func24, Try.ntmps24
    go_wp2_with (go_at_call 34; refine HR.out.mono ?_; rintro e w1 ⟨⟨ro, m, rc, rfl, -⟩, hb1⟩)
    go_ret2
    exact ⟨rfl, hb1⟩
  · have h : planB p = true := by
      cases hp : planB p
      · rw [treeP_no hp] at hT; cases hT
      · rfl
    have hG : Gui (gridG p) (allR p) := by
      rw [treeP_yes h] at hT
      obtain ⟨t, ht⟩ := Option.isSome_iff_exists.1 hT
      exact Gui.of_tree ht
    have HD := Lib.hid (fun po cap w hc => waysI_any (boxy_of (planP_of h)) 12 (allR p) po cap w (allR_clo h) (allR_fit h).2 hc)
    rw [allR_rooms h, List.length_range] at HD
    rw [show waysP p = (allR p).ways (gridG p) 12 by unfold waysP; rw [hT]; rfl]
    rw [hT] at HR
    have HP := Lib.hid h
    clear hT h hG
    generalize (allR p).ways (gridG p) 12 = v at *
    go_enter Try.func24, Try.ntmps24
    go_wp2_with fail
    refine HR.out.mono ?_
    rintro e w1 ⟨⟨ro, m, rc, rfl, hcl⟩, hb1⟩
    obtain ⟨rfl, hcl2⟩ := hcl HP.out
    clear hcl
    go_wp2_with (go_at_call 47; refine (HD.out _ _ _ hcl2).mono ?_; rintro e w2 ⟨rfl, hb2⟩)
    go_ret2
    exact ⟨rfl, below_step hb1 hb1.size hb2⟩

end Go.Proofs.Ytcndlfkmmgdpaaa
