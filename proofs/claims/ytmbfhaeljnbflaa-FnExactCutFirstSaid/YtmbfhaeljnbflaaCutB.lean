/-
  How many cuts there are, and the first one: the model's answers. (Walks.)
-/
import Derived.Test.YtmbfhaeljnbflaaCutA
import Derived.Test.YtmbfhaeljnbflaaLongB
namespace Go.Proofs.Ytmbfhaeljnbflaa
open Go.RowKit

def isCutP (p : List ByteArray) (x : Wl) : Bool := cutB (planH p) (planW p) x
def cntC (f : Wl → Bool) (L : List Wl) : Nat := (L.filter f).length
theorem cntC_snoc (f : Wl → Bool) (L : List Wl) (x : Wl) : cntC f (L ++ [x]) = cntC f L + if f x = true then 1 else 0 := by
  unfold cntC
  rw [List.filter_append, List.length_append]
  by_cases h : f x = true <;> simp [h]
theorem cntC_le (f : Wl → Bool) (L : List Wl) : cntC f L ≤ L.length := List.length_filter_le _ _
theorem cntC_yes {f : Wl → Bool} {L : List Wl} {i : Nat} (hi : i < L.length) (h : f (L.getD i zeroWl) = true) : cntC f (L.take (i + 1)) = cntC f (L.take i) + 1 := by
  rw [take_snoc L i zeroWl hi, cntC_snoc, if_pos h]
theorem cntC_no {f : Wl → Bool} {L : List Wl} {i : Nat} (hi : i < L.length) (h : f (L.getD i zeroWl) = false) : cntC f (L.take (i + 1)) = cntC f (L.take i) := by
  rw [take_snoc L i zeroWl hi, cntC_snoc, if_neg (by rw [h]; decide)]; rfl
def cutN (p : List ByteArray) : Nat := cntC (isCutP p) (wallsP p)
def cutOk (p : List ByteArray) : Bool := (wallsP p).any (isCutP p)
def cutI (p : List ByteArray) : Nat := if cutOk p = true then (wallsP p).findIdx (isCutP p) else 0
theorem first_yes {f : Wl → Bool} {L : List Wl} {i : Nat} (hi : i < L.length) (h : f (L.getD i zeroWl) = true) (hno : ∀ j, j < i → f (L.getD j zeroWl) = false) : L.any f = true ∧ L.findIdx f = i := by
  have hg : ∀ j (hj : j < L.length), L.getD j zeroWl = L[j] := fun j hj => by simp [hj]
  refine ⟨List.any_eq_true.2 ⟨L.getD i zeroWl, getD_mem zeroWl hi, h⟩, ?_⟩
  rw [List.findIdx_eq hi]
  refine ⟨by rw [← hg i hi]; exact h, fun j hj => ?_⟩
  have := hno j hj
  rw [hg j (by omega)] at this
  simp [this]
theorem first_no {f : Wl → Bool} {L : List Wl} (hno : ∀ j, j < L.length → f (L.getD j zeroWl) = false) : L.any f = false := by
  rw [List.any_eq_false]
  intro x hx
  obtain ⟨j, hj, rfl⟩ := List.mem_iff_getElem.1 hx
  have := hno j hj
  simp [hj] at this
  simp [this]
theorem cut_no {p : List ByteArray} (h : planB p = false) : cutN p = 0 ∧ cutOk p = false ∧ cutI p = 0 := by
  have : cutOk p = false := by unfold cutOk; rw [wallsP_no h]; rfl
  refine ⟨by unfold cutN; rw [wallsP_no h]; rfl, this, by unfold cutI; rw [this]; rfl⟩

set_option maxRecDepth 100000 in
set_option maxHeartbeats 2000000 in
theorem specCutMany_any (ao : Option Addr) (cap : Nat) (p : List ByteArray) (w : World) (hl : p.length ≤ 1048576) (hs : ∀ s ∈ p, s.size ≤ 1048576) (hc : CellsAt w ao (p.map Value.string)) :
    Calls Try.prog 27 #[.slice ao p.length cap] w fun e w' => e = .returned (.tuple #[.int .i64 (cutN p : Nat), .bool (planB p)]) ∧ Below w.heap.size w w' := by
  cases hp : planB p
  · rw [(cut_no hp).1]
    go_enter Try.func27, Try.ntmps27
    go_wp2_with (go_at_call 43; refine (specPlanIn_any _ _ _ _ hl hs hc).mono ?_; rw [hp]; rintro e w1 ⟨rfl, hb1⟩)
    go_ret2
    exact ⟨rfl, hb1⟩
  · have HW := Lib.hid (fun (w : World) (hc : CellsAt w ao (p.map Value.string)) => l2Walls_any ao cap p w hp hc)
    have hWL := wallsL_walls hp
    rw [hWL] at HW
    have hle := wallsP_len p
    have HWY := Lib.hid (show ∀ x ∈ wallsP p, x.way < 2 from fun x hx => (wallsG_mem hx).1)
    have hpl : 1 ≤ p.length := (planP_of hp).grid.h1
    have HLO := Lib.hid (fun (g c : Nat) (x : Wl) (w : World) (hx : x.way < 2) (hc : CellsAt w ao (p.map Value.string)) (hr : CellsAt w (some ⟨g, 0, none⟩) ((wlN x).map (Value.int .i64))) => l3Long_any ao cap p g c x w hpl hx hc hr)
    have hcut : cutB p.length (wideB p) = isCutP p := by funext x; unfold isCutP planH planW; rw [if_pos hp, if_pos hp]
    have HLO2 := Lib.hid (show ∀ (g c : Nat) (x : Wl) (w : World), x.way < 2 → CellsAt w ao (p.map Value.string) → CellsAt w (some ⟨g, 0, none⟩) ((wlN x).map (Value.int .i64)) →
      Calls Try.prog 51 #[.slice ao p.length cap, .slice (some ⟨g, 0, none⟩) 4 c] w fun e w' => e = .returned (.bool (isCutP p x)) ∧ Below w.heap.size w w' from fun g c x w hx hc hr => by
        have := HLO.out g c x w hx hc hr; rwa [hcut] at this)
    clear HLO hcut hpl
    unfold cutN
    generalize isCutP p = f at *
    generalize wallsP p = L at *
    have hLL : (L.map wlN).length = L.length := List.length_map _
    have HLL := Lib.hid hLL
    rw [hLL] at HW
    clear hLL hWL
    have HC := Lib.hid hc
    go_enter Try.func27, Try.ntmps27
    go_wp2_with (first
      | (go_at_call 43; refine (specPlanIn_any _ _ _ _ hl hs hc).mono ?_; rw [hp]; rintro e w1 ⟨rfl, hb1⟩; have hc1 := hc.below hb1)
      | (go_at_call 50; refine (HW.out _ hc1).mono ?_; rintro e w2 ⟨ro2, rc2, rfl, hrow2, hb2⟩))
    obtain ⟨us, hus⟩ := hrow2
    have hB2 := below_step hb1 hb1.size hb2
    have hs12 := Nat.le_trans hb1.size hb2.size
    clear hb1 hb2 hc hc1
    obtain ⟨W2, hW2⟩ : ∃ W2, W2 = w2 := ⟨_, rfl⟩
    have HUS := Lib.hid hus
    clear hus
    go_loopw [5, 6] (fun va vi wr => ∃ i : Nat, i ≤ L.length ∧ vi = .int .i64 i ∧ va = .int .i64 (cntC f (L.take i) : Nat) ∧ Below w2.heap.size w2 wr) (fun _ vi _ => L.length - (intOf vi).toNat)
    case atStart => exact ⟨0, Nat.zero_le _, rfl, rfl, Below.refl _ _⟩
    case round =>
      obtain ⟨i, hi, rfl, rfl, hq⟩ := hrel
      have hus := HUS.out.below hq
      have hcr := (HC.out.below hB2).below hq
      have hct : cntC f (L.take i) ≤ 72 := Nat.le_trans (cntC_le f _) (by rw [List.length_take]; omega)
      by_cases hlt : i < L.length
      · have hlt' : decide ((i : Int) < (L.length : Int)) = true := by rw [decide_eq_true_eq]; omega
        have hl' : i < (L.map wlN).length := by rw [HLL.out]; exact hlt
        obtain ⟨bb, off, g, c, rfl, k0, hcl, _⟩ := hus.row hl' (by rw [wlN_getD hlt]; exact Nat.succ_pos _)
        rw [wlN_getD hlt] at k0 hcl
        have hwy := HWY.out _ (getD_mem zeroWl hlt)
        have k0' : wr.cell? ⟨bb, off + i, none⟩ = some (.slice (some ⟨g, 0, none⟩) 4 c) := k0
        have HY := Lib.hid (@cntC_yes f L i hlt)
        have HN := Lib.hid (@cntC_no f L i hlt)
        generalize L.getD i zeroWl = X at *
        generalize hcN : cntC f (L.take i) = n at *
        have HCN := Lib.hid hcN; clear hcN k0
        cases hf : f X
        · have HE := Lib.hid (HN.out hf)
          go_wp2_with (go_at_call 51; refine (HLO2.out _ _ X _ hwy hcr hcl).mono ?_; rw [hf]; rintro e w3 ⟨rfl, hb3⟩)
          go_roundw
          case rel => exact ⟨i + 1, by omega, by go_num, by rw [HE.out], below_step hq hq.size hb3⟩
          case measure => simp [intOf]; omega
        · have HE := Lib.hid (HY.out hf)
          go_wp2_with (go_at_call 51; refine (HLO2.out _ _ X _ hwy hcr hcl).mono ?_; rw [hf]; rintro e w3 ⟨rfl, hb3⟩)
          go_roundw
          case rel => exact ⟨i + 1, by omega, by go_num, by rw [HE.out]; go_num, below_step hq hq.size hb3⟩
          case measure => simp [intOf]; omega
      · obtain rfl : i = L.length := by omega
        have hlt' : decide ((L.length : Int) < (L.length : Int)) = false := by rw [decide_eq_false_iff_not]; omega
        rw [List.take_length] at *
        go_wp2
        go_ret2
        exact ⟨rfl, below_step hB2 hB2.size hq⟩

set_option maxRecDepth 100000 in
set_option maxHeartbeats 2000000 in
theorem specCutFirst_any (ao : Option Addr) (cap : Nat) (p : List ByteArray) (w : World) (hl : p.length ≤ 1048576) (hs : ∀ s ∈ p, s.size ≤ 1048576) (hc : CellsAt w ao (p.map Value.string)) :
    Calls Try.prog 25 #[.slice ao p.length cap] w fun e w' => e = .returned (.tuple #[.int .i64 (cutI p : Nat), .bool (cutOk p)]) ∧ Below w.heap.size w w' := by
  cases hp : planB p
  · rw [(cut_no hp).2.1, (cut_no hp).2.2]
    go_enter Try.func25, Try.ntmps25
    go_wp2_with (go_at_call 43; refine (specPlanIn_any _ _ _ _ hl hs hc).mono ?_; rw [hp]; rintro e w1 ⟨rfl, hb1⟩)
    go_ret2
    exact ⟨rfl, hb1⟩
  · have HW := Lib.hid (fun (w : World) (hc : CellsAt w ao (p.map Value.string)) => l2Walls_any ao cap p w hp hc)
    have hWL := wallsL_walls hp
    rw [hWL] at HW
    have hle := wallsP_len p
    have HWY := Lib.hid (show ∀ x ∈ wallsP p, x.way < 2 from fun x hx => (wallsG_mem hx).1)
    have hpl : 1 ≤ p.length := (planP_of hp).grid.h1
    have HLO := Lib.hid (fun (g c : Nat) (x : Wl) (w : World) (hx : x.way < 2) (hc : CellsAt w ao (p.map Value.string)) (hr : CellsAt w (some ⟨g, 0, none⟩) ((wlN x).map (Value.int .i64))) => l3Long_any ao cap p g c x w hpl hx hc hr)
    have hcut : cutB p.length (wideB p) = isCutP p := by funext x; unfold isCutP planH planW; rw [if_pos hp, if_pos hp]
    have HLO2 := Lib.hid (show ∀ (g c : Nat) (x : Wl) (w : World), x.way < 2 → CellsAt w ao (p.map Value.string) → CellsAt w (some ⟨g, 0, none⟩) ((wlN x).map (Value.int .i64)) →
      Calls Try.prog 51 #[.slice ao p.length cap, .slice (some ⟨g, 0, none⟩) 4 c] w fun e w' => e = .returned (.bool (isCutP p x)) ∧ Below w.heap.size w w' from fun g c x w hx hc hr => by
        have := HLO.out g c x w hx hc hr; rwa [hcut] at this)
    clear HLO hcut hpl
    unfold cutI cutOk
    generalize isCutP p = f at *
    generalize wallsP p = L at *
    have HFN := Lib.hid (@first_no f L)
    have HFY := Lib.hid (show ∀ i, i < L.length → f (L.getD i zeroWl) = true → (∀ j, j < i → f (L.getD j zeroWl) = false) → L.any f = true ∧ L.findIdx f = i from fun i => first_yes)
    have hLL : (L.map wlN).length = L.length := List.length_map _
    have HLL := Lib.hid hLL
    rw [hLL] at HW
    clear hLL hWL
    have HC := Lib.hid hc
    generalize hany : L.any f = an at *
    generalize hidx : L.findIdx f = ix at *
    have HANY := Lib.hid hany; have HIDX := Lib.hid hidx
    clear hany hidx
    obtain ⟨R, hR⟩ : ∃ R, (if an = true then ix else 0) = R := ⟨_, rfl⟩
    rw [hR]
    have HR := Lib.hid hR
    clear hR
    go_enter Try.func25, Try.ntmps25
    go_wp2_with (first
      | (go_at_call 43; refine (specPlanIn_any _ _ _ _ hl hs hc).mono ?_; rw [hp]; rintro e w1 ⟨rfl, hb1⟩; have hc1 := hc.below hb1)
      | (go_at_call 50; refine (HW.out _ hc1).mono ?_; rintro e w2 ⟨ro2, rc2, rfl, hrow2, hb2⟩))
    obtain ⟨us, hus⟩ := hrow2
    have hB2 := below_step hb1 hb1.size hb2
    have hs12 := Nat.le_trans hb1.size hb2.size
    clear hb1 hb2 hc hc1
    obtain ⟨W2, hW2⟩ : ∃ W2, W2 = w2 := ⟨_, rfl⟩
    have HUS := Lib.hid hus
    clear hus
    go_loopw [5] (fun vi wr => ∃ i : Nat, i ≤ L.length ∧ vi = .int .i64 i ∧ Hid (∀ j, j < i → f (L.getD j zeroWl) = false) ∧ Below w2.heap.size w2 wr) (fun vi _ => L.length - (intOf vi).toNat)
    case atStart => exact ⟨0, Nat.zero_le _, rfl, Lib.hid (fun j hj => absurd hj (Nat.not_lt_zero _)), Below.refl _ _⟩
    case round =>
      obtain ⟨i, hi, rfl, HF, hq⟩ := hrel
      have hus := HUS.out.below hq
      have hcr := (HC.out.below hB2).below hq
      by_cases hlt : i < L.length
      · have hlt' : decide ((i : Int) < (L.length : Int)) = true := by rw [decide_eq_true_eq]; omega
        have hl' : i < (L.map wlN).length := by rw [HLL.out]; exact hlt
        obtain ⟨bb, off, g, c, rfl, k0, hcl, _⟩ := hus.row hl' (by rw [wlN_getD hlt]; exact Nat.succ_pos _)
        rw [wlN_getD hlt] at k0 hcl
        have hwy := HWY.out _ (getD_mem zeroWl hlt)
        have k0' : wr.cell? ⟨bb, off + i, none⟩ = some (.slice (some ⟨g, 0, none⟩) 4 c) := k0
        have HY := Lib.hid (HFY.out i hlt)
        have HNX := Lib.hid (show f (L.getD i zeroWl) = false → ∀ j, j < i + 1 → f (L.getD j zeroWl) = false from fun h j hj => by
          rcases Nat.lt_succ_iff_lt_or_eq.1 hj with h' | rfl
          · exact HF.out j h'
          · exact h)
        generalize L.getD i zeroWl = X at *
        clear k0
        cases hf : f X
        · have HE := Lib.hid (HNX.out hf)
          go_wp2_with (go_at_call 51; refine (HLO2.out _ _ X _ hwy hcr hcl).mono ?_; rw [hf]; rintro e w3 ⟨rfl, hb3⟩)
          go_roundw
          case rel => exact ⟨i + 1, by omega, by go_num, HE, below_step hq hq.size hb3⟩
          case measure => simp [intOf]; omega
        · have HE := Lib.hid (HY.out hf HF.out)
          go_wp2_with (go_at_call 51; refine (HLO2.out _ _ X _ hwy hcr hcl).mono ?_; rw [hf]; rintro e w3 ⟨rfl, hb3⟩)
          go_ret2
          refine ⟨?_, below_step hB2 hB2.size (below_step hq hq.size hb3)⟩
          obtain ⟨e1, e2⟩ := HE.out
          rw [← HR.out, e1, if_pos rfl, e2]; rfl
      · obtain rfl : i = L.length := by omega
        have hlt' : decide ((L.length : Int) < (L.length : Int)) = false := by rw [decide_eq_false_iff_not]; omega
        go_wp2
        go_ret2
        refine ⟨?_, below_step hB2 hB2.size hq⟩
        rw [← HR.out, HFN.out HF.out, if_neg (by decide)]; rfl

end Go.Proofs.Ytmbfhaeljnbflaa
