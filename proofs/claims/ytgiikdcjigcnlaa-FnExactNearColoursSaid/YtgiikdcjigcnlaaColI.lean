
/-
  Whether a room has a neighbour of a colour: the program's answer. (Walks.)
-/
import Derived.Test.YtgiikdcjigcnlaaBfsI
import Derived.Test.YtgiikdcjigcnlaaCol
import Derived.BigQuiet

namespace Go.Proofs.Ytgiikdcjigcnlaa
open Go.RowKit

/-- whether a neighbour has a colour -/
def hasC (C : List Nat) (c x : Nat) : Bool := decide (x < C.length) && (C.getD x 0 == c)

set_option maxRecDepth 100000 in
set_option maxHeartbeats 1000000 in
theorem meets1_any (Q x mx c U V : Nat) (ro : Option Addr) (rc : Nat) (C : List Nat) (w : World) (_hl : C.length ≤ 1000) (hx : w.cell? ⟨Q + x, 0, none⟩ = some (.int .i64 (x : Nat)))
    (hu : w.cell? ⟨U, 0, none⟩ = some (.slice ro C.length rc)) (hv : w.cell? ⟨V, 0, none⟩ = some (.int .i64 (c : Nat))) (hc : CellsAt w ro (intsN C)) :
    Calls Try.prog 66 #[.agg (lnkC1 Q (x, mx)).toArray, .pointer (some ⟨U, 0, none⟩), .pointer (some ⟨V, 0, none⟩)] w
      fun e w' => e = .returned (.bool (hasC C c x)) ∧ Below w.heap.size w w' := by
  have hB := HeldB.new w 64 (lnkC1 Q (x, mx)).toArray
  have c0 : (w.alloc (.cells (lnkC1 Q (x, mx)).toArray 64)).cell? ⟨w.heap.size, 0, none⟩ = some (.pointer (some ⟨Q + x, 0, none⟩)) := (hB.cell 0).trans rfl
  have hbl := below_alloc w (.cells (lnkC1 Q (x, mx)).toArray 64)
  have cx := cell_below hx hbl
  have cu := cell_below hu hbl
  have cv := cell_below hv hbl
  have hc2 := hc.below hbl
  clear hx hu hv hc hB
  by_cases hlt : x < C.length
  · have hlt' : decide ((x : Int) < (C.length : Int)) = true := by rw [decide_eq_true_eq]; omega
    have hr : hasC C c x = (C.getD x 0 == c) := by unfold hasC; rw [decide_eq_true hlt, Bool.true_and]
    rw [hr]
    obtain ⟨g, off, rfl, hcb⟩ := hc2 x _ (intsN_at hlt)
    have hxi : (x : Int) < (C.length : Int) := by omega
    have HEQ := Lib.hid (show ((C.getD x 0 : Nat) == c) = (((C.getD x 0 : Nat) : Int) == (c : Int)) by rw [Bool.eq_iff_iff, beq_iff_eq, beq_iff_eq]; omega)
    rw [HEQ.out]
    clear hc2 hr
    generalize C.getD x 0 = y at *
    go_enter Try.func66, Try.ntmps66
    go_wp2
    go_quiet (fail)
    go_wp2
    go_ret
    exact ⟨rfl, hbl.trans (below_drewN _ _ _)⟩
  · have hlt' : decide ((x : Int) < (C.length : Int)) = false := by rw [decide_eq_false_iff_not]; omega
    have hr : hasC C c x = false := by unfold hasC; rw [decide_eq_false hlt, Bool.false_and]
    rw [hr]
    clear hc2 hr
    go_enter Try.func66, Try.ntmps66
    go_wp2
    go_quiet (fail)
    go_wp2
    go_ret
    exact ⟨rfl, hbl.trans (below_drewN _ _ _)⟩

set_option maxRecDepth 100000 in
set_option maxHeartbeats 2000000 in
theorem indexLnk_any (Q c U V : Nat) (so : Option Addr) (sc : Nat) (L : List (Nat × Nat)) (ro : Option Addr) (rc : Nat) (C : List Nat) (w : World) (hl : C.length ≤ 1000) (hL : L.length ≤ 1000) (hrw : CellsAt w so (lnkC Q L)) (hrm : rms w Q L)
    (hu : w.cell? ⟨U, 0, none⟩ = some (.slice ro C.length rc)) (hv : w.cell? ⟨V, 0, none⟩ = some (.int .i64 (c : Nat))) (hc : CellsAt w ro (intsN C)) :
    Calls Try.prog 74 #[.slice so L.length sc, .func (.func 66) #[] #[.pointer (some ⟨U, 0, none⟩), .pointer (some ⟨V, 0, none⟩)]] w
      fun e w' => (∃ v : Int, e = .returned (.int .i64 v) ∧ decide (0 ≤ v) = L.any fun x => hasC C c x.1) ∧ Below w.heap.size w w' := by
  have HCU := Lib.hid (fun (x mx : Nat) (W : World) (hb : Below w.heap.size w W) (hx : (x, mx) ∈ L) => meets1_any Q x mx c U V ro rc C W hl (cell_below (hrm _ hx) hb) (cell_below hu hb) (cell_below hv hb) (hc.below hb))
  have eg := enters_of Try.func66 (by kernel_rfl) rfl
  have HRW := Lib.hid hrw
  have HAN := Lib.hid (show ∀ i, i < L.length → hasC C c (L.getD i (0, 0)).1 = true → (L.any fun x => hasC C c x.1) = true from fun i hi h => List.any_eq_true.2 ⟨_, getD_mem (0, 0) hi, h⟩)
  have HAF := Lib.hid (show (∀ j, j < L.length → hasC C c (L.getD j (0, 0)).1 = false) → (L.any fun x => hasC C c x.1) = false from fun h => by
    rw [List.any_eq_false]
    intro x hx
    obtain ⟨j, hj, rfl⟩ := List.mem_iff_getElem.1 hx
    have := h j hj
    rw [List.getD_eq_getElem?_getD, List.getElem?_eq_getElem hj, Option.getD_some] at this
    rw [this]; decide)
  have HIN := Lib.hid (fun (i : Nat) (hi : i < L.length) => (getD_mem (0, 0) hi : L.getD i (0, 0) ∈ L))
  generalize (L.any fun x => hasC C c x.1) = R at *
  generalize hasC C c = f at *
  clear hrm hu hv hc hrw
  go_enter Try.func74, Try.ntmps74
  go_wp2
  go_loopw [8] (fun vi wr => ∃ i : Nat, i ≤ L.length ∧ vi = .int .i64 i ∧ Hid (∀ j, j < i → f (L.getD j (0, 0)).1 = false) ∧ Below w.heap.size w wr) (fun vi _ => L.length - (intOf vi).toNat)
  case atStart => exact ⟨0, Nat.zero_le _, rfl, Lib.hid (fun j hj => absurd hj (Nat.not_lt_zero _)), Below.refl _ _⟩
  case round =>
    obtain ⟨i, hi, rfl, HF, hq⟩ := hrel
    by_cases hlt : i < L.length
    · have hlt' : decide ((i : Int) < (L.length : Int)) = true := by rw [decide_eq_true_eq]; omega
      obtain ⟨bb, off, rfl, hrg⟩ := lnk_range (HRW.out.below hq) hlt
      have HY := Lib.hid (HAN.out i hlt)
      have HXI := Lib.hid (HIN.out i hlt)
      have HNX := Lib.hid (show f (L.getD i (0, 0)).1 = false → ∀ j, j < i + 1 → f (L.getD j (0, 0)).1 = false from fun h j hj => by
        rcases Nat.lt_succ_iff_lt_or_eq.1 hj with h' | rfl
        · exact HF.out j h'
        · exact h)
      have HRG := Lib.hid hrg
      clear hrg
      obtain ⟨X, hX⟩ : ∃ X, L.getD i (0, 0) = X := ⟨_, rfl⟩
      rw [hX] at HY HXI HNX HRG
      clear hX
      obtain ⟨x, mx⟩ := X
      simp only at HY HNX
      have HCX := Lib.hid (HCU.out x mx _ hq HXI.out)
      cases hfx : f x
      · have HE := Lib.hid (HNX.out hfx)
        rw [hfx] at HCX
        go_wp2_with (first
          | (refine wpList_load_mid rfl 64 _ rfl bb (off + i * 2) rfl (lnkC1 Q (x, mx)) _ HRG.out Try.underlying64 rfl Try.sizeLnk ?_)
          | (go_at_call 66; refine (HCX.out).mono ?_; rintro e w3 ⟨rfl, hb3⟩))
        go_roundw
        case rel => exact ⟨i + 1, by omega, by go_num, HE, below_step hq hq.size hb3⟩
        case measure => simp [intOf]; omega
      · have HE := Lib.hid (HY.out hfx)
        rw [hfx] at HCX
        go_wp2_with (first
          | (refine wpList_load_mid rfl 64 _ rfl bb (off + i * 2) rfl (lnkC1 Q (x, mx)) _ HRG.out Try.underlying64 rfl Try.sizeLnk ?_)
          | (go_at_call 66; refine (HCX.out).mono ?_; rintro e w3 ⟨rfl, hb3⟩))
        go_ret
        exact ⟨⟨_, rfl, by rw [HE.out]; simp⟩, below_step hq hq.size hb3⟩
    · obtain rfl : i = L.length := by omega
      have hlt' : decide ((L.length : Int) < (L.length : Int)) = false := by rw [decide_eq_false_iff_not]; omega
      go_wp2
      go_ret
      exact ⟨⟨_, rfl, by rw [HAF.out HF.out]; rfl⟩, hq⟩

set_option maxRecDepth 100000 in
set_option maxHeartbeats 1000000 in
theorem containsLnk_any (Q c U V : Nat) (so : Option Addr) (sc : Nat) (L : List (Nat × Nat)) (ro : Option Addr) (rc : Nat) (C : List Nat) (w : World) (hl : C.length ≤ 1000) (hL : L.length ≤ 1000) (hrw : CellsAt w so (lnkC Q L)) (hrm : rms w Q L)
    (hu : w.cell? ⟨U, 0, none⟩ = some (.slice ro C.length rc)) (hv : w.cell? ⟨V, 0, none⟩ = some (.int .i64 (c : Nat))) (hc : CellsAt w ro (intsN C)) :
    Calls Try.prog 65 #[.slice so L.length sc, .func (.func 66) #[] #[.pointer (some ⟨U, 0, none⟩), .pointer (some ⟨V, 0, none⟩)]] w
      fun e w' => e = .returned (.bool (L.any fun x => hasC C c x.1)) ∧ Below w.heap.size w w' := by
  have HI := Lib.hid (indexLnk_any Q c U V so sc L ro rc C w hl hL hrw hrm hu hv hc)
  generalize (L.any fun x => hasC C c x.1) = R at *
  clear hrw hrm hu hv hc
  go_enter Try.func65, Try.ntmps65
  go_wp2_with (go_at_call 74; refine (HI.out).mono ?_; rintro e w1 ⟨⟨v, rfl, hv⟩, hb1⟩)
  go_ret
  exact ⟨by rw [← hv]; rfl, hb1⟩

/-- the neighbours of the next room have a colour just if it does not fit -/
theorem hasC_fit (f : Nat → Nat → Nat) (near : Nat → Nat → Bool) (hn : ∀ a b, near a b = decide (0 < f a b)) {n : Nat} {C : List Nat} (h : C.length ≤ n) (c : Nat) : ((lnk n (f C.length)).any fun x => hasC C c x.1) = !fitC near C c := by
  cases hf : fitC near C c
  · rw [Bool.not_false, List.any_eq_true]
    unfold fitC at hf
    rw [List.all_eq_false] at hf
    obtain ⟨b, hb, h1⟩ := hf
    have hb := List.mem_range.1 hb
    simp only [Bool.not_eq_true', Bool.not_eq_false, Bool.and_eq_true, beq_iff_eq] at h1
    refine ⟨(b, f C.length b), ?_, ?_⟩
    · unfold lnk lnkL
      refine List.mem_map.2 ⟨b, List.mem_filter.2 ⟨List.mem_range.2 (by omega), ?_⟩, rfl⟩
      rw [← hn]; exact h1.2
    · unfold hasC
      rw [decide_eq_true hb, Bool.true_and, beq_iff_eq]; exact h1.1
  · rw [Bool.not_true, List.any_eq_false]
    intro x hx
    obtain ⟨h1, h2, _⟩ := lnk_mem hx
    unfold hasC
    by_cases hb : x.1 < C.length
    · rw [decide_eq_true hb, Bool.true_and, beq_iff_eq]
      exact fitC_iff.1 hf x.1 hb (by rw [hn, decide_eq_true_eq]; exact h2)
    · rw [decide_eq_false hb, Bool.false_and]; decide

set_option maxRecDepth 100000 in
set_option maxHeartbeats 1000000 in
theorem meets_any (Q n c : Nat) (f : Nat → Nat → Nat) (near : Nat → Nat → Bool) (hn : ∀ a b, near a b = decide (0 < f a b)) (K : Nat → Prop) (so : Nat → Option Addr) (sc : Nat → Nat) (ro : Option Addr) (rc : Nat) (C : List Nat) (w : World) (h9 : n ≤ 9) (hC : C.length < n) (h : ChB w Q n f K so sc) (hc : CellsAt w ro (intsN C)) :
    Calls Try.prog 55 #[.pointer (some ⟨Q + C.length, 0, none⟩), .int .i64 c, .slice ro C.length rc] w
      fun e w' => e = .returned (.bool (!fitC near C c)) ∧ Below w.heap.size w w' := by
  have h1 := below_alloc w (.cells #[.int .i64 (c : Nat)] 3)
  have h2 := below_alloc (w.alloc (.cells #[.int .i64 (c : Nat)] 3)) (.cells #[.slice ro C.length rc] 31)
  have hb : Below w.heap.size w ((w.alloc (.cells #[.int .i64 (c : Nat)] 3)).alloc (.cells #[.slice ro C.length rc] 31)) := h1.trans (h2.mono (by simp))
  have hv := (HeldB.new w 3 #[.int .i64 (c : Nat)]).alloc (.cells #[.slice ro C.length rc] 31)
  have hu := HeldB.new (w.alloc (.cells #[.int .i64 (c : Nat)] 3)) 31 #[.slice ro C.length rc]
  rw [World.size_alloc] at hu
  have hcl : ((w.alloc (.cells #[.int .i64 (c : Nat)] 3)).alloc (.cells #[.slice ro C.length rc] 31)).cell? ⟨Q + C.length, 1, none⟩ = some (.slice (so C.length) (lnk n (f C.length)).length (sc C.length)) := ((h.below hb).1 C.length hC).cell 1
  have hln := lnk_len n (f C.length)
  have HCO := Lib.hid (containsLnk_any Q c (w.heap.size + 1) w.heap.size (so C.length) (sc C.length) (lnk n (f C.length)) ro rc C _ (by omega) (by omega) (ownsK_cells ((h.below hb).2.1 C.length hC)) ((h.below hb).rms C.length) (hu.cell 0) (hv.cell 0) (hc.below hb))
  rw [hasC_fit f near hn (by omega)] at HCO
  clear h1 h2 hv hu h hc
  have hsz : ((w.alloc (.cells #[.int .i64 (c : Nat)] 3)).alloc (.cells #[.slice ro C.length rc] 31)).heap.size = w.heap.size + 1 + 1 := by simp
  generalize (lnk n (f C.length)).length = l at *
  generalize so C.length = s at *
  generalize sc C.length = t at *
  generalize fitC near C c = R at *
  go_enter Try.func55, Try.ntmps55
  go_wp2_with (go_at_call 65; refine (HCO.out).mono ?_; rintro e w1 ⟨rfl, hb1⟩)
  go_ret
  exact ⟨rfl, hb.trans (hb1.mono (by omega))⟩
end Go.Proofs.Ytgiikdcjigcnlaa
