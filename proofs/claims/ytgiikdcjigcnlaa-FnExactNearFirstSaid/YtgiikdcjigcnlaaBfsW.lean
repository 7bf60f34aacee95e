
/-
  The fewest steps from one room to another: both answers. (Walks.)
-/
import Derived.Test.YtgiikdcjigcnlaaBfsI

namespace Go.Proofs.Ytgiikdcjigcnlaa
open Go.RowKit

theorem adjF_nbF {p : List ByteArray} (h : planB p = true) : adjF (nbF p) (gridR p) = adjF (bsF p) (gridR p) := by
  funext y
  unfold adjF
  exact List.filter_congr fun b _ => by rw [nbF_bes h]; rfl
theorem adjF_mem {p : List ByteArray} {n x y : Nat} : x ∈ adjF (bsF p) n y ↔ x < n ∧ 0 < besN p (y : Int) (x : Int) := by
  unfold adjF bsF; simp
/-- one more than the steps, by rooms -/
def dstP (p : List ByteArray) (a b : Nat) : Nat := (bfsB (adjF (bsF p) (gridR p)) a (gridR p)).D b
theorem dstP_pos {p : List ByteArray} (h : planB p = true) {a b : Nat} (ha : a < gridR p) (hb : b < gridR p) : 0 < dstP p a b :=
  rooms_conn h (S := fun r => 0 < dstP p a r) (fun x y hx hy hxy hp => bfsB_closed ha (fun y => adjF_lt (bsF p) (gridR p) y) hp (adjF_mem.2 ⟨hy, hxy⟩)) ha (by show 0 < (bfsB _ _ _).D a; rw [bfsB_start]; decide) b hb
theorem dstP_le {p : List ByteArray} {a b : Nat} (ha : a < gridR p) : dstP p a b ≤ gridR p := by
  have hI := bfsB_inv (adj := adjF (bsF p) (gridR p)) ha (fun y => adjF_lt (bsF p) (gridR p) y) (gridR p)
  exact Nat.le_trans (hI.le b) hI.few

def wayOk (p : List ByteArray) (a b : Int) : Bool := givenB p a && givenB p b
def wayN (p : List ByteArray) (a b : Int) : Nat := if wayOk p a b then dstP p a.toNat b.toNat - 1 else 0
theorem wayN_le (p : List ByteArray) (a b : Int) : wayN p a b ≤ 9 := by
  unfold wayN
  split
  · rename_i h
    unfold wayOk at h
    rw [Bool.and_eq_true, given_isRm, given_isRm, Bool.and_eq_true, Bool.and_eq_true, isRm_iff, isRm_iff] at h
    have h9 := (planP_of h.1.1).few
    have := dstP_le (p := p) (a := a.toNat) (b := b.toNat) (by omega)
    omega
  · omega

set_option maxRecDepth 100000 in
set_option maxHeartbeats 1000000 in
theorem specNearWay_any (ao : Option Addr) (cap : Nat) (p : List ByteArray) (a b : Int) (w : World) (hl : p.length ≤ 1048576) (hs : ∀ s ∈ p, s.size ≤ 1048576) (hc : CellsAt w ao (p.map Value.string)) :
    Calls Try.prog 8 #[.slice ao p.length cap, .int .i64 a, .int .i64 b] w fun e w' => e = .returned (.tuple #[.int .i64 (wayN p a b : Nat), .bool (wayOk p a b)]) ∧ Below w.heap.size w w' := by
  have HA := Lib.hid (fun w c => l1Given_any ao cap p a w hl hs c)
  have HB := Lib.hid (fun w c => l1Given_any ao cap p b w hl hs c)
  cases ha : givenB p a
  · have h0 : wayOk p a b = false := by unfold wayOk; rw [ha]; rfl
    have h1 : wayN p a b = 0 := by unfold wayN; rw [h0]; rfl
    rw [h0, h1]; rw [ha] at HA
    go_enter Try.func8, Try.ntmps8
    go_wp2_with fail
    refine (HA.out _ hc).mono ?_
    rintro e w1 ⟨rfl, hb1⟩
    go_wp2
    go_ret2
    exact ⟨rfl, hb1⟩
  · cases hb : givenB p b
    · have h0 : wayOk p a b = false := by unfold wayOk; rw [ha, hb]; rfl
      have h1 : wayN p a b = 0 := by unfold wayN; rw [h0]; rfl
      rw [h0, h1]; rw [ha] at HA; rw [hb] at HB
      go_enter Try.func8, Try.ntmps8
      go_wp2_with fail
      refine (HA.out _ hc).mono ?_
      rintro e w1 ⟨rfl, hb1⟩
      have c1 := hc.below hb1
      go_wp2_with fail
      refine (HB.out _ c1).mono ?_
      rintro e w2 ⟨rfl, hb2⟩
      go_wp2
      go_ret2
      exact ⟨rfl, below_step hb1 hb1.size hb2⟩
    · have h0 : wayOk p a b = true := by unfold wayOk; rw [ha, hb]; rfl
      have ha2 := ha; have hb2' := hb
      rw [given_isRm, Bool.and_eq_true, isRm_iff] at ha2 hb2'
      have hp := ha2.1
      obtain ⟨a', rfl⟩ : ∃ a' : Nat, a = (a' : Int) := ⟨a.toNat, by omega⟩
      obtain ⟨b', rfl⟩ : ∃ b' : Nat, b = (b' : Int) := ⟨b.toNat, by omega⟩
      have ha' : a' < gridR p := by omega
      have hb' : b' < gridR p := by omega
      have h1 : wayN p a' b' = dstP p a' b' - 1 := by unfold wayN; rw [h0]; rfl
      have HL := Lib.hid (fun w c => l4Steps_any ao cap p a' w hp ha' hl hs c)
      have HPO := Lib.hid (dstP_pos hp ha' hb')
      have HCE := Lib.hid (outB_at (D := (bfsB (adjF (bsF p) (gridR p)) a' (gridR p)).D) hb')
      change Hid (_ = some (Value.int .i64 (((dstP p a' b' : Nat) : Int) - 1))) at HCE
      rw [h0, h1]; rw [ha] at HA; rw [hb] at HB
      have hbi : (b' : Int) < (gridR p : Int) := by omega
      clear h0 h1 ha2 hb2' ha hb
      generalize dstP p a' b' = d at *
      generalize (outB (bfsB (adjF (bsF p) (gridR p)) a' (gridR p)).D (gridR p)).map (Value.int .i64) = O at *
      generalize gridR p = n at *
      go_enter Try.func8, Try.ntmps8
      go_wp2_with fail
      refine (HA.out _ hc).mono ?_
      rintro e w1 ⟨rfl, hb1⟩
      have c1 := hc.below hb1
      go_wp2_with fail
      refine (HB.out _ c1).mono ?_
      rintro e w2 ⟨rfl, hb2⟩
      have c2 := c1.below hb2
      go_wp2_with fail
      refine (HL.out _ c2).mono ?_
      rintro e w3 ⟨ro, rc, rfl, hrow, hb3⟩
      obtain ⟨B, off, rfl, hcell⟩ := (owns_cells hrow) b' _ HCE.out
      have z2 := below_step hb1 hb1.size hb2
      go_wp2
      go_ret2
      have hd := HPO.out
      exact ⟨by rw [show ((d : Nat) : Int) - 1 = ((d - 1 : Nat) : Int) by omega]; rfl, below_step z2 z2.size hb3⟩

theorem run_index9 {C : Array Value} {k : Nat} {v : Value} (hk : k < 9) (hC : C[k]? = some v) (w : World) : (Instr.index 41 (.agg C) (.int .i64 (k : Int))).run Try.prog w = .ok v w := by
  have h0 : (0 : Int) ≤ (k : Int) ∧ (k : Int) < 9 := by omega
  simp [Instr.index, asIntOf, run_underlying Try.underlying41, go_sem, hC, hk]

set_option maxRecDepth 100000 in
set_option maxHeartbeats 2000000 in
theorem implNearWay_any (ao : Option Addr) (cap : Nat) (p : List ByteArray) (a b : Int) (w : World) (hl : p.length ≤ 1048576) (hs : ∀ s ∈ p, s.size ≤ 1048576) (hc : CellsAt w ao (p.map Value.string)) :
    Calls Try.prog 10 #[.slice ao p.length cap, .int .i64 a, .int .i64 b] w fun e w' => e = .returned (.tuple #[.int .i64 (wayN p a b : Nat), .bool (wayOk p a b)]) ∧ Below w.heap.size w w' := by
  have hlit : CellsAt (w.alloc (.cells #[.int .i64 a, .int .i64 b] 3)) (some ⟨w.heap.size, 0, none⟩) ([a, b].map (Value.int .i64)) := CellsAt.alloc_lit w [.int .i64 a, .int .i64 b] 3
  have hcl := hc.below (below_alloc w (.cells #[.int .i64 a, .int .i64 b] 3))
  have hbl := below_alloc w (.cells #[.int .i64 a, .int .i64 b] 3)
  have hask : askB p [a, b] = wayOk p a b := by
    unfold wayOk
    rw [given_isRm, given_isRm]
    unfold askB
    cases planB p
    · rfl
    · simp only [List.any_cons, List.any_nil]
      cases isRm (gridR p) a <;> cases isRm (gridR p) b <;> rfl
  cases hq : askB p [a, b]
  · have h0 : wayOk p a b = false := by rw [← hask, hq]
    have h1 : wayN p a b = 0 := by unfold wayN; rw [h0]; rfl
    have HR := Lib.hid (readChambers_no ao cap p _ 2 [a, b] _ hl hs hcl (by simp) hlit hq)
    rw [h0, h1]
    clear h0 h1 hask hq hlit hcl
    go_enter Try.func10, Try.ntmps10
    go_wp2_with (go_at_call 24; refine (HR.out).mono ?_; rintro e w1 ⟨rfl, hb1⟩)
    go_ret2
    exact ⟨rfl, hbl.trans (hb1.mono (by simp))⟩
  · have HR := Lib.hid (readChambers_yes ao cap p _ 2 [a, b] _ hl hs hcl (by simp) hlit hq)
    have h0 : wayOk p a b = true := by rw [← hask, hq]
    have hq2 := h0
    unfold wayOk at hq2
    rw [Bool.and_eq_true, given_isRm, given_isRm, Bool.and_eq_true, Bool.and_eq_true, isRm_iff, isRm_iff] at hq2
    obtain ⟨⟨hp, ra⟩, ⟨_, rb⟩⟩ := hq2
    have hn9 := (planP_of hp).few
    obtain ⟨a', rfl⟩ : ∃ a' : Nat, a = (a' : Int) := ⟨a.toNat, by omega⟩
    obtain ⟨b', rfl⟩ : ∃ b' : Nat, b = (b' : Int) := ⟨b.toNat, by omega⟩
    have h1 : wayN p a' b' = dstP p a' b' - 1 := by unfold wayN; rw [h0]; rfl
    have ha' : a' < gridR p := by omega
    have hb' : b' < gridR p := by omega
    have HSA := Lib.hid (fun (W : World) (Q : Nat) so sc (h : ChB W Q (gridR p) (nbF p) (fun k => k < Q) so sc) => by have := steps_any Q (gridR p) a' (nbF p) _ so sc W hn9 ha' h; rw [adjF_nbF hp] at this; exact this)
    have hix := run_index9 (C := nineC fun b => (bfsB (adjF (bsF p) (gridR p)) a' (gridR p)).D b - 1) (k := b') (by omega) (nineC_at (by omega))
    change ∀ w, (Instr.index 41 _ _).run Try.prog w = Result.ok (Value.int .i64 ((dstP p a' b' - 1 : Nat) : Int)) w at hix
    rw [h0, h1]
    unfold Linked at HR
    clear h0 h1 hask hlit hcl hn9
    generalize (nineC fun b => (bfsB (adjF (bsF p) (gridR p)) a' (gridR p)).D b - 1) = N at *
    generalize dstP p a' b' - 1 = d at *
    generalize nbF p = f at *
    generalize gridR p = n at *
    go_enter Try.func10, Try.ntmps10
    go_wp2_with (first
      | (go_at_call 24; refine (HR.out).mono ?_; rintro e w1 ⟨Rb, c, Q, rfl, y1, ⟨so, sc, y2⟩, y3, y4, y5⟩; have hpc := ptr_cell y1 ha'; have HAL2 := Lib.hid (HSA.out w1 Q so sc y2); clear y1 y2)
      | (go_at_call 25; refine (HAL2.out).mono ?_; rintro e w2 ⟨rfl, hb2⟩))
    go_ret2
    exact ⟨rfl, below_step (hbl.trans (y5.mono (by simp))) (by have := y5.size; simp at this; omega) hb2⟩

end Go.Proofs.Ytgiikdcjigcnlaa
