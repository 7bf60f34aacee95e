
/-
  Along how many cells two rooms lie beside each other, and whether they are neighbours: the program's answers. (Walks.)
-/
import Derived.Test.YtjcbfijliacicaaChamR
namespace Go.Proofs.Ytjcbfijliacicaa
open Go.RowKit

theorem given_isRm (p : List ByteArray) (a : Int) : givenB p a = (planB p && isRm (gridR p) a) := by
  unfold givenB
  cases hp : planB p
  · rfl
  · have := (planP_of hp).rooms
    rw [this, Bool.true_and, Bool.true_and, Bool.eq_iff_iff, isRm_iff]
    unfold l6B
    rw [decide_eq_true_eq]; omega

set_option maxRecDepth 100000 in
set_option maxHeartbeats 1000000 in
theorem along_any (Q n a b : Nat) (f : Nat → Nat → Nat) (K : Nat → Prop) (so : Nat → Option Addr) (sc : Nat → Nat) (w : World) (hn : n ≤ 9) (ha : a < n) (hb : b < n) (h : ChB w Q n f K so sc) :
    Calls Try.prog 53 #[.pointer (some ⟨Q + a, 0, none⟩), .int .i64 b] w
      fun e w' => e = .returned (.int .i64 (f a b : Nat)) ∧ Below w.heap.size w w' := by
  have HFI := Lib.hid (find_any Q n a b f K so sc w hn ha hb h)
  by_cases hpos : 0 < f a b
  · obtain ⟨h1, h2⟩ := lnk_there hb (f a) hpos
    rw [decide_eq_true hpos] at HFI
    have hrow0 := h.2.1 a ha
    obtain ⟨g, hso, hg1, hg2⟩ := row_some hrow0 (by omega)
    have HCE := Lib.hid (fun (w1 : World) (hw : Below w.heap.size w w1) => by
      have hA := (h.below hw)
      have hr := hA.2.1 a ha
      rw [hso] at hr
      have e1 : w1.cell? ⟨g, lnkAt b (f a) * 2 + 1, none⟩ = some (.int .i64 (f a b : Nat)) := by
        rw [hr.cellAt _ (by omega), lnkC_at Q _ _ 1 h1 (by omega), h2]; rfl
      have e3 : w1.cell? ⟨Q + a, 1, none⟩ = some (.slice (some ⟨g, 0, none⟩) (lnk n (f a)).length (sc a)) := by rw [(hA.1 a ha).cell 1, ← hso]; rfl
      exact And.intro e1 e3)
    clear h hrow0 h2 hso
    generalize (lnk n (f a)).length = len at *
    generalize lnkAt b (f a) = i at *
    generalize f a b = m at *
    generalize sc a = ca at *
    have hil : (i : Int) < (len : Int) := by omega
    go_enter Try.func53, Try.ntmps53
    go_wp2_with (go_at_call 82; refine (HFI.out).mono ?_; rintro e w1 ⟨rfl, hb1⟩; obtain ⟨e1, e3⟩ := HCE.out w1 hb1)
    go_ret
    exact ⟨rfl, hb1⟩
  · have hz : f a b = 0 := by omega
    rw [decide_eq_false hpos] at HFI
    rw [hz]
    clear h hz hpos
    generalize lnkAt b (f a) = i at *
    go_enter Try.func53, Try.ntmps53
    go_wp2_with (go_at_call 82; refine (HFI.out).mono ?_; rintro e w1 ⟨rfl, hb1⟩)
    go_ret
    exact ⟨rfl, hb1⟩

set_option maxRecDepth 100000 in
set_option maxHeartbeats 2000000 in
theorem implNearLength_any (ao : Option Addr) (cap : Nat) (p : List ByteArray) (a b : Int) (w : World) (hl : p.length ≤ 1048576) (hs : ∀ s ∈ p, s.size ≤ 1048576) (hc : CellsAt w ao (p.map Value.string)) :
    Calls Try.prog 19 #[.slice ao p.length cap, .int .i64 a, .int .i64 b] w fun e w' => e = .returned (.tuple #[.int .i64 (nlenN p a b : Nat), .bool (nlenOk p a b)]) ∧ Below w.heap.size w w' := by
  have hlit : CellsAt (w.alloc (.cells #[.int .i64 a, .int .i64 b] 3)) (some ⟨w.heap.size, 0, none⟩) ([a, b].map (Value.int .i64)) := CellsAt.alloc_lit w [.int .i64 a, .int .i64 b] 3
  have hcl := hc.below (below_alloc w (.cells #[.int .i64 a, .int .i64 b] 3))
  have hbl := below_alloc w (.cells #[.int .i64 a, .int .i64 b] 3)
  have hask : askB p [a, b] = (givenB p a && givenB p b) := by
    rw [given_isRm, given_isRm]
    unfold askB
    cases planB p
    · rfl
    · simp only [List.any_cons, List.any_nil]
      cases isRm (gridR p) a <;> cases isRm (gridR p) b <;> rfl
  cases hq : askB p [a, b]
  · have h0 : nlenOk p a b = false := by
      unfold nlenOk; rw [← Bool.and_assoc, ← hask, hq]; rfl
    have h1 : nlenN p a b = 0 := by unfold nlenN; rw [h0]; rfl
    have HR := Lib.hid (readChambers_no ao cap p _ 2 [a, b] _ hl hs hcl (by simp) hlit hq)
    rw [h0, h1]
    clear h0 h1 hask hq hlit hcl
    go_enter Try.func19, Try.ntmps19
    go_wp2_with (go_at_call 52; refine (HR.out).mono ?_; rintro e w1 ⟨rfl, hb1⟩)
    go_ret2
    exact ⟨rfl, hbl.trans (hb1.mono (by simp))⟩
  · have HR := Lib.hid (readChambers_yes ao cap p _ 2 [a, b] _ hl hs hcl (by simp) hlit hq)
    rw [hask, Bool.and_eq_true] at hq
    obtain ⟨qa, qb⟩ := hq
    have hp : planB p = true := by rw [given_isRm, Bool.and_eq_true] at qa; exact qa.1
    have ra := qa; have rb := qb
    rw [given_isRm, hp, Bool.true_and, isRm_iff] at ra rb
    have hn9 := (planP_of hp).few
    cases he : (a == b)
    · have hne : a ≠ b := by rw [beq_eq_false_iff_ne] at he; exact he
      have h0 : nlenOk p a b = true := by unfold nlenOk; rw [qa, qb, he]; rfl
      obtain ⟨a', rfl⟩ : ∃ a' : Nat, a = (a' : Int) := ⟨a.toNat, by omega⟩
      obtain ⟨b', rfl⟩ : ∃ b' : Nat, b = (b' : Int) := ⟨b.toNat, by omega⟩
      have h1 : nlenN p a' b' = nbF p a' b' := by unfold nlenN; rw [h0, nbF_eq hp (by omega)]; rfl
      rw [h0, h1]
      have ha' : a' < gridR p := by omega
      have hb' : b' < gridR p := by omega
      have HAL := Lib.hid (fun (W : World) (Q : Nat) so sc (h : ChB W Q (gridR p) (nbF p) (fun k => k < Q) so sc) => along_any Q (gridR p) a' b' (nbF p) _ so sc W hn9 ha' hb' h)
      unfold Linked at HR
      clear h0 h1 hask hlit hcl hn9 qa qb
      generalize nbF p = f at *
      generalize gridR p = n at *
      go_enter Try.func19, Try.ntmps19
      go_wp2_with (first
        | (go_at_call 52; refine (HR.out).mono ?_; rintro e w1 ⟨Rb, c, Q, rfl, y1, ⟨so, sc, y2⟩, y3, y4, y5⟩; have hpc := ptr_cell y1 ha'; have HAL2 := Lib.hid (HAL.out w1 Q so sc y2); clear y1 y2)
        | (go_at_call 53; refine (HAL2.out).mono ?_; rintro e w2 ⟨rfl, hb2⟩))
      go_ret2
      exact ⟨rfl, below_step (hbl.trans (y5.mono (by simp))) (by have := y5.size; simp at this; omega) hb2⟩
    · have h0 : nlenOk p a b = false := by unfold nlenOk; rw [qa, qb, he]; rfl
      have h1 : nlenN p a b = 0 := by unfold nlenN; rw [h0]; rfl
      rw [h0, h1]
      unfold Linked at HR
      clear h0 h1 hask hlit hcl hn9 qa qb
      go_enter Try.func19, Try.ntmps19
      go_wp2_with (go_at_call 52; refine (HR.out).mono ?_; rintro e w1 ⟨Rb, c, Q, rfl, y1, y2, y3, y4, y5⟩; clear y1 y2)
      go_ret2
      exact ⟨rfl, hbl.trans (y5.mono (by simp))⟩

theorem nearIs_len (p : List ByteArray) (a b : Int) : nearIs p a b = (nlenOk p a b && decide (0 < nlenN p a b)) := by
  unfold nearIs nlenN nlenOk
  cases givenB p a
  · rfl
  · cases givenB p b
    · rfl
    · by_cases he : a = b
      · have : besN p a b = 0 := if_pos he
        rw [this]; simp
      · have : (a == b) = false := by rw [beq_eq_false_iff_ne]; exact he
        rw [this]; rfl
theorem nlenN_le (p : List ByteArray) (a b : Int) : nlenN p a b ≤ 60 := by
  unfold nlenN
  split
  · rename_i h
    unfold nlenOk at h
    rw [Bool.and_eq_true] at h
    exact besN_le (given_grid h.1) a b
  · omega

set_option maxRecDepth 100000 in
set_option maxHeartbeats 1000000 in
theorem implNearIs_any (ao : Option Addr) (cap : Nat) (p : List ByteArray) (a b : Int) (w : World) (hl : p.length ≤ 1048576) (hs : ∀ s ∈ p, s.size ≤ 1048576) (hc : CellsAt w ao (p.map Value.string)) :
    Calls Try.prog 13 #[.slice ao p.length cap, .int .i64 a, .int .i64 b] w fun e w' => e = .returned (.bool (nearIs p a b)) ∧ Below w.heap.size w w' := by
  have HL := Lib.hid (implNearLength_any ao cap p a b w hl hs hc)
  rw [nearIs_len]
  clear hl hs hc
  generalize nlenOk p a b = ok at *
  generalize nlenN p a b = n at *
  have hz : decide ((0 : Int) < (n : Int)) = decide (0 < n) := by congr 1; rw [eq_iff_iff]; omega
  cases ok
  · go_enter Try.func13, Try.ntmps13
    go_wp2_with (go_at_call 19; refine (HL.out).mono ?_; rintro e w1 ⟨rfl, hb1⟩)
    go_ret
    exact ⟨rfl, hb1⟩
  · cases hn : decide (0 < n)
    · rw [hn] at hz
      go_enter Try.func13, Try.ntmps13
      go_wp2_with (go_at_call 19; refine (HL.out).mono ?_; rintro e w1 ⟨rfl, hb1⟩)
      go_ret
      exact ⟨by simp, hb1⟩
    · rw [hn] at hz
      go_enter Try.func13, Try.ntmps13
      go_wp2_with (go_at_call 19; refine (HL.out).mono ?_; rintro e w1 ⟨rfl, hb1⟩)
      go_ret
      exact ⟨by simp, hb1⟩

end Go.Proofs.Ytjcbfijliacicaa
