
/-
  The model's plans. (Walks.)
-/
import Derived.Test.YtieieokkaomkaaaSpecC
namespace Go.Proofs.Ytieieokkaomkaaa
open Go.RowKit

set_option maxHeartbeats 400000 in
theorem l1Same_any (ao bo : Option Addr) (ca cb ln lm : Nat) (l m : List ByteArray) (w : World) (hln : l.length = ln) (hlm : m.length = lm) (hl : l.length ≤ maxLen)
    (ha : CellsAt w ao (l.map Value.string)) (hb : CellsAt w bo (m.map Value.string)) :
    Calls Try.prog 38 #[.slice ao ln ca, .slice bo lm cb] w
      fun e w' => e = .returned (.bool (eqS l m)) ∧ Quiet w w' := by
  subst hln; subst hlm
  unfold maxLen at hl
  go_enter Try.func38, Try.ntmps38
  by_cases hlen : l.length = m.length
  · have hne : ((l.length : Int) != (m.length : Int)) = false := by simp [hlen]
    go_wp2
    go_loopw [5] (fun i wr => ∃ (k q : Nat), k ≤ l.length ∧ i = .int .i64 k ∧ wr = w.drewN q ∧ l.take k = m.take k) (fun i _ => l.length - (intOf i).toNat)
    case atStart => exact ⟨0, 0, Nat.zero_le _, rfl, rfl, rfl⟩
    case round =>
      obtain ⟨k, q, hk, rfl, rfl, hq⟩ := hrel
      have HQ := Lib.hid hq; clear hq
      by_cases hlt : k < l.length
      · obtain ⟨b, off, rfl, hck⟩ := ha.str k hlt
        obtain ⟨b', off', rfl, hck'⟩ := hb.str k (by omega)
        have hlt' : k < m.length := by omega
        have HS := Lib.hid (eqS_step hlt hlt' HQ.out)
        have HN := Lib.hid (@eqS_no l m k)
        have HL := Lib.hid hlen
        clear ha hb hlen
        generalize l.getD k ByteArray.empty = s at *
        generalize m.getD k ByteArray.empty = t at *
        go_wp2
        go_quiet (fail)
        go_wp2
        · have hst : (!s.toList == t.toList) = true := by assumption
          go_ret
          exact ⟨ret_bool (HN.out (str_ne hst)).symm, q + nq, by simp⟩
        · have hst : (!s.toList == t.toList) = false := by assumption
          go_roundw
          case rel => exact ⟨k + 1, q + nq, by omega, by go_num, by simp, HS.out (str_eq hst)⟩
          case measure => simp [intOf]; omega
      · go_wp2
        go_ret
        exact ⟨ret_bool (eqS_all hlen hlt HQ.out).symm, _, rfl⟩
  · have hne : ((l.length : Int) != (m.length : Int)) = true := by simp; omega
    have hf := eqS_len hlen
    have HF := Lib.hid hf; clear hf hlen
    go_wp2
    go_ret
    exact ⟨ret_bool HF.out.symm, 0, rfl⟩


def boxOkB (p : List ByteArray) (r : Int) : Bool := cellsB p r == wrap64 (((boxB p r).low - (boxB p r).top + 1) * ((boxB p r).right - (boxB p r).left + 1))
/-- what the model calls a plan -/
def planB (p : List ByteArray) : Bool := gridB p && eqS (namesB p) p && decide (roomsB p ≤ 9) && (List.range (roomsB p).toNat).all fun r => boxOkB p (r : Int)

theorem planB_grid {p : List ByteArray} (h : gridB p = false) : planB p = false := by unfold planB; rw [h]; rfl
theorem planB_names {p : List ByteArray} (h : eqS (namesB p) p = false) : planB p = false := by unfold planB; rw [h, Bool.and_false]; rfl
theorem planB_rooms {p : List ByteArray} (h : ¬ roomsB p ≤ 9) : planB p = false := by unfold planB; rw [decide_eq_false h, Bool.and_false]; rfl
theorem planB_box {p : List ByteArray} {r : Nat} (h1 : (r : Int) < roomsB p) (h : boxOkB p (r : Int) = false) : planB p = false := by
  unfold planB
  rw [Bool.and_eq_false_iff]; right
  rw [Bool.eq_false_iff]; intro hh
  rw [List.all_eq_true] at hh
  have := hh r (List.mem_range.2 (by omega))
  rw [h] at this
  exact Bool.noConfusion this
theorem planB_yes {p : List ByteArray} {n : Nat} (hg : gridB p = true) (hn : eqS (namesB p) p = true) (hr : roomsB p ≤ 9) (hn2 : roomsB p ≤ (n : Int)) (h : ∀ r, r < n → boxOkB p (r : Int) = true) : planB p = true := by
  unfold planB
  rw [hg, hn, decide_eq_true hr, Bool.true_and, Bool.true_and, Bool.true_and, List.all_eq_true]
  intro r hr'
  rw [List.mem_range] at hr'
  exact h r (by omega)

theorem gridB_len {p : List ByteArray} (h : gridB p = true) : 1 ≤ p.length ∧ p.length ≤ 6 := by
  unfold gridB at h
  rw [Bool.and_eq_true] at h
  have := h.2
  unfold l6B at this
  rw [decide_eq_true_eq] at this
  omega

theorem gridB_row {p : List ByteArray} (h : gridB p = true) : ∀ s ∈ p, s.size = (p.getD 0 ByteArray.empty).size ∧ 1 ≤ s.size ∧ s.size ≤ 6 ∧ smallB s.data.toList = true := fun s hs => by
  unfold gridB at h
  rw [Bool.and_eq_true, List.all_eq_true] at h
  have := h.1 s hs
  unfold rowB at this
  rw [Bool.and_eq_true, Bool.and_eq_true, decide_eq_true_eq] at this
  have h6 := this.1.2
  unfold l6B at h6
  rw [decide_eq_true_eq] at h6
  exact ⟨this.1.1, by omega, by omega, this.2⟩

theorem roomsF_bound (p : List ByteArray) : 0 ≤ roomsB p ∧ roomsB p ≤ 256 := by
  have hrow : ∀ (i : Nat) (l : List UInt8) (k : Nat) (n : Int), 0 ≤ n → n ≤ 256 → 0 ≤ rowFold roomsF i k l n ∧ rowFold roomsF i k l n ≤ 256 := by
    intro i l
    induction l with
    | nil => intro k n h0 h1; exact ⟨h0, h1⟩
    | cons c l ih =>
      intro k n h0 h1
      have hc := UInt8.toNat_lt c
      rw [rowFold]
      refine ih (k + 1) _ ?_ ?_ <;> unfold roomsF <;> split <;> omega
  have hgrid : ∀ (p : List ByteArray) (i : Nat) (n : Int), 0 ≤ n → n ≤ 256 → 0 ≤ gridFold roomsF i p n ∧ gridFold roomsF i p n ≤ 256 := by
    intro p
    induction p with
    | nil => intro i n h0 h1; exact ⟨h0, h1⟩
    | cons s p ih =>
      intro i n h0 h1
      rw [gridFold]
      have := hrow i s.data.toList 0 n h0 h1
      exact ih (i + 1) _ this.1 this.2
  exact hgrid p 0 0 (by omega) (by omega)

set_option maxHeartbeats 800000 in
theorem specPlanIn_any (ao : Option Addr) (cap : Nat) (p : List ByteArray) (w : World) (hl : p.length ≤ 1048576) (hs : ∀ s ∈ p, s.size ≤ 1048576)
    (hc : CellsAt w ao (p.map Value.string)) :
    Calls Try.prog 25 #[.slice ao p.length cap] w
      fun e w' => e = .returned (.bool (planB p)) ∧ Below w.heap.size w w' := by
  cases hg : gridB p
  · have HP := Lib.hid (planB_grid hg)
    go_enter Try.func25, Try.ntmps25
    go_wp2_with (go_at_call 37; refine (l1Grid_any _ _ _ _ hl hs hc).mono ?_; rintro e w1 ⟨rfl, hq1⟩)
    go_ret
    exact ⟨ret_bool HP.out.symm, hq1.below _⟩
  · have hdim := gridB_len hg
    have hrow := gridB_row hg
    have hs6 : ∀ s ∈ p, s.size ≤ 6 := fun s h => (hrow s h).2.2.1
    have hl6 := hdim.2
    have HG := Lib.hid hg
    cases hn : eqS (namesB p) p
    · have HP := Lib.hid (planB_names hn)
      go_enter Try.func25, Try.ntmps25
      go_wp2_with (first
        | (go_at_call 37; refine (l1Grid_any _ _ _ _ hl hs hc).mono ?_; rintro e w1 ⟨rfl, hq1⟩; have hc1 := hq1.cells hc)
        | (go_at_call 39; refine (l1Names_any _ _ _ _ hl6 hs6 hc1).mono ?_; rintro e w2 ⟨ro, rc, rfl, hown2, hb2⟩; have hc2 := hc1.below hb2; have hcn := owns_cells hown2)
        | (go_at_call 38; refine (l1Same_any _ _ _ _ _ _ (namesB p) p _ (namesB_len p) rfl (by rw [namesB_len]; unfold maxLen; omega) hcn hc2).mono ?_; rintro e w3 ⟨rfl, hq3⟩))
      go_ret
      exact ⟨ret_bool HP.out.symm, below_step (hq1.below _) (by rw [hq1.size]; exact Nat.le_refl _) (hb2.trans (hq3.below _))⟩
    · by_cases hr : roomsB p ≤ 9
      · have hrb := roomsF_bound p
        obtain ⟨R, hR⟩ : ∃ R : Nat, roomsB p = (R : Int) := ⟨(roomsB p).toNat, by omega⟩
        have HN := Lib.hid hn; have HR := Lib.hid hr
        have HRR := Lib.hid hR
        go_enter Try.func25, Try.ntmps25
        go_wp2_with (first
          | (go_at_call 37; refine (l1Grid_any _ _ _ _ hl hs hc).mono ?_; rintro e w1 ⟨rfl, hq1⟩; have hc1 := hq1.cells hc)
          | (go_at_call 39; refine (l1Names_any _ _ _ _ hl6 hs6 hc1).mono ?_; rintro e w2 ⟨ro, rc, rfl, hown2, hb2⟩; have hc2 := hc1.below hb2; have hcn := owns_cells hown2)
          | (go_at_call 38; refine (l1Same_any _ _ _ _ _ _ (namesB p) p _ (namesB_len p) rfl (by rw [namesB_len]; unfold maxLen; omega) hcn hc2).mono ?_; rintro e w3 ⟨rfl, hq3⟩; have hc3 := hq3.cells hc2)
          | (go_at_call 40; refine (l1Rooms_any _ _ _ _ hl hs hc3).mono ?_; rintro e w4 ⟨rfl, rfl⟩))
        have hb5 : Below w.heap.size w w4 := below_step (hq1.below _) (by rw [hq1.size]; exact Nat.le_refl _) (hb2.trans (hq3.below _))
        clear hq1 hb2 hq3 hc1 hc2 hc3 hcn hown2
        go_loopw [3] (fun vi wr => ∃ (r : Nat), r ≤ R ∧ vi = .int .i64 r ∧ Below w.heap.size w wr ∧ ∀ j, j < r → boxOkB p (j : Int) = true) (fun i _ => R - (intOf i).toNat)
        case atStart => exact ⟨0, Nat.zero_le _, rfl, hb5, fun j hj => by omega⟩
        case round =>
          clear hb5
          obtain ⟨r, hrR, rfl, hb, hall⟩ := hrel
          have HALL := Lib.hid hall; clear hall
          have hcr := hc.below hb
          by_cases hlt : r < R
          · cases hbx : boxOkB p (r : Int)
            · have HP := Lib.hid (planB_box (p := p) (r := r) (by omega) hbx)
              obtain ⟨bx, hbxe⟩ : ∃ bx, boxB p (r : Int) = bx := ⟨_, rfl⟩
              unfold boxOkB at hbx
              rw [hbxe] at hbx
              have hne : (cellsB p (r : Int) != wrap64 ((bx.low - bx.top + 1) * (bx.right - bx.left + 1))) = true := by unfold bne; rw [hbx]; rfl
              have HBXE := Lib.hid hbxe; clear hbxe hbx
              go_wp2_with (first
                | (go_at_call 40; refine (l1Rooms_any _ _ _ _ hl hs hcr).mono ?_; rintro e w5 ⟨rfl, hw5⟩; subst hw5)
                | (go_at_call 41; refine (l1Room_any _ _ _ _ _ hdim.1 hl hs hcr).mono ?_; rw [HBXE.out]; rintro e w5 ⟨rfl, hw5⟩; subst hw5)
                | (go_at_call 42; refine (l1Cells_any _ _ _ _ _ hl hs hcr).mono ?_; rintro e w5 ⟨rfl, hw5⟩; subst hw5))
              go_ret
              exact ⟨ret_bool HP.out.symm, hb⟩
            · have HP := Lib.hid (@rows_step (fun j => boxOkB p (j : Int) = true) r HALL.out hbx)
              obtain ⟨bx, hbxe⟩ : ∃ bx, boxB p (r : Int) = bx := ⟨_, rfl⟩
              unfold boxOkB at hbx
              rw [hbxe] at hbx
              have hne : (cellsB p (r : Int) != wrap64 ((bx.low - bx.top + 1) * (bx.right - bx.left + 1))) = false := by unfold bne; rw [hbx]; rfl
              have HBXE := Lib.hid hbxe; clear hbxe hbx
              go_wp2_with (first
                | (go_at_call 40; refine (l1Rooms_any _ _ _ _ hl hs hcr).mono ?_; rintro e w5 ⟨rfl, hw5⟩; subst hw5)
                | (go_at_call 41; refine (l1Room_any _ _ _ _ _ hdim.1 hl hs hcr).mono ?_; rw [HBXE.out]; rintro e w5 ⟨rfl, hw5⟩; subst hw5)
                | (go_at_call 42; refine (l1Cells_any _ _ _ _ _ hl hs hcr).mono ?_; rintro e w5 ⟨rfl, hw5⟩; subst hw5))
              go_roundw
              case rel => exact ⟨r + 1, by omega, by go_num, hb, HP.out⟩
              case measure => simp [intOf]; omega
          · have HP := Lib.hid (planB_yes (n := r) HG.out HN.out HR.out (by rw [HRR.out]; omega) HALL.out)
            go_wp2_with (first
              | (go_at_call 40; refine (l1Rooms_any _ _ _ _ hl hs hcr).mono ?_; rintro e w5 ⟨rfl, hw5⟩; subst hw5))
            go_ret
            exact ⟨ret_bool HP.out.symm, hb⟩
      · have HP := Lib.hid (planB_rooms hr)
        go_enter Try.func25, Try.ntmps25
        go_wp2_with (first
          | (go_at_call 37; refine (l1Grid_any _ _ _ _ hl hs hc).mono ?_; rintro e w1 ⟨rfl, hq1⟩; have hc1 := hq1.cells hc)
          | (go_at_call 39; refine (l1Names_any _ _ _ _ hl6 hs6 hc1).mono ?_; rintro e w2 ⟨ro, rc, rfl, hown2, hb2⟩; have hc2 := hc1.below hb2; have hcn := owns_cells hown2)
          | (go_at_call 38; refine (l1Same_any _ _ _ _ _ _ (namesB p) p _ (namesB_len p) rfl (by rw [namesB_len]; unfold maxLen; omega) hcn hc2).mono ?_; rintro e w3 ⟨rfl, hq3⟩; have hc3 := hq3.cells hc2)
          | (go_at_call 40; refine (l1Rooms_any _ _ _ _ hl hs hc3).mono ?_; rintro e w4 ⟨rfl, rfl⟩))
        go_ret
        exact ⟨ret_bool HP.out.symm, below_step (hq1.below _) (by rw [hq1.size]; exact Nat.le_refl _) (hb2.trans (hq3.below _))⟩

end Go.Proofs.Ytieieokkaomkaaa
