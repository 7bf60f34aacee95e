
/-
  Is a list a permutation: the model asks it by bits. (Walks.)
-/
import Derived.Test.YtkpjlglfhhdcbaaSevM
import Derived.Test.YtkpjlglfhhdcbaaSpecA
import Derived.Test.YtkpjlglfhhdcbaaRow
namespace Go.Proofs.Ytkpjlglfhhdcbaa
open Go.RowKit

theorem or64 (a b : Nat) (ha : a < 4294967296) (hb : b < 4294967296) : bits .or .i64 (a : Int) (b : Int) = ((a ||| b : Nat) : Int) := by
  have hx : a ||| b < 2 ^ 32 := Nat.or_lt_two_pow (by omega) (by omega)
  have h1 : (BitVec.ofInt 64 (a : Int)).toNat = a := by
    rw [BitVec.ofInt_natCast, BitVec.toNat_ofNat]; exact Nat.mod_eq_of_lt (by omega)
  have h2 : (BitVec.ofInt 64 (b : Int)).toNat = b := by
    rw [BitVec.ofInt_natCast, BitVec.toNat_ofNat]; exact Nat.mod_eq_of_lt (by omega)
  show IntKind.i64.wrap ((BitVec.ofInt 64 (a : Int) ||| BitVec.ofInt 64 (b : Int)).toNat : Int) = _
  rw [BitVec.toNat_or, h1, h2]
  simp [IntKind.wrap, IntKind.bits, IntKind.signed]
  omega
theorem pow64 {y : Nat} (hy : y ≤ 7) : wrap64 (2 ^ y) = ((2 ^ y : Nat) : Int) := by
  have h1 : 2 ^ y ≤ 2 ^ 7 := Nat.pow_le_pow_right (by omega) hy
  have e1 : ((2 : Int) ^ y) = ((2 ^ y : Nat) : Int) := by simp
  rw [e1]
  generalize 2 ^ y = z at *
  unfold wrap64; omega
theorem seen_step {l : List Int} {i : Nat} (hi : i < l.length) (h : ∀ x ∈ l.take i, x < 7) {y : Nat} (hy : l.getD i 0 = y) (hy7 : y < 7) : bits .or .i64 ((seenN (l.take i) : Nat) : Int) (wrap64 (2 ^ min y 64)) = ((seenN (l.take (i + 1)) : Nat) : Int) := by
  rw [Nat.min_eq_left (show y ≤ 64 by omega)]
  have h1 : 2 ^ y ≤ 2 ^ 7 := Nat.pow_le_pow_right (by omega) (by omega)
  have h2 := seenN_lt _ h
  rw [pow64 (by omega), or64 _ _ (by omega) (by omega), seenN_succ hi, hy]
  rfl
theorem take_mem_succ {l : List Int} {i : Nat} (hi : i < l.length) {P : Int → Prop} (h : ∀ x ∈ l.take i, P x) (hx : P (l.getD i 0)) : ∀ x ∈ l.take (i + 1), P x := by
  intro x hx'
  rw [take_succ_getD l i 0 hi, List.mem_append, List.mem_singleton] at hx'
  rcases hx' with h' | rfl
  · exact h x h'
  · exact hx
theorem getD_mem_list {l : List Int} {i : Nat} (hi : i < l.length) : l.getD i 0 ∈ l := by
  rw [List.getD_eq_getElem?_getD, List.getElem?_eq_getElem hi]; exact List.getElem_mem hi
theorem isP_out {l : List Int} {i : Nat} (hi : i < l.length) (h : l.getD i 0 < 0 ∨ (l.length : Int) ≤ l.getD i 0) : isP l = false := by
  unfold isP; rw [decide_eq_false_iff_not]
  rintro ⟨_, _, h3, _⟩
  have := h3 _ (getD_mem_list hi)
  omega
theorem isP_long {l : List Int} (h : 7 < l.length ∨ l.length < 1) : isP l = false := by
  unfold isP; rw [decide_eq_false_iff_not]; omega
theorem isP_seen {l : List Int} (h1 : 1 ≤ l.length) (h7 : l.length ≤ 7) (h : ∀ x ∈ l, 0 ≤ x ∧ x < (l.length : Int)) : (((seenN l : Nat) : Int) == wrap64 (wrap64 (2 ^ l.length) - 1)) = isP l := by
  have hp : 0 < 2 ^ l.length := Nat.pow_pos (by omega)
  have hq : 2 ^ l.length ≤ 2 ^ 7 := Nat.pow_le_pow_right (by omega) h7
  have := seenN_full h
  rw [pow64 h7, IntWalk.wrap64_in _ ⟨by omega, by omega⟩]
  unfold isP
  rw [Bool.eq_iff_iff, beq_iff_eq, decide_eq_true_eq]
  constructor
  · intro he
    exact ⟨h1, h7, h, this.1 (by omega)⟩
  · rintro ⟨_, _, _, hd⟩
    have := this.2 hd
    omega

set_option maxRecDepth 100000 in
set_option maxHeartbeats 2000000 in
theorem specPermIn_same (ao : Option Addr) (cap : Nat) (l : List Int) (w : World) (hl : l.length ≤ 1048576) (hc : CellsAt w ao (l.map (Value.int .i64))) :
    Calls Try.prog 14 #[.slice ao l.length cap] w fun e w' => e = .returned (.bool (isP l)) ∧ w' = w := by
  go_enter Try.func14, Try.ntmps14
  go_wp2
  by_cases h7 : l.length ≤ 7
  · go_loop [3, 4] (fun vs vi => ∃ i : Nat, i ≤ l.length ∧ vi = .int .i64 i ∧ vs = .int .i64 ((seenN (l.take i) : Nat) : Int) ∧ ∀ x ∈ l.take i, 0 ≤ x ∧ x < (l.length : Int)) (fun _ vi => l.length - (intOf vi).toNat)
    case atStart => exact ⟨0, Nat.zero_le _, rfl, rfl, by simp⟩
    case round =>
      obtain ⟨i, hi, rfl, rfl, hall⟩ := hrel
      by_cases hlt : i < l.length
      · obtain ⟨b, off, rfl, hcell⟩ := hc.int i hlt
        have HC := Lib.hid hc; clear hc
        by_cases hx : 0 ≤ l.getD i 0 ∧ l.getD i 0 ≤ (l.length : Int) - 1
        · obtain ⟨y, hy⟩ : ∃ y : Nat, l.getD i 0 = y := ⟨(l.getD i 0).toNat, by omega⟩
          have HST := Lib.hid (seen_step hlt (fun x hx => by have := hall x hx; omega) hy (by omega))
          have HTM := Lib.hid (take_mem_succ (P := fun x => 0 ≤ x ∧ x < (l.length : Int)) hlt hall (by omega))
          have HIN := Lib.hid (l6In_any (l.getD i 0) 0 ((l.length : Int) - 1))
          rw [l6B_true hx.1 hx.2] at HIN
          have HY := Lib.hid hy
          rw [hy] at hcell HIN
          clear hy hall hx
          go_wp2_with (go_at_call 40; refine (HIN.out _).mono ?_; rintro e w' ⟨rfl, rfl⟩)
          go_round
          case rel => exact ⟨i + 1, by omega, by go_num, by rw [HST.out], HTM.out⟩
          case measure => simp [intOf]; omega
        · have HF := Lib.hid (isP_out hlt (by omega))
          have HIN := Lib.hid (l6In_any (l.getD i 0) 0 ((l.length : Int) - 1))
          rw [show l6B (l.getD i 0) 0 ((l.length : Int) - 1) = false by unfold l6B; rw [decide_eq_false_iff_not]; exact hx] at HIN
          clear hall hx
          generalize l.getD i 0 = y at *
          go_wp2_with (go_at_call 40; refine (HIN.out _).mono ?_; rintro e w' ⟨rfl, rfl⟩)
          go_ret
          exact ⟨ret_bool HF.out.symm, rfl⟩
      · obtain rfl : i = l.length := by omega
        rw [List.take_length] at hall ⊢
        have HIN := Lib.hid (l6In_any (l.length : Int) 1 7)
        by_cases h1 : 1 ≤ l.length
        · have HP := Lib.hid (isP_seen h1 h7 hall)
          rw [l6B_true (by omega) (by omega)] at HIN
          have hm : min l.length 64 = l.length := Nat.min_eq_left (by omega)
          clear hall
          go_wp2_with (go_at_call 40; refine (HIN.out _).mono ?_; rintro e w' ⟨rfl, rfl⟩)
          go_ret
          exact ⟨ret_bool HP.out, rfl⟩
        · have HP := Lib.hid (isP_long (l := l) (.inr (by omega)))
          rw [l6B_lo (by omega)] at HIN
          clear hall
          go_wp2_with (go_at_call 40; refine (HIN.out _).mono ?_; rintro e w' ⟨rfl, rfl⟩)
          go_ret
          exact ⟨ret_bool HP.out.symm, rfl⟩
  · have HF := Lib.hid (isP_long (l := l) (.inl (by omega)))
    go_loop [3, 4] (fun vs vi => ∃ (i : Nat) (s : Int), i ≤ l.length ∧ vi = .int .i64 i ∧ vs = .int .i64 s) (fun _ vi => l.length - (intOf vi).toNat)
    case atStart => exact ⟨0, _, Nat.zero_le _, rfl, rfl⟩
    case round =>
      obtain ⟨i, s, hi, rfl, rfl⟩ := hrel
      by_cases hlt : i < l.length
      · obtain ⟨b, off, rfl, hcell⟩ := hc.int i hlt
        have HC := Lib.hid hc; clear hc
        generalize l.getD i 0 = y at *
        have HIN := Lib.hid (l6In_any y 0 ((l.length : Int) - 1))
        by_cases hx : 0 ≤ y ∧ y ≤ (l.length : Int) - 1
        · obtain ⟨z, rfl⟩ : ∃ z : Nat, y = z := ⟨y.toNat, by omega⟩
          rw [l6B_true hx.1 hx.2] at HIN
          clear hx
          go_wp2_with (go_at_call 40; refine (HIN.out _).mono ?_; rintro e w' ⟨rfl, rfl⟩)
          go_round
          case rel => exact ⟨i + 1, _, by omega, by go_num, rfl⟩
          case measure => simp [intOf]; omega
        · rw [show l6B y 0 ((l.length : Int) - 1) = false by unfold l6B; rw [decide_eq_false_iff_not]; exact hx] at HIN
          clear hx
          go_wp2_with (go_at_call 40; refine (HIN.out _).mono ?_; rintro e w' ⟨rfl, rfl⟩)
          go_ret
          exact ⟨ret_bool HF.out.symm, rfl⟩
      · obtain rfl : i = l.length := by omega
        have HIN := Lib.hid (l6In_any (l.length : Int) 1 7)
        rw [l6B_hi (by omega)] at HIN
        go_wp2_with (go_at_call 40; refine (HIN.out _).mono ?_; rintro e w' ⟨rfl, rfl⟩)
        go_ret
        exact ⟨ret_bool HF.out.symm, rfl⟩

theorem specPermIn_any (ao : Option Addr) (cap : Nat) (l : List Int) (w : World) (hl : l.length ≤ 1048576) (hc : CellsAt w ao (l.map (Value.int .i64))) :
    Calls Try.prog 14 #[.slice ao l.length cap] w fun e w' => e = .returned (.bool (isP l)) ∧ Below w.heap.size w w' :=
  (specPermIn_same ao cap l w hl hc).mono fun _ _ ⟨a, b⟩ => ⟨a, by rw [b]; exact Below.refl _ _⟩

end Go.Proofs.Ytkpjlglfhhdcbaa
