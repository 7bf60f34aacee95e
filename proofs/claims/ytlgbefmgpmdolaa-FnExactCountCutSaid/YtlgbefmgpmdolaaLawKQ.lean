/-
  Merged texts: LawA LawK.
-/
import Derived.Test.YtlgbefmgpmdolaaRows
import Derived.Test.YtlgbefmgpmdolaaRowQ
import Derived.BigQuiet

/-
  The helpers of the laws over lists of texts: sizes, copies, comparing. (Walks.)
-/
namespace Go.Proofs.Ytlgbefmgpmdolaa
open Go.RowKit

/-- two lists of texts are equal -/
def eqS (l m : List ByteArray) : Bool := decide (l = m)

theorem eqS_no {l m : List ByteArray} {k : Nat} (h : l.getD k ByteArray.empty ≠ m.getD k ByteArray.empty) : eqS l m = false := by
  unfold eqS; rw [decide_eq_false_iff_not]; rintro rfl; exact h rfl
theorem eqS_len {l m : List ByteArray} (h : l.length ≠ m.length) : eqS l m = false := by
  unfold eqS; rw [decide_eq_false_iff_not]; rintro rfl; exact h rfl
theorem eqS_all {l m : List ByteArray} {k : Nat} (hlen : l.length = m.length) (hk : ¬ k < l.length) (h : l.take k = m.take k) : eqS l m = true := by
  unfold eqS; rw [decide_eq_true_iff]
  rwa [List.take_of_length_le (by omega), List.take_of_length_le (by omega)] at h
theorem eqS_step {l m : List ByteArray} {k : Nat} (h1 : k < l.length) (h2 : k < m.length) (h : l.take k = m.take k) (he : l.getD k ByteArray.empty = m.getD k ByteArray.empty) : l.take (k + 1) = m.take (k + 1) := by
  rw [take_succ_getD l k ByteArray.empty h1, take_succ_getD m k ByteArray.empty h2, h, he]

end Go.Proofs.Ytlgbefmgpmdolaa

/-
  Small facts of the laws' walks, and their helpers over lists of numbers: compared, marked, held. (Merged texts: LawH LawI Same.)
-/
/-
  Small facts that the walks of the laws use.
-/
namespace Go.Proofs.Ytlgbefmgpmdolaa
open Go.RowKit

/-- what a later call owns lies in other blocks than what was there -/
theorem apart_base {W W' : World} {b1 : Nat} {e1 e2 : TypeId} {s1 s2 n1 n2 m1 m2 c1 c2 : Nat} {ao bo : Option Addr} {xs ys : List Value}
    (h1 : W.ownsRow b1 e1 s1 (.slice ao m1 c1) n1 xs) (h2 : W'.ownsRow W.heap.size e2 s2 (.slice bo m2 c2) n2 ys) : Apart ao bo := fun a b ha hb => by
  have := (owns_lt h1 a ha).2
  have := (owns_lt h2 b hb).1
  omega

/-- marks are written into what the call owns -/
theorem below_mark {B b1 : Nat} {W w1 w2 : World} {e s n m c : Nat} {bo : Option Addr} {xs : List Value} (hb : Below B W w1) (hown : w1.ownsRow b1 e s (.slice bo m c) n xs) (hB : B ≤ b1) (hg : w1.grownBy w2 (Value.ownBlock (.slice bo m c))) (hW : B ≤ w1.heap.size) : Below B W w2 :=
  hb.trans (below_of_grownBy hg hW (fun k hk => by
    cases bo with
    | none => simp [Value.ownBlock] at hk
    | some b => simp only [Value.ownBlock, Option.some.injEq] at hk; subst hk; exact Nat.le_trans hB (owns_lt hown b rfl).1))

theorem quiet_below {w w' : World} (h : Quiet w w') : Below w.heap.size w w' := h.below _
end Go.Proofs.Ytlgbefmgpmdolaa

/-
  The laws' helpers over lists of numbers: compared, marked, held. (Walks.)
-/
namespace Go.Proofs.Ytlgbefmgpmdolaa
open Go.RowKit

def eqI (l m : List Int) : Bool := decide (l = m)
theorem eqI_self (l : List Int) : eqI l l = true := by unfold eqI; simp
theorem eqI_no {l m : List Int} {k : Nat} (h : l.getD k 0 ≠ m.getD k 0) : eqI l m = false := by
  unfold eqI; rw [decide_eq_false_iff_not]; rintro rfl; exact h rfl
theorem eqI_len {l m : List Int} (h : l.length ≠ m.length) : eqI l m = false := by
  unfold eqI; rw [decide_eq_false_iff_not]; rintro rfl; exact h rfl
theorem eqI_all {l m : List Int} {k : Nat} (hlen : l.length = m.length) (hk : ¬ k < l.length) (h : l.take k = m.take k) : eqI l m = true := by
  unfold eqI; rw [decide_eq_true_iff]
  rwa [List.take_of_length_le (by omega), List.take_of_length_le (by omega)] at h
theorem eqI_step {l m : List Int} {k : Nat} (h1 : k < l.length) (h2 : k < m.length) (h : l.take k = m.take k) (he : l.getD k 0 = m.getD k 0) : l.take (k + 1) = m.take (k + 1) := by
  rw [take_succ_getD l k 0 h1, take_succ_getD m k 0 h2, h, he]

set_option maxHeartbeats 400000 in
theorem eqIntS_any (ao bo : Option Addr) (ca cb ln lm : Nat) (l m : List Int) (w : World) (hln : l.length = ln) (hlm : m.length = lm) (hl : l.length ≤ maxLen)
    (ha : CellsAt w ao (l.map (Value.int .i64))) (hb : CellsAt w bo (m.map (Value.int .i64))) :
    Calls Try.prog 11 #[.slice ao ln ca, .slice bo lm cb] w
      fun e w' => e = .returned (.bool (eqI l m)) ∧ Quiet w w' := by
  subst hln; subst hlm
  unfold maxLen at hl
  go_enter Try.func11, Try.ntmps11
  by_cases hlen : l.length = m.length
  · have hne : ((l.length : Int) != (m.length : Int)) = false := by simp [hlen]
    go_wp2
    go_loopw [5] (fun i wr => ∃ (k q : Nat), k ≤ l.length ∧ i = .int .i64 k ∧ wr = w.drewN q ∧ l.take k = m.take k) (fun i _ => l.length - (intOf i).toNat)
    case atStart => exact ⟨0, 0, Nat.zero_le _, rfl, rfl, rfl⟩
    case round =>
      obtain ⟨k, q, hk, rfl, rfl, hq⟩ := hrel
      have HQ := Lib.hid hq; clear hq
      by_cases hlt : k < l.length
      · obtain ⟨b, off, rfl, hck⟩ := ha.int k hlt
        obtain ⟨b', off', rfl, hck'⟩ := hb.int k (by omega)
        have hlt' : k < m.length := by omega
        have HS := Lib.hid (eqI_step hlt hlt' HQ.out)
        have HN := Lib.hid (@eqI_no l m k)
        have HL := Lib.hid hlen
        clear ha hb hlen
        generalize l.getD k 0 = s at *
        generalize m.getD k 0 = t at *
        by_cases hst : s = t
        · have hbe : (s == t) = true := beq_iff_eq.2 hst
          have hbn : (s != t) = false := by rw [bne_eq_false_iff_eq]; exact hst
          have HST := Lib.hid hst; clear hst
          go_wp2
          go_quiet (fail)
          go_wp2
          go_roundw
          case rel => exact ⟨k + 1, q + nq, by omega, by go_num, by simp, HS.out HST.out⟩
          case measure => simp [intOf]; omega
        · have hbe : (s == t) = false := beq_eq_false_iff_ne.2 hst
          have hbn : (s != t) = true := by rw [bne_iff_ne]; exact hst
          have HST := Lib.hid hst; clear hst
          go_wp2
          go_quiet (fail)
          go_wp2
          go_ret
          exact ⟨ret_bool (HN.out HST.out).symm, q + nq, by simp⟩
      · go_wp2
        go_ret
        exact ⟨ret_bool (eqI_all hlen hlt HQ.out).symm, _, rfl⟩
  · have hne : ((l.length : Int) != (m.length : Int)) = true := by simp; omega
    have hf := eqI_len hlen
    have HF := Lib.hid hf; clear hf hlen
    go_wp2
    go_ret
    exact ⟨ret_bool HF.out.symm, 0, rfl⟩

/-- the marks that the laws write into numbers: from number k on, n of them -/
def marksI (k n : Nat) : List Int := (List.range n).map fun i => ((k + i : Nat) : Int)
theorem marksI_len (k n : Nat) : (marksI k n).length = n := by simp [marksI]
theorem marksI_succ (k n : Nat) : marksI k (n + 1) = marksI k n ++ [((k + n : Nat) : Int)] := by
  simp [marksI, List.range_succ]
theorem marksI_getD (k n j : Nat) (h : j < n) : (marksI k n).getD j 0 = ((k + j : Nat) : Int) := by
  simp [marksI, h]

set_option maxHeartbeats 400000 in
theorem markIntS_any (ao : Option Addr) (cap k base : Nat) (l : List Int) (w : World) (hl : l.length ≤ 1048576) (hk1 : k ≤ 16777216)
    (hown : w.ownsRow base 3 1 (.slice ao l.length cap) l.length (l.map (Value.int .i64))) :
    Calls Try.prog 12 #[.slice ao l.length cap, .int .i64 k] w
      fun e w' => e = .returned (.int .i64 ((k + l.length : Nat) : Int)) ∧ w'.ownsRow base 3 1 (.slice ao l.length cap) l.length ((marksI k l.length).map (Value.int .i64)) ∧ w.grownBy w' (Value.ownBlock (.slice ao l.length cap)) := by
  go_enter Try.func12, Try.ntmps12
  go_wp2
  go_loopw [1, 5] (fun t i wr => ∃ (j : Nat), j ≤ l.length ∧ i = .int .i64 j ∧ t = .int .i64 ((k + j : Nat) : Int) ∧ wr.ownsRow base 3 1 (.slice ao l.length cap) l.length ((marksI k j).map (Value.int .i64) ++ (l.drop j).map (Value.int .i64)) ∧ w.grownBy wr (Value.ownBlock (.slice ao l.length cap))) (fun _ i _ => l.length - (intOf i).toNat)
  case atStart => exact ⟨0, Nat.zero_le _, rfl, rfl, by simpa [marksI] using hown, World.grownBy.refl _ _⟩
  case round =>
    clear hown
    obtain ⟨j, hj, rfl, rfl, hown, hg⟩ := hrel
    by_cases hlt : j < l.length
    · obtain ⟨g, cap', hv, hbg, hgs⟩ := ownsRow_some hown (by omega)
      simp only [Value.slice.injEq, true_and] at hv
      obtain ⟨rfl, rfl⟩ := hv
      have hcell := hown.cellAt j (by omega)
      rw [List.getElem?_append_right (by simp [marksI_len]), List.length_map, marksI_len, Nat.sub_self, drop_getD l j 0 hlt, List.map_cons, List.getElem?_cons_zero] at hcell
      have hfz := hown.frozenAt j
      have hst := hown.stored j (.int .i64 ((k + j : Nat) : Int))
      rw [drop_getD l j 0 hlt, List.map_cons, set_mid _ _ _ _ _ (by simp [marksI_len]), ← List.map_singleton, ← List.map_append, ← marksI_succ] at hst
      have hg2 := grownBy_trans hg hst.2
      have hst1 := hst.1
      rw [Int.natCast_add] at hg2 hst1
      clear hown hg hst
      generalize l.getD j 0 = old at *
      go_wp2
      go_roundw
      case rel => exact ⟨j + 1, by omega, by go_num, by go_num, hst1, hg2⟩
      case measure => simp [intOf]; omega
    · obtain rfl : j = l.length := by omega
      rw [List.drop_length, List.map_nil, List.append_nil] at hown
      go_wp2
      go_ret
      exact ⟨rfl, hown, hg⟩

set_option maxHeartbeats 400000 in
theorem heldIntS_any (ao : Option Addr) (cap k n : Nat) (w : World) (hl : n ≤ 1048576) (hk1 : k ≤ 16777216)
    (hc : CellsAt w ao ((marksI k n).map (Value.int .i64))) :
    Calls Try.prog 13 #[.slice ao n cap, .int .i64 k] w
      fun e w' => e = .returned (.int .i64 ((k + n : Nat) : Int)) ∧ Below w.heap.size w w' := by
  go_enter Try.func13, Try.ntmps13
  go_wp2
  go_loopw [1, 5] (fun t i wr => ∃ (j : Nat), j ≤ n ∧ i = .int .i64 j ∧ t = .int .i64 ((k + j : Nat) : Int) ∧ Below w.heap.size w wr) (fun _ i _ => n - (intOf i).toNat)
  case atStart => exact ⟨0, Nat.zero_le _, rfl, rfl, Below.refl _ _⟩
  case round =>
    obtain ⟨j, hj, rfl, rfl, hb⟩ := hrel
    by_cases hlt : j < n
    · obtain ⟨b, off, rfl, hck⟩ := (hc.below hb).int j (by rw [marksI_len]; exact hlt)
      rw [marksI_getD _ _ _ hlt, Int.natCast_add] at hck
      have hbn : (((k : Int) + (j : Int)) != ((k : Int) + (j : Int))) = false := by simp
      clear hc
      go_wp2
      go_roundw
      case rel => exact ⟨j + 1, by omega, by go_num, by go_num, hb⟩
      case measure => simp [intOf]; omega
    · obtain rfl : j = n := by omega
      go_wp2
      go_ret
      exact ⟨rfl, hb⟩

end Go.Proofs.Ytlgbefmgpmdolaa

/-
  Lists compared by the laws. (Walks.)
-/
namespace Go.Proofs.Ytlgbefmgpmdolaa
open Go.RowKit

end Go.Proofs.Ytlgbefmgpmdolaa
