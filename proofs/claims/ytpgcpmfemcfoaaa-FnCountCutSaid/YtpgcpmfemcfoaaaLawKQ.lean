/-
  Merged texts: LawA LawK.
-/
import Derived.Test.YtpgcpmfemcfoaaaRows
import Derived.Test.YtpgcpmfemcfoaaaRowQ
import Derived.BigQuiet

/-
  The helpers of the laws over lists of texts: sizes, copies, comparing. (Walks.)
-/
namespace Go.Proofs.Ytpgcpmfemcfoaaa
open Go.RowKit

/-- two lists of texts are equal -/
def eqS (l m : List ByteArray) : Bool := decide (l = m)

theorem eqS_no {l m : List ByteArray} {k : Nat} (h : l.getD k ByteArray.empty ≠ m.getD k ByteArray.empty) : eqS l m = false := by
  unfold eqS; rw [decide_eq_false_iff_not]; rintro rfl; exact h rfl
theorem eqS_len {l m : List ByteArray} (h : l.length ≠ m.length) : eqS l m = false := by
  unfold eqS; rw [decide_eq_false_iff_not]; rintro rfl; exact h rfl
theorem eqS_all {l m : List ByteArray} {k : Nat} (hlen : l.length = m.length) (hk : ¬ k < l.length) (h : l.take k = m.take k) : eqS l m = true := by
  unfold eqS; rw [decide_eq_true_iff]
  rwa [List.take_of_length_le (by omega), List.take_of_length_le (by omega)] at h
theorem eqS_step {l m : List ByteArray} {k : Nat} (h1 : k < l.length) (h2 : k < m.length) (h : l.take k = m.take k) (he : l.getD k ByteArray.empty = m.getD k ByteArray.empty) : l.take (k + 1) = m.take (k + 1) := by
  rw [take_succ_getD l k ByteArray.empty h1, take_succ_getD m k ByteArray.empty h2, h, he]

end Go.Proofs.Ytpgcpmfemcfoaaa

/-
  Small facts of the laws' walks, and their helpers over lists of numbers: compared, marked, held. (Merged texts: LawH LawI Same.)
-/
/-
  Small facts that the walks of the laws use.
-/
namespace Go.Proofs.Ytpgcpmfemcfoaaa
open Go.RowKit

theorem quiet_below {w w' : World} (h : Quiet w w') : Below w.heap.size w w' := h.below _
end Go.Proofs.Ytpgcpmfemcfoaaa

/-
  The laws' helpers over lists of numbers: compared, marked, held. (Walks.)
-/
namespace Go.Proofs.Ytpgcpmfemcfoaaa
open Go.RowKit

def eqI (l m : List Int) : Bool := decide (l = m)
theorem eqI_self (l : List Int) : eqI l l = true := by unfold eqI; simp
theorem eqI_no {l m : List Int} {k : Nat} (h : l.getD k 0 ≠ m.getD k 0) : eqI l m = false := by
  unfold eqI; rw [decide_eq_false_iff_not]; rintro rfl; exact h rfl
theorem eqI_len {l m : List Int} (h : l.length ≠ m.length) : eqI l m = false := by
  unfold eqI; rw [decide_eq_false_iff_not]; rintro rfl; exact h rfl
theorem eqI_all {l m : List Int} {k : Nat} (hlen : l.length = m.length) (hk : ¬ k < l.length) (h : l.take k = m.take k) : eqI l m = true := by
  unfold eqI; rw [decide_eq_true_iff]
  rwa [List.take_of_length_le (by omega), List.take_of_length_le (by omega)] at h
theorem eqI_step {l m : List Int} {k : Nat} (h1 : k < l.length) (h2 : k < m.length) (h : l.take k = m.take k) (he : l.getD k 0 = m.getD k 0) : l.take (k + 1) = m.take (k + 1) := by
  rw [take_succ_getD l k 0 h1, take_succ_getD m k 0 h2, h, he]

end Go.Proofs.Ytpgcpmfemcfoaaa

/-
  Lists compared by the laws. (Walks.)
-/
namespace Go.Proofs.Ytpgcpmfemcfoaaa
open Go.RowKit

set_option maxHeartbeats 1000000 in
theorem sameInts_any (ao bo : Option Addr) (ca cb ln lm : Nat) (l m : List Int) (w : World) (hln : l.length = ln) (hlm : m.length = lm) (hl : l.length ≤ maxLen)
    (ha : CellsAt w ao (l.map (Value.int .i64))) (hb : CellsAt w bo (m.map (Value.int .i64))) :
    Calls Try.prog 16 #[.slice ao ln ca, .slice bo lm cb] w
      fun e w' => e = .returned (.bool (eqI l m)) ∧ Quiet w w' := by
  subst hln; subst hlm
  unfold maxLen at hl
  go_enter Try.func16, Try.ntmps16
  by_cases hlen : l.length = m.length
  · have hne : ((l.length : Int) != (m.length : Int)) = false := by simp [hlen]
    go_wp2
    go_loopw [5] (fun i wr => ∃ (k q : Nat), k ≤ l.length ∧ i = .int .i64 k ∧ wr = w.drewN q ∧ l.take k = m.take k) (fun i _ => l.length - (intOf i).toNat)
    case atStart => exact ⟨0, 0, Nat.zero_le _, rfl, rfl, rfl⟩
    case round =>
      obtain ⟨k, q, hk, rfl, rfl, hq⟩ := hrel
      have HQ := Lib.hid hq; clear hq
      by_cases hlt : k < l.length
      · obtain ⟨b, off, rfl, hck⟩ := ha.int k hlt
        obtain ⟨b', off', rfl, hck'⟩ := hb.int k (by omega)
        have hlt' : k < m.length := by omega
        have HS := Lib.hid (eqI_step hlt hlt' HQ.out)
        have HN := Lib.hid (@eqI_no l m k)
        have HL := Lib.hid hlen
        clear ha hb hlen
        generalize l.getD k 0 = s at *
        generalize m.getD k 0 = t at *
        by_cases hst : s = t
        · have hbe : (s == t) = true := beq_iff_eq.2 hst
          have hbn : (s != t) = false := by rw [bne_eq_false_iff_eq]; exact hst
          have HST := Lib.hid hst; clear hst
          go_wp2
          go_quiet (fail)
          go_wp2
          go_roundw
          case rel => exact ⟨k + 1, q + nq, by omega, by go_num, by simp, HS.out HST.out⟩
          case measure => simp [intOf]; omega
        · have hbe : (s == t) = false := beq_eq_false_iff_ne.2 hst
          have hbn : (s != t) = true := by rw [bne_iff_ne]; exact hst
          have HST := Lib.hid hst; clear hst
          go_wp2
          go_quiet (fail)
          go_wp2
          go_ret
          exact ⟨ret_bool (HN.out HST.out).symm, q + nq, by simp⟩
      · go_wp2
        go_ret
        exact ⟨ret_bool (eqI_all hlen hlt HQ.out).symm, _, rfl⟩
  · have hne : ((l.length : Int) != (m.length : Int)) = true := by simp; omega
    have hf := eqI_len hlen
    have HF := Lib.hid hf; clear hf hlen
    go_wp2
    go_ret
    exact ⟨ret_bool HF.out.symm, 0, rfl⟩

end Go.Proofs.Ytpgcpmfemcfoaaa
