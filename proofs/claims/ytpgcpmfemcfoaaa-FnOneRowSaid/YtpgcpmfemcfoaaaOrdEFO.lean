/-
  Merged texts: OrdE OrdF.
-/
import Derived.Test.YtpgcpmfemcfoaaaOrdABO

/-
  The same permutations: lists compared, both sides. (Walks.)
-/
namespace Go.Proofs.Ytpgcpmfemcfoaaa
open Go.RowKit

theorem take_eq_step {S T : List Int} {k : Nat} (h1 : k < S.length) (h2 : k < T.length) (h : S.take k = T.take k) (he : S.getD k 0 = T.getD k 0) : S.take (k + 1) = T.take (k + 1) := by
  rw [ints_push S k h1, ints_push T k h2, h, he]
theorem nth_ne {S T : List Int} {k : Nat} (he : ¬ S.getD k 0 = T.getD k 0) : S ≠ T := fun e => he (by rw [e])
theorem cells_int {w : World} {ao : Option Addr} {S : List Int} (h : CellsAt w ao (S.map (Value.int .i64))) {i : Nat} (hi : i < S.length) : ∃ b off, ao = some ⟨b, off, none⟩ ∧ w.cell? ⟨b, off + i, none⟩ = some (.int .i64 (S.getD i 0)) :=
  h i _ (by rw [List.getElem?_map, List.getElem?_eq_getElem hi]; simp [hi])

set_option maxHeartbeats 400000 in
theorem l5Equal_any (ao bo : Option Addr) (ca cb ln lm : Nat) (S T : List Int) (w : World) (hln : S.length = ln) (hlm : T.length = lm) (hl : S.length ≤ 1048576)
    (ha : CellsAt w ao (S.map (Value.int .i64))) (hb : CellsAt w bo (T.map (Value.int .i64))) :
    Calls Try.prog 39 #[.slice ao ln ca, .slice bo lm cb] w
      fun e w' => e = .returned (.bool (decide (S = T))) ∧ Quiet w w' := by
  subst hln; subst hlm
  go_enter Try.func39, Try.ntmps39
  by_cases hlen : S.length = T.length
  · have hne : ((S.length : Int) != (T.length : Int)) = false := by simp [hlen]
    go_wp2
    go_loopw [5] (fun i wr => ∃ (k q : Nat), k ≤ S.length ∧ i = .int .i64 k ∧ wr = w.drewN q ∧ S.take k = T.take k) (fun i _ => S.length - (intOf i).toNat)
    case atStart => exact ⟨0, 0, Nat.zero_le _, rfl, rfl, rfl⟩
    case round =>
      obtain ⟨k, q, hk, rfl, rfl, hq⟩ := hrel
      have HQ := Lib.hid hq; clear hq
      by_cases hlt : k < S.length
      · have hlt' : k < T.length := by omega
        obtain ⟨b, off, rfl, hck⟩ := cells_int ha hlt
        obtain ⟨b', off', rfl, hck'⟩ := cells_int hb hlt'
        have HS := Lib.hid (take_eq_step hlt hlt' HQ.out)
        have HN := Lib.hid (@nth_ne S T k)
        have HL := Lib.hid hlen
        clear ha hb hlen
        generalize S.getD k 0 = s at *
        generalize T.getD k 0 = t at *
        by_cases hst : s = t
        · have hd : (s != t) = false := by simp [hst]
          go_wp2
          go_quiet (fail)
          go_wp2
          go_roundw
          case rel => exact ⟨k + 1, q + nq, by omega, by go_num, by simp, HS.out hst⟩
          case measure => simp [intOf]; omega
        · have hd : (s != t) = true := by simp [hst]
          go_wp2
          go_quiet (fail)
          go_wp2
          go_ret
          exact ⟨ret_bool (decide_eq_false (HN.out hst)).symm, q + nq, by simp⟩
      · have he : S = T := by have := HQ.out; rwa [List.take_of_length_le (by omega), List.take_of_length_le (by omega)] at this
        have HE := Lib.hid he; clear he
        go_wp2
        go_ret
        exact ⟨ret_bool (decide_eq_true HE.out).symm, _, rfl⟩
  · have hne : ((S.length : Int) != (T.length : Int)) = true := by simp; omega
    have HF := Lib.hid (show ¬ S = T from fun e => hlen (by rw [e])); clear hlen
    go_wp2
    go_ret
    exact ⟨ret_bool (decide_eq_false HF.out).symm, 0, rfl⟩

theorem held_cells {w : World} {g : Nat} {S : List Nat} (h : HeldB w g 3 (setsV S)) : CellsAt w (some ⟨g, 0, none⟩) ((intsL S).map (Value.int .i64)) := fun i u hu => by
  refine ⟨g, 0, rfl, ?_⟩
  rw [Nat.zero_add, h.cell i, ← hu]
  simp [setsV, intsL, Function.comp_def]
end Go.Proofs.Ytpgcpmfemcfoaaa

/-
  The same permutations: the model's answer. (Walk.)
-/
namespace Go.Proofs.Ytpgcpmfemcfoaaa
open Go.RowKit

end Go.Proofs.Ytpgcpmfemcfoaaa
