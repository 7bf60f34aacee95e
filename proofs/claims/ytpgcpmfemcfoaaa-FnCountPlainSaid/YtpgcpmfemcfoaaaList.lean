
/-
  Merged texts: LawN ListA.
-/
import Derived.Test.YtpgcpmfemcfoaaaLaws
import Derived.Test.YtpgcpmfemcfoaaaNests
import Derived.Test.YtpgcpmfemcfoaaaSpecWX

/-
  The laws' helpers over lists of lists of numbers: compared, marked, held. (Walks.)
-/
namespace Go.Proofs.Ytpgcpmfemcfoaaa
open Go.RowKit

theorem RowsAt.cellRow {w : World} {base : Nat} {ao : Option Addr} {cap : Nat} {L : List (List Int)} {us : List Value} (h : RowsAt w base ao cap L us) {i : Nat} (hi : i < L.length) :
    ∃ bb off bo c, ao = some ⟨bb, off, none⟩ ∧ w.cell? ⟨bb, off + i, none⟩ = some (.slice bo (L.getD i []).length c) ∧ w.ownsRow base 3 1 (.slice bo (L.getD i []).length c) (L.getD i []).length ((L.getD i []).map (Value.int .i64)) ∧ us[i]? = some (.slice bo (L.getD i []).length c) := by
  have he : L[i]? = some (L.getD i []) := by simp [hi]
  obtain ⟨bo, c, h1, h2, _⟩ := h.2.1 i _ he
  obtain ⟨bb, off, hb, hc⟩ := owns_cells h.1 i _ h1
  exact ⟨bb, off, bo, c, hb, hc, h2, h1⟩

/-- marks from number k on, in the place of each number -/
def marksR (k : Nat) : List (List Int) → List (List Int)
  | [] => []
  | l :: L => marksI k l.length :: marksR (k + l.length) L
def totR : List (List Int) → Nat
  | [] => 0
  | l :: L => l.length + totR L
theorem marksR_len : ∀ (k : Nat) (L : List (List Int)), (marksR k L).length = L.length
  | _, [] => rfl
  | k, l :: L => by unfold marksR; rw [List.length_cons, marksR_len, List.length_cons]
theorem totR_take : ∀ (L : List (List Int)) (j : Nat), j < L.length → totR (L.take (j + 1)) = totR (L.take j) + (L.getD j []).length
  | [], j, h => by simp at h
  | l :: L, 0, _ => by simp [totR]
  | l :: L, j + 1, h => by
    have := totR_take L j (by simpa using h)
    simp only [List.take_succ_cons, totR, this, List.getD_cons_succ]
    omega
theorem totR_le : ∀ (L : List (List Int)) (j : Nat), totR (L.take j) ≤ totR L
  | [], j => by simp [totR]
  | l :: L, 0 => Nat.zero_le _
  | l :: L, j + 1 => by have := totR_le L j; simp only [List.take_succ_cons, totR]; omega
theorem marksR_getD : ∀ (k : Nat) (L : List (List Int)) (j : Nat), j < L.length → (marksR k L).getD j [] = marksI (k + totR (L.take j)) (L.getD j []).length
  | k, [], j, h => by simp at h
  | k, l :: L, 0, _ => by simp [marksR, totR]
  | k, l :: L, j + 1, h => by
    have := marksR_getD (k + l.length) L j (by simpa using h)
    simp only [marksR, List.getD_cons_succ, this, List.take_succ_cons, totR]
    rw [Nat.add_assoc]
theorem marksR_step (k : Nat) (L : List (List Int)) (j : Nat) (h : j < L.length) : marksR k (L.take (j + 1)) ++ L.drop (j + 1) = marksR k (L.take j) ++ marksI (k + totR (L.take j)) (L.getD j []).length :: L.drop (j + 1) := by
  induction L generalizing k j with
  | nil => simp at h
  | cons l L ih =>
    cases j with
    | zero => simp [marksR, totR]
    | succ j =>
      have := ih (k + l.length) j (by simpa using h)
      simp only [List.take_succ_cons, marksR, List.drop_succ_cons, List.cons_append, this, totR, List.getD_cons_succ, Nat.add_assoc]
theorem rows_len_mem {L : List (List Int)} {n : Nat} (h : totR L ≤ n) : ∀ l ∈ L, l.length ≤ n := by
  induction L with
  | nil => intro l hl; simp at hl
  | cons x L ih =>
    intro l hl
    unfold totR at h
    rcases List.mem_cons.1 hl with rfl | hl
    · omega
    · exact ih (by omega) l hl

/-- one row is written anew -/
theorem RowsAt.put {w w' : World} {base : Nat} {ao : Option Addr} {cap : Nat} {A B : List (List Int)} {l l' : List Int} {us : List Value} {bo : Option Addr} {c : Nat} (h : RowsAt w base ao cap (A ++ l :: B) us)
    (hu : us[A.length]? = some (.slice bo l.length c)) (hg : w.grownBy w' (Value.ownBlock (.slice bo l.length c))) (hl : l'.length = l.length) (hown : w'.ownsRow base 3 1 (.slice bo l.length c) l.length (l'.map (Value.int .i64))) :
    RowsAt w' base ao cap (A ++ l' :: B) us := by
  have hlen : (A ++ l' :: B).length = (A ++ l :: B).length := by simp
  have hin := h.2.1 A.length l (by simp)
  obtain ⟨bo', c', e1, e2, e3⟩ := hin
  rw [hu] at e1
  simp only [Option.some.injEq, Value.slice.injEq, true_and] at e1
  obtain ⟨rfl, rfl⟩ := e1
  refine ⟨by rw [hlen]; exact owns_kept h.1 hg e3, fun i x hx => ?_, h.2.2⟩
  by_cases hi : i = A.length
  · subst hi
    rw [List.getElem?_append_right (Nat.le_refl _), Nat.sub_self, List.getElem?_cons_zero, Option.some.injEq] at hx
    subst hx
    exact ⟨bo, c, by rw [hl]; exact hu, by rw [hl]; exact hown, e3⟩
  · have hx' : (A ++ l :: B)[i]? = some x := by
      rcases Nat.lt_or_ge i A.length with h' | h'
      · rw [List.getElem?_append_left h'] at hx ⊢; exact hx
      · obtain ⟨m, hm⟩ : ∃ m, i - A.length = m + 1 := ⟨i - A.length - 1, by omega⟩
        rw [List.getElem?_append_right h', hm, List.getElem?_cons_succ] at hx ⊢; exact hx
    obtain ⟨b2, c2, f1, f2, f3⟩ := h.2.1 i x hx'
    exact ⟨b2, c2, f1, owns_kept f2 hg (h.2.2 i A.length _ _ _ _ _ _ hi f1 hu), f3⟩

end Go.Proofs.Ytpgcpmfemcfoaaa

/-
  All walls told: the model's answer and the program's. (Walks.)
-/
namespace Go.Proofs.Ytpgcpmfemcfoaaa
open Go.RowKit

/-- a slice of slices and a word, handed back -/
def RowsRet (base : Nat) (T : List (List Int)) (b : Bool) (e : Ending) (w' : World) : Prop :=
  ∃ ro rc, e = .returned (.tuple #[.slice ro T.length rc, .bool b]) ∧ RowsOwn w' base ro rc T

def listOr (p : List ByteArray) : List (List Int) := (wallsP p).map wlN
theorem listOr_len (p : List ByteArray) : (listOr p).length ≤ 72 := by unfold listOr; rw [List.length_map]; exact wallsP_len p
theorem listOr_tot (p : List ByteArray) : totR (listOr p) ≤ 288 := by
  have key : ∀ L : List Wl, totR (L.map wlN) = L.length * 4 := fun L => by
    induction L with
    | nil => rfl
    | cons x L ih => simp only [List.map_cons, totR, ih, List.length_cons, Nat.succ_mul]; simp [wlN]; omega
  unfold listOr
  rw [key]
  have := wallsP_len p
  omega

end Go.Proofs.Ytpgcpmfemcfoaaa
