/-
  Merged texts: Nest NestB.
-/
import Derived.Test.YtpgcpmfemcfoaaaWallsO

/-
  Slices of slices of numbers that the call itself makes. (No function of the program is named.)
-/
namespace Go.Proofs.Ytpgcpmfemcfoaaa
open Go.RowKit

/-- a slice of slices, all of the call's own: the rows, and each apart from the others and from what holds them -/
def RowsAt (w : World) (base : Nat) (ao : Option Addr) (cap : Nat) (L : List (List Int)) (us : List Value) : Prop :=
  w.ownsRow base 32 1 (.slice ao L.length cap) L.length us ∧
  (∀ (i : Nat) (l : List Int), L[i]? = some l → ∃ bo c, us[i]? = some (.slice bo l.length c) ∧ w.ownsRow base 3 1 (.slice bo l.length c) l.length (l.map (Value.int .i64)) ∧ Apart ao bo) ∧
  (∀ (i j : Nat) bo m c bo' m' c', i ≠ j → us[i]? = some (.slice bo m c) → us[j]? = some (.slice bo' m' c') → Apart bo bo')

def RowsOwn (w : World) (base : Nat) (ao : Option Addr) (cap : Nat) (L : List (List Int)) : Prop := ∃ us, RowsAt w base ao cap L us

theorem RowsAt.len {w : World} {base : Nat} {ao : Option Addr} {cap : Nat} {L : List (List Int)} {us : List Value} (h : RowsAt w base ao cap L us) : us.length = L.length := ownsRow_len h.1

theorem RowsAt.below {w w' : World} {base : Nat} {ao : Option Addr} {cap : Nat} {L : List (List Int)} {us : List Value} (h : RowsAt w base ao cap L us) (hb : Below w.heap.size w w') : RowsAt w' base ao cap L us :=
  ⟨ownsRow_below h.1 hb, fun i l hl => by obtain ⟨bo, c, h1, h2, h3⟩ := h.2.1 i l hl; exact ⟨bo, c, h1, ownsRow_below h2 hb, h3⟩, h.2.2⟩
theorem RowsOwn.below {w w' : World} {base : Nat} {ao : Option Addr} {cap : Nat} {L : List (List Int)} (h : RowsOwn w base ao cap L) (hb : Below w.heap.size w w') : RowsOwn w' base ao cap L := by
  obtain ⟨us, h⟩ := h; exact ⟨us, h.below hb⟩
theorem RowsAt.base {w : World} {base base' : Nat} {ao : Option Addr} {cap : Nat} {L : List (List Int)} {us : List Value} (h : RowsAt w base ao cap L us) (hb : base' ≤ base) : RowsAt w base' ao cap L us :=
  ⟨ownsRow_base h.1 hb, fun i l hl => by obtain ⟨bo, c, h1, h2, h3⟩ := h.2.1 i l hl; exact ⟨bo, c, h1, ownsRow_base h2 hb, h3⟩, h.2.2⟩
theorem RowsOwn.base {w : World} {base base' : Nat} {ao : Option Addr} {cap : Nat} {L : List (List Int)} (h : RowsOwn w base ao cap L) (hb : base' ≤ base) : RowsOwn w base' ao cap L := by
  obtain ⟨us, h⟩ := h; exact ⟨us, h.base hb⟩
theorem RowsOwn.eq {w : World} {base : Nat} {ao : Option Addr} {cap : Nat} {L L' : List (List Int)} (h : RowsOwn w base ao cap L) (he : L = L') : RowsOwn w base ao cap L' := he ▸ h

theorem rowsOwn_made (w : World) : RowsOwn (w.alloc (.cells #[] 32)) w.heap.size (some ⟨w.heap.size, 0, none⟩) 0 [] :=
  ⟨[], World.ownsRow_made w #[] 0 (Nat.le_refl _) (Nat.zero_le _) rfl, fun i l h => by simp at h, fun i j bo m c bo' m' c' _ h _ => by simp at h⟩

/-- all rows lie in memory that is there -/
theorem RowsAt.lt {w : World} {base : Nat} {ao : Option Addr} {cap : Nat} {L : List (List Int)} {us : List Value} (h : RowsAt w base ao cap L us) {i : Nat} {bo : Option Addr} {m c : Nat} (hu : us[i]? = some (.slice bo m c)) :
    ∀ a, bo = some a → base ≤ a.block ∧ a.block < w.heap.size := by
  have hi : i < L.length := by rw [← h.len]; exact (List.getElem?_eq_some_iff.1 hu).1
  obtain ⟨bo', c', h1, h2, _⟩ := h.2.1 i L[i] (List.getElem?_eq_getElem hi)
  rw [h1] at hu
  simp only [Option.some.injEq, Value.slice.injEq] at hu
  obtain ⟨rfl, _, _⟩ := hu
  exact owns_lt h2

/-- one more row, appended -/
theorem RowsAt.push {w W2 w' : World} {base : Nat} {ao ao' : Option Addr} {cap cap' : Nat} {L : List (List Int)} {us : List Value} (h : RowsAt w base ao cap L us) {l : List Int} {go : Option Addr} {c : Nat}
    (hb : Below w.heap.size w W2) (hl : W2.ownsRow base 3 1 (.slice go l.length c) l.length (l.map (Value.int .i64))) (hg0 : ∀ a, go = some a → w.heap.size ≤ a.block)
    (hown : w'.ownsRow base 32 1 (.slice ao' (L.length + 1) cap') (L.length + 1) (us ++ [.slice go l.length c])) (hg : W2.grownBy w' (Value.ownBlock (.slice ao L.length cap))) (hnew : NewOr W2 ao ao') :
    RowsAt w' base ao' cap' (L ++ [l]) (us ++ [.slice go l.length c]) := by
  have hlt := owns_lt h.1
  have hlen := h.len
  have hapl : Apart ao go := fun a b ha hb' => by have := (hlt a ha).2; have := hg0 b hb'; omega
  refine ⟨by rw [List.length_append]; exact hown, fun i x hx => ?_, fun i j bo m c1 bo' m' c2 hij h1 h2 => ?_⟩
  · rcases Nat.lt_trichotomy i L.length with hi | hi | hi
    · rw [List.getElem?_append_left hi] at hx
      obtain ⟨bo, c1, e1, e2, e3⟩ := h.2.1 i x hx
      refine ⟨bo, c1, by rw [List.getElem?_append_left (by omega)]; exact e1, owns_kept (ownsRow_below e2 hb) hg e3.symm, ?_⟩
      exact e3.push hnew (fun b hb' => by have := (owns_lt e2 b hb').2; have := hb.size; omega)
    · subst hi
      rw [List.getElem?_append_right (Nat.le_refl _), Nat.sub_self] at hx
      simp only [List.getElem?_cons_zero, Option.some.injEq] at hx
      subst hx
      refine ⟨go, c, by rw [List.getElem?_append_right (by omega), hlen, Nat.sub_self]; rfl, owns_kept hl hg hapl.symm, ?_⟩
      exact hapl.push hnew (fun b hb' => (owns_lt hl b hb').2)
    · rw [List.getElem?_eq_none (by rw [List.length_append]; simp only [List.length_singleton]; omega)] at hx; cases hx
  · have hap : ∀ (i j : Nat) (bo : Option Addr) (m c1 : Nat) (bo' : Option Addr) (m' c2 : Nat), i < us.length → j = us.length → us[i]? = some (.slice bo m c1) → (us ++ [Value.slice go l.length c])[j]? = some (.slice bo' m' c2) → Apart bo bo' := by
      intro i j bo m c1 bo' m' c2 hi hj h1 h2
      subst hj
      rw [List.getElem?_append_right (Nat.le_refl _), Nat.sub_self] at h2
      simp only [List.getElem?_cons_zero, Option.some.injEq, Value.slice.injEq] at h2
      obtain ⟨rfl, _, _⟩ := h2
      intro a b ha hb'
      have := (h.lt h1 a ha).2
      have := hg0 b hb'
      omega
    have hi := (List.getElem?_eq_some_iff.1 h1).1
    have hj := (List.getElem?_eq_some_iff.1 h2).1
    rw [List.length_append] at hi hj
    simp only [List.length_singleton] at hi hj
    by_cases hi' : i < us.length
    · by_cases hj' : j < us.length
      · rw [List.getElem?_append_left hi'] at h1
        rw [List.getElem?_append_left hj'] at h2
        exact h.2.2 i j bo m c1 bo' m' c2 hij h1 h2
      · rw [List.getElem?_append_left hi'] at h1
        exact hap i j bo m c1 bo' m' c2 hi' (by omega) h1 h2
    · by_cases hj' : j < us.length
      · rw [List.getElem?_append_left hj'] at h2
        exact (hap j i bo' m' c2 bo m c1 hj' (by omega) h2 h1).symm
      · omega

theorem owns_lit (w : World) (base : Nat) (e : TypeId) (l : List Value) (hb : base ≤ w.heap.size) (hm : l.length ≤ maxLen) : (w.alloc (.cells l.toArray e)).ownsRow base e 1 (.slice (some ⟨w.heap.size, 0, none⟩) l.length l.length) l.length l :=
  ⟨by simp, .inr ⟨w.heap.size, l.length, l.toArray, rfl, hb, HeldB.new _ _ _, Nat.le_refl _, hm, by simp, by simp⟩⟩
theorem cell_new2 (w : World) (o : Obj) (v : Value) (t : TypeId) : ((w.alloc o).alloc (.cells #[v] t)).cell? ⟨w.heap.size + 1, 0, none⟩ = some v := by
  have := cell_new (w.alloc o) v t
  rwa [World.size_alloc] at this

theorem Try.infoRow : (Try.prog.info? 32).map (fun i => (i.zero, i.size, i.bytes)) = some (some (.slice none 0 0), 1, 24) := by kernel_rfl
theorem Try.infoNum : (Try.prog.info? 3).map (fun i => (i.zero, i.size, i.bytes)) = some (some (.int .i64 0), 1, 8) := by kernel_rfl

end Go.Proofs.Ytpgcpmfemcfoaaa

/-
  Slices of slices of numbers, to be read. (No function of the program is named.)
-/
namespace Go.Proofs.Ytpgcpmfemcfoaaa
open Go.RowKit

/-- a row, to be read -/
theorem RowsAt.row {w : World} {base : Nat} {uo : Option Addr} {uc : Nat} {U : List (List Int)} {us : List Value} (h : RowsAt w base uo uc U us) {i : Nat} (hi : i < U.length) (hne : 0 < (U.getD i []).length) :
    ∃ bb off g c, uo = some ⟨bb, off, none⟩ ∧ w.cell? ⟨bb, off + i, none⟩ = some (.slice (some ⟨g, 0, none⟩) (U.getD i []).length c) ∧ CellsAt w (some ⟨g, 0, none⟩) ((U.getD i []).map (Value.int .i64)) ∧ base ≤ bb ∧ base ≤ g ∧ bb < w.heap.size ∧ g < w.heap.size := by
  have he : U[i]? = some (U.getD i []) := by simp [hi]
  obtain ⟨bo, c, h1, h2, _⟩ := h.2.1 i _ he
  obtain ⟨g, cap, hv, hg1, hg2⟩ := ownsRow_some h2 hne
  simp only [Value.slice.injEq] at hv
  obtain ⟨rfl, _, rfl⟩ := hv
  obtain ⟨bb, off, hb, hc⟩ := owns_cells h.1 i _ h1
  have hl := owns_lt h.1 _ hb
  exact ⟨bb, off, g, c, hb, hc, owns_cells h2, hl.1, hg1, hl.2, hg2⟩

theorem grownBy_step {W1 wr w' : World} {b : Nat} {row : Option Nat} (h : W1.grownBy wr (some b)) (hg : wr.grownBy w' row) (hr : ∀ k, row = some k → k = b ∨ W1.heap.size ≤ k) : W1.grownBy w' (some b) :=
  ⟨hg.os.trans h.os, hg.tape.trans h.tape, hg.output.trans h.output, Nat.le_trans h.size hg.size, fun k hk hne => (hg.block k (Nat.lt_of_lt_of_le hk h.size) (fun e => by
    rcases hr k e.symm with h' | h'
    · exact hne (by rw [h'])
    · omega)).trans (h.block k hk hne)⟩
theorem ownBlock_is {ao : Option Addr} {m cap k : Nat} (h : Value.ownBlock (.slice ao m cap) = some k) : ∃ a, ao = some a ∧ a.block = k := by
  cases ao with
  | none => simp [Value.ownBlock] at h
  | some a => simp only [Value.ownBlock, Option.some.injEq] at h; exact ⟨a, rfl, h⟩

end Go.Proofs.Ytpgcpmfemcfoaaa
