
/-
  Plain mathematics of letters given anew: the different elements of a list in the order in which they first come. No program is named here.
-/
import Derived.Test.YtfemfmkgdgcemaaBase
namespace Go.Proofs.Ytfemfmkgdgcemaa

section
variable {α : Type} [DecidableEq α]

omit [DecidableEq α] in
theorem snoc_ind {P : List α → Prop} (h0 : P []) (h1 : ∀ l c, P l → P (l ++ [c])) (l : List α) : P l := by
  rw [← List.reverse_reverse l]
  induction l.reverse with
  | nil => exact h0
  | cons c t ih => rw [List.reverse_cons]; exact h1 _ _ ih

/-- the different elements of a list, in the order in which they first come -/
def firstsGo (o : List α) (L : List α) : List α := L.foldl (fun o c => if c ∈ o then o else o ++ [c]) o
def firsts (L : List α) : List α := firstsGo [] L

theorem firstsGo_prefix (L : List α) : ∀ o : List α, o <+: firstsGo o L := by
  induction L with
  | nil => exact fun o => List.prefix_refl o
  | cons c L ih =>
    intro o
    unfold firstsGo
    rw [List.foldl_cons]
    split
    · exact ih o
    · exact (List.prefix_append o [c]).trans (ih (o ++ [c]))

theorem firsts_append (P R : List α) : firsts (P ++ R) = firstsGo (firsts P) R := by
  unfold firsts firstsGo; rw [List.foldl_append]

theorem firsts_snoc (P : List α) (c : α) : firsts (P ++ [c]) = if c ∈ firsts P then firsts P else firsts P ++ [c] := by
  rw [firsts_append]; rfl

theorem firsts_prefix (P R : List α) : firsts P <+: firsts (P ++ R) := by
  rw [firsts_append]; exact firstsGo_prefix R _

theorem firsts_mem_snoc (P : List α) (c : α) : c ∈ firsts (P ++ [c]) := by
  rw [firsts_snoc]; split
  · assumption
  · simp

theorem mem_firsts (L : List α) (x : α) : x ∈ firsts L ↔ x ∈ L := by
  induction L using snoc_ind with
  | h0 => simp [firsts, firstsGo]
  | h1 P c ih =>
    rw [firsts_snoc, List.mem_append, List.mem_singleton]
    split
    · rename_i hc
      constructor
      · intro h; exact .inl (ih.1 h)
      · rintro (h | rfl)
        · exact ih.2 h
        · exact hc
    · rw [List.mem_append, List.mem_singleton, ih]

theorem firsts_nodup (L : List α) : (firsts L).Nodup := by
  induction L using snoc_ind with
  | h0 => simp [firsts, firstsGo]
  | h1 P c ih =>
    rw [firsts_snoc]
    split
    · exact ih
    · rename_i hc
      rw [List.nodup_append]
      refine ⟨ih, by simp, ?_⟩
      intro a ha b hb
      rw [List.mem_singleton] at hb
      subst hb
      rintro rfl
      exact hc ha

theorem firsts_len (L : List α) : (firsts L).length ≤ L.length := by
  induction L using snoc_ind with
  | h0 => simp [firsts, firstsGo]
  | h1 P c ih =>
    rw [firsts_snoc, List.length_append]
    split
    · simp; omega
    · simp; omega

theorem idxOf_prefix {o F : List α} (h : o <+: F) {c : α} (hc : c ∈ o) : F.idxOf c = o.idxOf c := by
  obtain ⟨t, rfl⟩ := h
  rw [List.idxOf_append, if_pos hc]

theorem idxOf_not_mem {o : List α} {c : α} (h : c ∉ o) : o.idxOf c = o.length := List.idxOf_eq_length h

/-- the number that an element gets is told by what came ahead of it -/
theorem name_at (P R : List α) (c : α) : (firsts (P ++ c :: R)).idxOf c = (firsts P).idxOf c := by
  have h := idxOf_prefix (firsts_prefix (P ++ [c]) R) (firsts_mem_snoc P c)
  rw [List.append_assoc, List.singleton_append] at h
  rw [h, firsts_snoc]
  split
  · rfl
  · rename_i hc
    rw [List.idxOf_append, if_neg hc, idxOf_not_mem hc]
    simp

theorem idxOf_found {o : List α} {c z : α} {at_ : Nat} (h1 : at_ < o.length) (h2 : ∀ j, j < at_ → o.getD j z ≠ c) (h3 : o.getD at_ z = c) : o.idxOf c = at_ := by
  induction o generalizing at_ with
  | nil => simp at h1
  | cons x o ih =>
    cases at_ with
    | zero => simp only [List.getD_cons_zero] at h3; subst h3; simp
    | succ k =>
      have hx := h2 0 (by omega)
      simp only [List.getD_cons_zero] at hx
      simp only [List.getD_cons_succ] at h3
      rw [List.idxOf_cons, beq_false_of_ne hx, cond_false, ih (at_ := k) (by simpa using h1) (fun j hj => by simpa using h2 (j + 1) (by omega)) h3]

omit [DecidableEq α] in
theorem not_mem_of {o : List α} {c z : α} (h2 : ∀ j, j < o.length → o.getD j z ≠ c) : c ∉ o := by
  intro hc
  obtain ⟨j, hj, rfl⟩ := List.getElem_of_mem hc
  exact h2 j hj (by simp [hj])
end

/-- all bytes of a list of texts -/
def flat (p : List ByteArray) : List UInt8 := p.flatMap fun s => s.data.toList

theorem flat_snoc (p : List ByteArray) (s : ByteArray) : flat (p ++ [s]) = flat p ++ s.data.toList := by simp [flat]

theorem flat_split (p : List ByteArray) (i k : Nat) (h : i < p.length) (hk : k < (p.getD i ByteArray.empty).data.toList.length) :
    flat p = (flat (p.take i) ++ (p.getD i ByteArray.empty).data.toList.take k) ++ (p.getD i ByteArray.empty).data.toList.getD k 0 :: ((p.getD i ByteArray.empty).data.toList.drop (k + 1) ++ flat (p.drop (i + 1))) := by
  conv => lhs; rw [← List.take_append_drop i p, drop_getD p i ByteArray.empty h]
  unfold flat
  rw [List.flatMap_append, List.flatMap_cons]
  conv => lhs; rw [← List.take_append_drop k (p.getD i ByteArray.empty).data.toList, drop_getD _ k 0 hk]
  simp

/-- bytes given anew by an order -/
def namesL (F l : List UInt8) : List UInt8 := l.map fun c => UInt8.ofNat (97 + F.idxOf c)
/-- texts whose letters are given anew, in the order of first cells -/
def namesB (p : List ByteArray) : List ByteArray := p.map fun s => ⟨(namesL (firsts (flat p)) s.data.toList).toArray⟩

theorem namesB_len (p : List ByteArray) : (namesB p).length = p.length := by simp [namesB]

theorem flat_len (p : List ByteArray) (m : Nat) (hs : ∀ s ∈ p, s.size ≤ m) : (flat p).length ≤ p.length * m := by
  induction p with
  | nil => simp [flat]
  | cons s p ih =>
    have h1 := hs s (by simp)
    have h2 := ih (fun t ht => hs t (by simp [ht]))
    have : (flat (s :: p)).length = s.size + (flat p).length := by
      unfold flat; rw [List.flatMap_cons, List.length_append, Array.length_toList]; rfl
    rw [this, List.length_cons, Nat.add_mul]
    omega

theorem namesB_step (p : List ByteArray) (i : Nat) (h : i < p.length) : (namesB p).take (i + 1) = (namesB p).take i ++ [⟨(namesL (firsts (flat p)) (p.getD i ByteArray.empty).data.toList).toArray⟩] := by
  rw [take_succ_getD _ i ByteArray.empty (by rw [namesB_len]; exact h)]
  congr 2
  simp [namesB, h]

theorem namesL_step (F l : List UInt8) (k : Nat) (h : k < l.length) : namesL F (l.take (k + 1)) = namesL F (l.take k) ++ [UInt8.ofNat (97 + F.idxOf (l.getD k 0))] := by
  rw [take_succ_getD l k 0 h]; simp [namesL]

/-! ### folds over cells, row by row -/
def rowFold {σ : Type} (f : Nat → Nat → UInt8 → σ → σ) (i : Nat) : Nat → List UInt8 → σ → σ
  | _, [], st => st
  | k, c :: t, st => rowFold f i (k + 1) t (f i k c st)
def gridFold {σ : Type} (f : Nat → Nat → UInt8 → σ → σ) : Nat → List ByteArray → σ → σ
  | _, [], st => st
  | i, s :: t, st => gridFold f (i + 1) t (rowFold f i 0 s.data.toList st)

theorem rowFold_step {σ : Type} (f : Nat → Nat → UInt8 → σ → σ) (i k : Nat) (l : List UInt8) (st : σ) (h : k < l.length) : rowFold f i k (l.drop k) st = rowFold f i (k + 1) (l.drop (k + 1)) (f i k (l.getD k 0) st) := by
  rw [drop_getD l k 0 h, rowFold]
theorem rowFold_end {σ : Type} (f : Nat → Nat → UInt8 → σ → σ) (i k : Nat) (l : List UInt8) (st : σ) (h : ¬ k < l.length) : rowFold f i k (l.drop k) st = st := by
  rw [List.drop_eq_nil_of_le (by omega), rowFold]
theorem gridFold_step {σ : Type} (f : Nat → Nat → UInt8 → σ → σ) (i : Nat) (p : List ByteArray) (st : σ) (h : i < p.length) : gridFold f i (p.drop i) st = gridFold f (i + 1) (p.drop (i + 1)) (rowFold f i 0 (p.getD i ByteArray.empty).data.toList st) := by
  rw [drop_getD p i ByteArray.empty h, gridFold]
theorem gridFold_end {σ : Type} (f : Nat → Nat → UInt8 → σ → σ) (i : Nat) (p : List ByteArray) (st : σ) (h : ¬ i < p.length) : gridFold f i (p.drop i) st = st := by
  rw [List.drop_eq_nil_of_le (by omega), gridFold]

def roomsF (_ _ : Nat) (c : UInt8) (n : Int) : Int := if n < (c.toNat : Int) - 97 + 1 then (c.toNat : Int) - 97 + 1 else n
def roomsB (p : List ByteArray) : Int := gridFold roomsF 0 p 0
def cellsF (room : Int) (_ _ : Nat) (c : UInt8) (n : Int) : Int := if (c.toNat : Int) - 97 = room then n + 1 else n
def cellsB (p : List ByteArray) (room : Int) : Int := gridFold (cellsF room) 0 p 0
structure Box4 where
  top : Int
  left : Int
  low : Int
  right : Int
def boxF (room : Int) (i k : Nat) (c : UInt8) (b : Box4) : Box4 :=
  if (c.toNat : Int) - 97 = room then ⟨if (i : Int) < b.top then i else b.top, if (k : Int) < b.left then k else b.left, if b.low < (i : Int) then i else b.low, if b.right < (k : Int) then k else b.right⟩ else b
def boxB (p : List ByteArray) (room : Int) : Box4 := gridFold (boxF room) 0 p ⟨p.length, (p.getD 0 ByteArray.empty).size, -1, -1⟩

end Go.Proofs.Ytfemfmkgdgcemaa
