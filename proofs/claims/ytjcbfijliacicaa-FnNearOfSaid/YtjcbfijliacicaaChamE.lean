
/-
  All cells along walls, wall by wall, are the cells along which rooms lie beside each other. (Plain mathematics.)
-/
import Derived.Test.YtjcbfijliacicaaChamM
import Derived.Test.YtjcbfijliacicaaNearM
namespace Go.Proofs.Ytjcbfijliacicaa
open Go.RowKit

theorem sumN_cut (a b : Nat) (f : Nat → Nat) : sumN (a + b) f = sumN a f + sumN b (fun i => f (a + i)) := by
  induction b with
  | zero => rfl
  | succ b ih => show sumN (a + b) f + f (a + b) = sumN a f + (sumN b _ + f (a + b)); rw [ih, Nat.add_assoc]

/-- how often two rooms stand beside each other in a list of pairs -/
def cntE (E : List (Nat × Nat)) (a b : Nat) : Nat := E.countP fun e => decide (e = (a, b) ∨ e = (b, a))
theorem cntE_append (E F : List (Nat × Nat)) (a b : Nat) : cntE (E ++ F) a b = cntE E a b + cntE F a b := by simp [cntE, List.countP_append]
theorem cntE_one (x y a b : Nat) : cntE [(x, y)] a b = if (x = a ∧ y = b) ∨ (x = b ∧ y = a) then 1 else 0 := by
  unfold cntE; rw [List.countP_singleton]; simp only [Prod.mk.injEq, decide_eq_true_eq]
/-- the rooms on both sides of a wall, cell by cell -/
def edgesN (g : Nat → Nat → Nat) (x : Wl) (n : Nat) : List (Nat × Nat) := (List.range n).map fun t => (sideA g x.way x.line (x.first + t), sideB g x.way x.line (x.first + t))
def edgesW (g : Nat → Nat → Nat) (x : Wl) : List (Nat × Nat) := edgesN g x x.long
theorem edgesN_succ (g : Nat → Nat → Nat) (x : Wl) (n : Nat) : edgesN g x (n + 1) = edgesN g x n ++ [(sideA g x.way x.line (x.first + n), sideB g x.way x.line (x.first + n))] := by
  unfold edgesN; rw [List.range_succ, List.map_append]; rfl
def edgesL (g : Nat → Nat → Nat) (L : List Wl) : List (Nat × Nat) := L.flatMap (edgesW g)
theorem edgesL_append (g : Nat → Nat → Nat) (L K : List Wl) : edgesL g (L ++ K) = edgesL g L ++ edgesL g K := by simp [edgesL]
theorem edgesL_one (g : Nat → Nat → Nat) (x : Wl) : edgesL g [x] = edgesW g x := by simp [edgesL]

def hitE (g : Nat → Nat → Nat) (way : Nat) (a b line i : Nat) : Bool := decide ((sideA g way line i = a ∧ sideB g way line i = b) ∨ (sideA g way line i = b ∧ sideB g way line i = a))
theorem cntE_edges (g : Nat → Nat → Nat) (x : Wl) (a b : Nat) : ∀ n, cntE (edgesN g x n) a b = sumN n fun t => if hitE g x.way a b x.line (x.first + t) = true then 1 else 0
  | 0 => rfl
  | n + 1 => by
    rw [edgesN_succ, cntE_append, cntE_edges g x a b n, cntE_one]
    show _ = sumN n _ + _
    unfold hitE
    simp only [decide_eq_true_eq]

/-- where the runs that begin ahead of a cell end -/
def endW (f : Nat → Bool) (n t : Nat) : Nat := if 0 < t ∧ f (t - 1) = true then downTo f t + runFrom f n (downTo f t) else t
theorem endW_all {f : Nat → Bool} {n : Nat} : endW f n n = n := by
  unfold endW
  split
  · rename_i h
    have h1 := downTo_le f n
    rw [runFrom_eq h1 (Nat.le_refl _) (fun i a b => downTo_all f n i a b) (fun h => absurd h (Nat.lt_irrefl _))]
    omega
  · rfl
/-- cells of runs: the cells at which the line is a wall -/
theorem cntE_line (g : Nat → Nat → Nat) (f : Nat → Bool) (way k n a b : Nat) : ∀ t, t ≤ n → cntE (edgesL g (lineL way k (lineW f n t))) a b = sumN (endW f n t) fun i => if (f i && hitE g way a b k i) = true then 1 else 0
  | 0, _ => by
    have : endW f n 0 = 0 := by unfold endW; rw [if_neg (by omega)]
    rw [this]; rfl
  | t + 1, ht => by
    have ih := cntE_line g f way k n a b t (by omega)
    cases hf : f t
    · have e1 : endW f n (t + 1) = t + 1 := by unfold endW; rw [if_neg (by rw [Nat.add_sub_cancel, hf]; simp)]
      have e0 : endW f n t = t := by
        unfold endW
        split
        · have h1 := downTo_le f t
          rw [runFrom_eq h1 (by omega) (fun i a b => downTo_all f t i a b) (fun _ => hf)]
          omega
        · rfl
      rw [lineW_no hf, ih, e0, e1]
      show _ = sumN t _ + (if (f t && hitE g way a b k t) = true then 1 else 0)
      rw [hf]; rfl
    · have e1 : endW f n (t + 1) = downTo f t + runFrom f n (downTo f t) := by unfold endW; rw [if_pos ⟨by omega, by rw [Nat.add_sub_cancel]; exact hf⟩, downTo_go hf]
      by_cases hd : downTo f t = t
      · have e0 : endW f n t = t := by
          unfold endW
          rw [if_neg]
          rintro ⟨h0, h1⟩
          obtain ⟨s, rfl⟩ : ∃ s, t = s + 1 := ⟨t - 1, by omega⟩
          rw [Nat.add_sub_cancel] at h1
          rw [downTo_go h1] at hd
          have := downTo_le f s; omega
        rw [lineW_new hf hd, e1, hd]
        unfold lineL at ih ⊢
        rw [List.map_append, edgesL_append, cntE_append, ih, e0, sumN_cut]
        congr 1
        rw [List.map_singleton, edgesL_one]
        unfold edgesW
        rw [cntE_edges]
        refine sumN_congr fun i hi => ?_
        have : f (t + i) = true := runFrom_all (n := n) (s := t) (by omega) (by simpa using hi)
        rw [this, Bool.true_and]
      · have e0 : endW f n t = downTo f t + runFrom f n (downTo f t) := by
          unfold endW
          rw [if_pos]
          refine ⟨?_, ?_⟩
          · rcases Nat.eq_zero_or_pos t with rfl | h
            · exact absurd rfl hd
            · exact h
          · cases hp : f (t - 1)
            · exact absurd (downTo_here (.inr hp)) hd
            · rfl
        rw [lineW_on hd, ih, e0, e1]
/-- .. of all lines of a way -/
theorem cntE_lines (g : Nat → Nat → Nat) (F : Nat → Nat → Bool) (way n a b : Nat) (hF : ∀ k i, i < n → hitE g way a b k i = true → F k i = true) : ∀ k, cntE (edgesL g (linesW way F n k)) a b = sumN (k - 1) fun t => sumN n fun i => if hitE g way a b (t + 1) i = true then 1 else 0
  | 0 => rfl
  | 1 => rfl
  | k + 2 => by
    rw [linesP_step way (k + 1) F n (by omega), edgesL_append, cntE_append, cntE_lines g F way n a b hF (k + 1), cntE_line g (F (k + 1)) way (k + 1) n a b n (Nat.le_refl _), endW_all]
    show _ = sumN k _ + _
    congr 1
    refine sumN_congr fun i hi => ?_
    cases hh : hitE g way a b (k + 1) i
    · rw [Bool.and_false]
    · rw [hF _ _ hi hh]; rfl

theorem letter_room {p : List ByteArray} (hp : PlanP p) {i j : Nat} (hi : i < p.length) (hj : j < wideB p) : ((byteAt p i j).toNat : Int) - 97 = ((gridG p i j : Nat) : Int) := by
  have h1 := hp.grid.letter hi hj
  have h2 := markN_lt p i j
  rw [h1, UInt8.toNat_ofNat', ← hp.mark i j hi hj]
  omega

theorem hit_eq {q : List ByteArray} {a b i k : Nat} {x y : Nat} (hx : ((byteAt q i (k - 1)).toNat : Int) - 97 = (x : Nat)) (hy : ((byteAt q i k).toNat : Int) - 97 = (y : Nat)) :
    hitL q (a : Int) (b : Int) i k = decide ((x = a ∧ y = b) ∨ (x = b ∧ y = a)) := by
  unfold hitL
  rw [hx, hy, Bool.eq_iff_iff]
  simp only [Bool.or_eq_true, Bool.and_eq_true, beq_iff_eq, decide_eq_true_eq]
  omega

/-- the cells along all walls between two rooms -/
theorem cntE_walls {p : List ByteArray} (h : planB p = true) {a b : Nat} (hab : a ≠ b) : cntE (edgesL (gridG p) (wallsG p.length (wideB p) (gridG p))) a b = besN p (a : Int) (b : Int) := by
  have hp := planP_of h
  have hne : ¬ ((a : Int) = (b : Int)) := by omega
  have w1 := hp.grid.w1; have h1 := hp.grid.h1
  unfold besN wallsG upW lvW
  rw [if_neg hne, edgesL_append, cntE_append,
    cntE_lines (gridG p) (upF p.length (gridG p)) 0 p.length a b (fun k i hi hh => by
      unfold hitE sideA sideB at hh; unfold upF
      simp only [if_true, decide_eq_true_eq] at hh
      rw [Bool.and_eq_true, decide_eq_true_eq, decide_eq_true_eq]
      exact ⟨hi, by omega⟩) (wideB p),
    cntE_lines (gridG p) (lvF (wideB p) (gridG p)) 1 (wideB p) a b (fun k i hi hh => by
      unfold hitE sideA sideB at hh; unfold lvF
      simp only [Nat.one_ne_zero, if_false, decide_eq_true_eq] at hh
      rw [Bool.and_eq_true, decide_eq_true_eq, decide_eq_true_eq]
      exact ⟨hi, by omega⟩) p.length]
  congr 1
  · rw [sumN_comm]
    unfold lenL rowL
    refine sumN_congr fun i hi => sumN_congr fun t ht => ?_
    rw [hit_eq (by rw [Nat.add_sub_cancel]; exact letter_room hp hi (by omega)) (letter_room hp hi (show t + 1 < wideB p by omega))]
    unfold hitE sideA sideB
    simp only [if_true, Nat.add_sub_cancel]
  · rw [sumN_comm]
    unfold lenL rowL
    rw [transB_wide w1]
    refine sumN_congr fun j hj => sumN_congr fun t ht => ?_
    rw [hit_eq (by rw [Nat.add_sub_cancel, trans_byte hj (by omega)]; exact letter_room hp (by omega) hj) (by rw [trans_byte hj (by omega)]; exact letter_room hp (show t + 1 < p.length by omega) hj)]
    unfold hitE sideA sideB
    simp only [Nat.one_ne_zero, if_false, Nat.add_sub_cancel]

end Go.Proofs.Ytjcbfijliacicaa
