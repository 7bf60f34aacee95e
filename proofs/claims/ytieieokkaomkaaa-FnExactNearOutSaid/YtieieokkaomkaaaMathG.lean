
/-
  Plain mathematics: texts written by their bytes, and what the model and the program make of them.
-/
import Derived.Test.YtieieokkaomkaaaTurnA
import Derived.Test.YtieieokkaomkaaaSpecG
namespace Go.Proofs.Ytieieokkaomkaaa
open Go.RowKit

theorem matB_row {n m : Nat} {b : Nat → Nat → UInt8} {i : Nat} (hi : i < n) : (matB n m b).getD i ByteArray.empty = ⟨(rowM m b i).toArray⟩ := by
  unfold matB
  simp [hi]
theorem byteAt_mat {n m : Nat} {b : Nat → Nat → UInt8} {i j : Nat} (hi : i < n) (hj : j < m) : byteAt (matB n m b) i j = b i j := by
  unfold byteAt
  rw [matB_row hi]
  unfold rowM
  simp [hj]
theorem matB_wide {n m : Nat} {b : Nat → Nat → UInt8} (hn : 1 ≤ n) : wideB (matB n m b) = m := by
  unfold wideB
  rw [matB_row (by omega), ← size_list]
  exact rowM_len m b 0
theorem matB_even {n m : Nat} {b : Nat → Nat → UInt8} (hn : 1 ≤ n) : Even (matB n m b) := fun i hi => by
  rw [matB_len] at hi
  rw [matB_wide hn, matB_row hi, ← size_list]
  exact rowM_len m b i

/-- what the model makes of texts whose marks are small: just what the program makes of the marks -/
theorem done_rows {h wd : Nat} {m : Nat → Nat → Nat} (h1 : 1 ≤ h) (w1 : 1 ≤ wd) (hm : ∀ i j, i < h → j < wd → m i j < 26) :
    doneB (rowsT h wd m) = drawOk h wd m ∧ orNone (doneB (rowsT h wd m)) (namesB (rowsT h wd m)) = orNone (drawOk h wd m) (rowsT h wd (renG h wd m)) := by
  by_cases h6 : h ≤ 6 ∧ wd ≤ 6
  · have e := doneB_rows h1 h6.1 w1 h6.2 hm
    rw [e, names_rows h1 h6.1 w1 h6.2 hm]
    exact ⟨rfl, rfl⟩
  · have e1 : doneB (rowsT h wd m) = false := by
      cases hg : gridB (rowsT h wd m)
      · unfold doneB; rw [hg, Bool.false_and]
      · exfalso
        have := gridP_of hg
        have q1 := this.h6
        have q2 := this.w6
        rw [rowsT_len] at q1
        rw [rowsT_wide h1] at q2
        exact h6 ⟨q1, q2⟩
    have e2 : drawOk h wd m = false := by
      cases hd : drawOk h wd m
      · rfl
      · exfalso
        obtain ⟨a, b, _, _⟩ := drawOk_iff.1 hd
        exact h6 ⟨by omega, by omega⟩
    rw [e1, e2]
    exact ⟨rfl, rfl⟩

/-- the model's texts of a change, and the program's, whichever the names of the marks -/
theorem same_rows {h wd : Nat} {m m' : Nat → Nat → Nat} (h1 : 1 ≤ h) (w1 : 1 ≤ wd) (hm : ∀ i j, i < h → j < wd → m i j < 26) (hs : SameG h wd m m') :
    doneB (rowsT h wd m) = drawOk h wd m' ∧ orNone (doneB (rowsT h wd m)) (namesB (rowsT h wd m)) = orNone (drawOk h wd m') (rowsT h wd (renG h wd m')) := by
  have := done_rows h1 w1 hm
  rw [drawOk_pattern hs, renG_pattern hs]
  exact this

theorem sameG_of_eq {h wd : Nat} {m m' : Nat → Nat → Nat} (he : ∀ i j, i < h → j < wd → m i j = m' i j) : SameG h wd m m' := fun i j i' j' a b c d => by
  rw [he i j a b, he i' j' c d]

theorem done_few {p : List ByteArray} : (orNone (doneB p) (namesB p)).length ≤ 1048576 := names_few p

/-! ### texts so often -/

theorem often_row {p : List ByteArray} {k i : Nat} (hi : i < p.length * k) : (oftenB p k).getD i ByteArray.empty = p.getD (i / k) ByteArray.empty := by
  unfold oftenB oftenL
  simp [hi]
theorem often_byte {p : List ByteArray} {k i : Nat} (j : Nat) (hi : i < p.length * k) : byteAt (oftenB p k) i j = byteAt p (i / k) j := by
  unfold byteAt; rw [often_row hi]
theorem often_wide {p : List ByteArray} {k : Nat} (h1 : 1 ≤ p.length) (hk : 1 ≤ k) : wideB (oftenB p k) = wideB p := by
  unfold wideB
  rw [often_row (Nat.mul_pos h1 hk), Nat.zero_div]
theorem often_len (p : List ByteArray) (k : Nat) : (oftenB p k).length = p.length * k := by unfold oftenB; exact oftenL_len _ _ _
theorem often_even {p : List ByteArray} {k : Nat} (h1 : 1 ≤ p.length) (hk : 1 ≤ k) (he : Even p) : Even (oftenB p k) := fun i hi => by
  rw [often_len] at hi
  rw [often_row hi, often_wide h1 hk]
  exact he _ (Nat.div_lt_of_lt_mul (by rw [Nat.mul_comm]; exact hi))

theorem transB_len (p : List ByteArray) : (transB p).length = wideB p := by unfold transB; rw [matB_len]
theorem transB_wide {p : List ByteArray} (h : 1 ≤ wideB p) : wideB (transB p) = p.length := by unfold transB; exact matB_wide h
theorem transB_even {p : List ByteArray} (h : 1 ≤ wideB p) : Even (transB p) := by unfold transB; exact matB_even h
theorem transB_byte {p : List ByteArray} {i j : Nat} (hi : i < wideB p) (hj : j < p.length) : byteAt (transB p) i j = byteAt p j i := by unfold transB; exact byteAt_mat hi hj

/-- rows and columns written so often -/
def spreadB (p : List ByteArray) (k : Nat) : List ByteArray := transB (oftenB (transB (oftenB p k)) k)

structure SpreadP (p : List ByteArray) (k : Nat) : Prop where
  a1 : (oftenB p k).length = p.length * k
  a2 : wideB (oftenB p k) = wideB p
  a3 : Even (oftenB p k)
  b1 : (transB (oftenB p k)).length = wideB p
  b2 : wideB (transB (oftenB p k)) = p.length * k
  b3 : Even (transB (oftenB p k))
  c1 : (oftenB (transB (oftenB p k)) k).length = wideB p * k
  c2 : wideB (oftenB (transB (oftenB p k)) k) = p.length * k
  c3 : Even (oftenB (transB (oftenB p k)) k)
  d1 : (spreadB p k).length = p.length * k

theorem spread_dims {p : List ByteArray} {k : Nat} (h1 : 1 ≤ p.length) (w1 : 1 ≤ wideB p) (hk : 1 ≤ k) (he : Even p) : SpreadP p k := by
  have a1 := often_len p k
  have a2 := often_wide (p := p) h1 hk
  have a3 := often_even h1 hk he
  have b1 : (transB (oftenB p k)).length = wideB p := by rw [transB_len, a2]
  have b2 : wideB (transB (oftenB p k)) = p.length * k := by rw [transB_wide (by omega), a1]
  have b3 : Even (transB (oftenB p k)) := transB_even (by omega)
  have c1 : (oftenB (transB (oftenB p k)) k).length = wideB p * k := by rw [often_len, b1]
  have c2 : wideB (oftenB (transB (oftenB p k)) k) = p.length * k := by rw [often_wide (by omega) hk, b2]
  have c3 : Even (oftenB (transB (oftenB p k)) k) := often_even (by omega) hk b3
  have d1 : (spreadB p k).length = p.length * k := by unfold spreadB; rw [transB_len, c2]
  exact ⟨a1, a2, a3, b1, b2, b3, c1, c2, c3, d1⟩

theorem spread_rows {p : List ByteArray} {k : Nat} (hp : GridP p) (hk : 1 ≤ k) : spreadB p k = rowsT (p.length * k) (wideB p * k) (fun i j => markN p (i / k) (j / k)) := by
  have hd := spread_dims hp.h1 hp.w1 hk hp.even
  unfold spreadB
  have e : transB (oftenB (transB (oftenB p k)) k) = matB (p.length * k) (wideB p * k) (fun i j => byteAt (oftenB (transB (oftenB p k)) k) j i) := by
    show matB (wideB (oftenB (transB (oftenB p k)) k)) (oftenB (transB (oftenB p k)) k).length (fun i j => byteAt (oftenB (transB (oftenB p k)) k) j i) = _
    rw [hd.c1, hd.c2]
  rw [e]
  refine mat_rows fun i j hi hj => ?_
  show byteAt (oftenB (transB (oftenB p k)) k) j i = _
  rw [often_byte i (by rw [hd.b1]; exact hj)]
  have hjk : j / k < wideB p := Nat.div_lt_of_lt_mul (by rw [Nat.mul_comm]; exact hj)
  have hik : i / k < p.length := Nat.div_lt_of_lt_mul (by rw [Nat.mul_comm]; exact hi)
  rw [transB_byte (by rw [hd.a2]; exact hjk) (by rw [hd.a1]; exact hi), often_byte _ hi]
  exact hp.letter hik hjk

theorem spread_math {p : List ByteArray} {k : Nat} (h : planB p = true) (hk : 1 ≤ k) :
    doneB (spreadB p k) = drawOk (p.length * k : Nat) (wideB p * k : Nat) (fun i j => gridG p (i / k) (j / k)) ∧
    orNone (doneB (spreadB p k)) (namesB (spreadB p k)) = orNone (drawOk (p.length * k : Nat) (wideB p * k : Nat) (fun i j => gridG p (i / k) (j / k))) (rowsT (p.length * k) (wideB p * k) (renG (p.length * k) (wideB p * k) (fun i j => gridG p (i / k) (j / k)))) := by
  have hp := planP_of h
  rw [spread_rows hp.grid hk]
  refine same_rows (Nat.mul_pos hp.grid.h1 hk) (Nat.mul_pos hp.grid.w1 hk) (fun _ _ _ _ => markN_lt p _ _) (sameG_of_eq fun i j hi hj => ?_)
  exact hp.mark _ _ (Nat.div_lt_of_lt_mul (by rw [Nat.mul_comm]; exact hi)) (Nat.div_lt_of_lt_mul (by rw [Nat.mul_comm]; exact hj))

end Go.Proofs.Ytieieokkaomkaaa
