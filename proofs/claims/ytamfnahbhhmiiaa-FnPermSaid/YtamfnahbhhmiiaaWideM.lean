
/-
  Plans made wide: areas k times k as great. (Mathematics, and a draw.)
-/
import Derived.Test.YtamfnahbhhmiiaaEuler
import Derived.Test.YtamfnahbhhmiiaaWideA
import Derived.Test.YtamfnahbhhmiiaaDraw
namespace Go.Proofs.Ytamfnahbhhmiiaa
open Go.RowKit

theorem wrap_small {n : Int} (h1 : 0 ≤ n) (h2 : n ≤ 1000) : IntKind.i64.wrap n = n := by simp [IntKind.wrap, IntKind.bits, IntKind.signed]; omega
theorem div_lt_of {i h k : Nat} (hi : i < h * k) : i / k < h := Nat.div_lt_of_lt_mul (by rw [Nat.mul_comm]; exact hi)
theorem wide_canon {h wd k : Nat} {g : Nat → Nat → Nat} (hk : 1 ≤ k) (hc : CanonG h wd g) : CanonG (h * k) (wd * k) (fun i j => g (i / k) (j / k)) := fun i j hi hj r hr => by
  obtain ⟨i', j', a, b, c, d⟩ := hc (i / k) (j / k) (div_lt_of hi) (div_lt_of hj) r hr
  refine ⟨i' * k, j' * k, Nat.mul_lt_mul_of_pos_right a hk, Nat.mul_lt_mul_of_pos_right b hk, ?_, by show g (i' * k / k) (j' * k / k) = r; rw [Nat.mul_div_cancel _ hk, Nat.mul_div_cancel _ hk]; exact d⟩
  have e1 := Nat.div_mul_le_self i k
  have e2 := Nat.div_mul_le_self j k
  rcases Nat.lt_trichotomy i' (i / k) with h1 | h1 | h1
  · have e3 : (i' + 1) * k ≤ i / k * k := Nat.mul_le_mul_right k h1
    have e4 : (j' + 1) * k ≤ wd * k := Nat.mul_le_mul_right k b
    have e5 : (i' * k + 1) * (wd * k) ≤ i * (wd * k) := Nat.mul_le_mul_right _ (by rw [Nat.succ_mul] at e3; omega)
    rw [Nat.succ_mul] at e4 e5
    omega
  · subst h1
    have h2 : j' < j / k := by omega
    have e4 : (j' + 1) * k ≤ j / k * k := Nat.mul_le_mul_right k h2
    have e5 : i / k * k * (wd * k) ≤ i * (wd * k) := Nat.mul_le_mul_right _ e1
    rw [Nat.succ_mul] at e4
    omega
  · have e3 : (i / k + 1) * wd ≤ i' * wd := Nat.mul_le_mul_right wd h1
    have e4 := div_lt_of hj
    rw [Nat.succ_mul] at e3
    omega
theorem sumN_split (a b : Nat) (f : Nat → Nat) : sumN (a + b) f = sumN a f + sumN b (fun i => f (a + i)) := by
  induction b with
  | zero => rfl
  | succ b ih => rw [Nat.add_succ, sumN, sumN, ih]; omega
theorem sumN_mul (k n : Nat) (f : Nat → Nat) : sumN n (fun i => k * f i) = k * sumN n f := by
  induction n with
  | zero => simp [sumN]
  | succ n ih => rw [sumN, sumN, ih, Nat.mul_add]
theorem sumN_wide (h k : Nat) (hk : 1 ≤ k) (F : Nat → Nat) : sumN (h * k) (fun i => F (i / k)) = k * sumN h F := by
  induction h with
  | zero => simp [sumN]
  | succ h ih =>
    rw [Nat.succ_mul, sumN_split, ih, sumN, Nat.mul_add]
    congr 1
    refine (sumN_congr (g := fun _ => F h) fun i hi => ?_).trans (sumN_const k (F h))
    congr 1
    rw [Nat.mul_comm, Nat.mul_add_div (by omega), Nat.div_eq_of_lt hi, Nat.add_zero]
theorem cnt_wide (h wd k : Nat) (hk : 1 ≤ k) (P : Nat → Nat → Bool) : cntG (h * k) (wd * k) (fun i j => P (i / k) (j / k)) = k * (k * cntG h wd P) := by
  unfold cntG
  rw [sumN_wide h k hk (fun i => sumN (wd * k) fun j => if P i (j / k) = true then 1 else 0)]
  congr 1
  exact (sumN_congr fun i _ => sumN_wide wd k hk (fun j => if P i j = true then 1 else 0)).trans (sumN_mul k h _)
theorem wide_areas {p : List ByteArray} {k : Int} (h : wideOk p k = true) : planB p = true ∧ planB (namesB (spreadB p k.toNat)) = true ∧ 1 ≤ k ∧ k ≤ 3 ∧ (areasOr (namesB (spreadB p k.toNat))).length = (areasOr p).length ∧
    ∀ r, r < (areasOr p).length → (areasOr (namesB (spreadB p k.toNat))).getD r 0 = k * k * (areasOr p).getD r 0 := by
  unfold wideOk l6B at h
  simp only [Bool.and_eq_true, decide_eq_true_eq] at h
  obtain ⟨hp, ⟨k1, k3⟩, hd⟩ := h
  obtain ⟨K, rfl⟩ : ∃ K : Nat, k = (K : Int) := ⟨k.toNat, by omega⟩
  rw [Int.toNat_natCast] at hd ⊢
  have hK : 1 ≤ K := by omega
  have hP := planP_of hp
  obtain ⟨m1, m2⟩ := spread_math hp hK
  rw [hd] at m1
  rw [hd, ← m1, orNone_yes rfl, orNone_yes rfl] at m2
  rw [m2]
  have hg26 : ∀ i j, i < p.length * K → j < wideB p * K → gridG p (i / K) (j / K) < 26 := fun i j hi hj => gridG_26 hp (div_lt_of hi) (div_lt_of hj)
  have x := is_rows m1.symm hg26
  have hcan : CanonG (p.length * K) (wideB p * K) (fun i j => gridG p (i / K) (j / K)) := wide_canon hK (canon_ren p.length (wideB p) (markN p))
  have hr26 : ∀ i j, i < p.length * K → j < wideB p * K → renG (p.length * K) (wideB p * K) (fun i j => gridG p (i / K) (j / K)) i j < 26 := fun i j hi hj => ren_lt hg26 hi hj
  have hgo : ∀ i j, i < p.length * K → j < wideB p * K → markN (rowsT (p.length * K) (wideB p * K) (renG (p.length * K) (wideB p * K) fun i j => gridG p (i / K) (j / K))) i j = gridG p (i / K) (j / K) := fun i j hi hj => by
    rw [rowsT_mark hi hj (hr26 i j hi hj), ren_canon hcan hi hj]
  have hrooms : (markF (p.length * K) (wideB p * K) fun i j => gridG p (i / K) (j / K)).length = (markF p.length (wideB p) (gridG p)).length := by
    refine ((List.perm_ext_iff_of_nodup (markF_nodup _ _ _) (markF_nodup _ _ _)).2 fun v => ?_).length_eq
    rw [mem_markF, mem_markF]
    constructor
    · rintro ⟨i, j, hi, hj, e⟩; exact ⟨i / K, j / K, div_lt_of hi, div_lt_of hj, e⟩
    · rintro ⟨i, j, hi, hj, e⟩
      exact ⟨i * K, j * K, Nat.mul_lt_mul_of_pos_right hi hK, Nat.mul_lt_mul_of_pos_right hj hK, by show gridG p (i * K / K) (j * K / K) = v; rw [Nat.mul_div_cancel _ hK, Nat.mul_div_cancel _ hK]; exact e⟩
  have e1 := x.rooms
  have e2 := (Is.self hp).rooms
  have a1 := (areas_len x.plan).1
  have a2 := (areas_len hp).1
  refine ⟨hp, x.plan, k1, k3, by omega, fun r hr => ?_⟩
  have hr2 : r < (areasOr (rowsT (p.length * K) (wideB p * K) (renG (p.length * K) (wideB p * K) fun i j => gridG p (i / K) (j / K)))).length := by omega
  rw [List.getD_eq_getElem?_getD, List.getElem?_eq_getElem hr2, Option.getD_some, List.getD_eq_getElem?_getD, List.getElem?_eq_getElem hr, Option.getD_some]
  simp only [areas_cnt x.plan, areas_cnt hp, List.getElem_map, List.getElem_range]
  rw [x.len, x.wide, cntG_congr (Q := fun i j => (fun a b => gridG p a b == r) (i / K) (j / K)) fun i j hi hj => by rw [hgo i j hi hj], cnt_wide _ _ K hK (fun a b => gridG p a b == r)]
  rw [cntG_congr (P := fun i j => markN p i j == r) (Q := fun a b => gridG p a b == r) fun i j hi hj => by rw [hP.mark i j hi hj]]
  push_cast
  rw [Int.mul_assoc]

end Go.Proofs.Ytamfnahbhhmiiaa
