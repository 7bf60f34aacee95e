
/-
  Plans made tight have the same rooms, and wide plans are tight as their plans are. (Mathematics.)
-/
import Derived.Test.YtamfnahbhhmiiaaEuler
import Derived.Test.YtamfnahbhhmiiaaWideM
namespace Go.Proofs.Ytamfnahbhhmiiaa
open Go.RowKit

theorem tight_rooms {p : List ByteArray} (hp : planB p = true) : roomsOr (tightB p) = roomsOr p := by
  have hr := tight_rep hp
  rw [(is_tight hp).rooms, (Is.self hp).rooms]
  congr 1
  refine ((List.perm_ext_iff_of_nodup (markF_nodup _ _ _) (markF_nodup _ _ _)).2 fun v => ?_).length_eq
  rw [mem_markF, mem_markF]
  constructor
  · rintro ⟨i, j, hi, hj, e⟩
    exact ⟨_, _, nthK_lt hi, nthK_lt hj, e⟩
  · rintro ⟨i, j, hi, hj, e⟩
    obtain ⟨t, ht, _, h1⟩ := hr.row hi
    obtain ⟨u, hu, _, h2⟩ := hr.col hj
    exact ⟨t, u, ht, hu, by unfold tightM; rw [h2 _ (nthK_lt ht), h1 j hj, e]⟩
theorem is_wide {p : List ByteArray} (h : wideOk p 2 = true) : Is (namesB (spreadB p 2)) (p.length * 2) (wideB p * 2) (fun i j => gridG p (i / 2) (j / 2)) := by
  unfold wideOk l6B at h
  simp only [Bool.and_eq_true, decide_eq_true_eq] at h
  obtain ⟨hp, _, hd⟩ := h
  obtain ⟨m1, m2⟩ := spread_math hp (show 1 ≤ 2 by omega)
  have hd2 : doneB (spreadB p 2) = true := hd
  rw [hd2] at m1
  rw [hd2, ← m1, orNone_yes rfl, orNone_yes rfl] at m2
  rw [m2]
  exact is_rows m1.symm fun i j hi hj => gridG_26 hp (div_lt_of hi) (div_lt_of hj)
theorem keepL_two {s s' : Nat → Bool} : ∀ n : Nat, (∀ i, i < n → s' (2 * i + 1) = true) → (∀ i, 1 ≤ i → i < n → s' (2 * i) = s i) → keepL s' (n * 2) = (keepL s n).map (2 * ·)
  | 0, _, _ => rfl
  | n + 1, ho, he => by
    have ih := keepL_two n (fun i hi => ho i (by omega)) (fun i a b => he i a (by omega))
    have e : n * 2 = 2 * n := by omega
    rw [show (n + 1) * 2 = n * 2 + 1 + 1 by omega, keepL_no (by rw [e, ho n (by omega)]; simp), keepL_succ, keepL_succ, ih, List.map_append]
    congr 1
    cases n with
    | zero => rfl
    | succ n =>
      rw [e, he (n + 1) (by omega) (by omega)]
      cases s (n + 1) <;> simp
theorem nthK_two {s s' : Nat → Bool} {n t : Nat} (h : keepL s' (n * 2) = (keepL s n).map (2 * ·)) (ht : t < (keepL s n).length) : nthK s' (n * 2) t = 2 * nthK s n t := by
  unfold nthK
  rw [h]
  simp [List.getD_eq_getElem?_getD, ht]
theorem tight_wide {p : List ByteArray} (h : wideOk p 2 = true) : tightB (namesB (spreadB p 2)) = tightB p := by
  have hp : planB p = true := by
    unfold wideOk at h
    simp only [Bool.and_eq_true] at h
    exact h.1
  have z := (is_wide h).tight
  have y := (Is.self hp).tight
  have k1 : keepL (srM (fun i j => gridG p (i / 2) (j / 2)) (wideB p * 2)) (p.length * 2) = (keepL (srM (gridG p) (wideB p)) p.length).map (2 * ·) := keepL_two _ (fun i hi => srM_iff.2 fun j hj => by
      show gridG p ((2 * i + 1) / 2) (j / 2) = gridG p ((2 * i + 1 - 1) / 2) (j / 2)
      rw [show (2 * i + 1) / 2 = (2 * i + 1 - 1) / 2 by omega]) (fun i a b => by
      rw [Bool.eq_iff_iff, srM_iff, srM_iff]
      constructor
      · intro hh j hj
        have := hh (2 * j) (by omega)
        simp only [show 2 * i / 2 = i by omega, show 2 * j / 2 = j by omega, show (2 * i - 1) / 2 = i - 1 by omega] at this
        exact this
      · intro hh j hj
        show gridG p (2 * i / 2) (j / 2) = gridG p ((2 * i - 1) / 2) (j / 2)
        rw [show 2 * i / 2 = i by omega, show (2 * i - 1) / 2 = i - 1 by omega]
        exact hh (j / 2) (by omega))
  have k2 : keepL (scG (fun i j => gridG p (i / 2) (j / 2)) (p.length * 2)) (wideB p * 2) = (keepL (scG (gridG p) p.length) (wideB p)).map (2 * ·) := keepL_two _ (fun j hj => scG_iff.2 fun i hi => by
      show gridG p (i / 2) ((2 * j + 1) / 2) = gridG p (i / 2) ((2 * j + 1 - 1) / 2)
      rw [show (2 * j + 1) / 2 = (2 * j + 1 - 1) / 2 by omega]) (fun j a b => by
      rw [Bool.eq_iff_iff, scG_iff, scG_iff]
      constructor
      · intro hh i hi
        have := hh (2 * i) (by omega)
        simp only [show 2 * i / 2 = i by omega, show 2 * j / 2 = j by omega, show (2 * j - 1) / 2 = j - 1 by omega] at this
        exact this
      · intro hh i hi
        show gridG p (i / 2) (2 * j / 2) = gridG p (i / 2) ((2 * j - 1) / 2)
        rw [show 2 * j / 2 = j by omega, show (2 * j - 1) / 2 = j - 1 by omega]
        exact hh (i / 2) (by omega))
  rw [k1, k2, List.length_map, List.length_map] at z
  refine z.eq y (sameG_eq fun i j hi hj => ?_)
  show gridG p (nthK _ _ i / 2) (nthK _ _ j / 2) = gridG p (nthK _ _ i) (nthK _ _ j)
  rw [nthK_two k1 hi, nthK_two k2 hj, show ∀ a : Nat, 2 * a / 2 = a from fun a => by omega, show ∀ a : Nat, 2 * a / 2 = a from fun a => by omega]

end Go.Proofs.Ytamfnahbhhmiiaa
