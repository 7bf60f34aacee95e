
/-
  Merged texts: TightN Perm Euler.
-/
import Derived.Test.YtjdlapcikpmdgaaTightM
import Derived.Test.YtjdlapcikpmdgaaIs
import Derived.Test.YtjdlapcikpmdgaaBesideA
import Derived.Test.YtjdlapcikpmdgaaAreas
import Derived.Test.YtjdlapcikpmdgaaOrdJ
import Derived.Test.YtjdlapcikpmdgaaMeet
import Derived.Test.YtjdlapcikpmdgaaCut
import Derived.Test.YtjdlapcikpmdgaaRoomsA

/-
  Plans made tight: the rows and columns that are kept, and that what is tight stays as it is. (Mathematics.)
-/
namespace Go.Proofs.Ytjdlapcikpmdgaa
open Go.RowKit

theorem nthK_kept {same : Nat → Bool} {n t : Nat} (h : t < (keepL same n).length) : nthK same n t = 0 ∨ same (nthK same n t) = false := by
  have h1 : nthK same n t ∈ keepL same n := getD_mem (0 : Nat) h
  unfold keepL at h1
  rw [List.mem_filter] at h1
  have h2 := h1.2
  rw [Bool.or_eq_true, beq_iff_eq, Bool.not_eq_true'] at h2
  exact h2
theorem nthK_prev {same : Nat → Bool} {n t : Nat} (h1 : 1 ≤ t) (h : t < (keepL same n).length) : ∀ u, nthK same n (t - 1) < u → u ≤ nthK same n t - 1 → same u = true := by
  have hm := nthK_mono (same := same) (n := n) (show t - 1 < t by omega) h
  have hlt := nthK_lt h
  obtain ⟨t', ht', hle, hall⟩ := nthK_rep (same := same) (n := n) (nthK same n t - 1) (by omega)
  have h2 : t' < t := by
    rcases Nat.lt_or_ge t' t with a | a
    · exact a
    · exfalso
      rcases Nat.lt_or_ge t t' with b | b
      · have h9 := nthK_mono (same := same) (n := n) b ht'; omega
      · obtain rfl : t' = t := by omega
        omega
  have h3 : t' = t - 1 := by
    rcases Nat.lt_or_ge t' (t - 1) with a | a
    · exfalso
      have hm2 := nthK_mono (same := same) (n := n) a (by omega)
      have hs := hall (nthK same n (t - 1)) hm2 (by omega)
      rcases nthK_kept (same := same) (n := n) (t := t - 1) (by omega) with b | b
      · omega
      · rw [b] at hs; cases hs
    · omega
  subst h3
  exact hall
theorem Repeats.prev_row {g : Nat → Nat → Nat} {sr sc : Nat → Bool} {h wd : Nat} (hr : Repeats g sr sc h wd) {t : Nat} (h1 : 1 ≤ t) (ht : t < (keepL sr h).length) {j : Nat} (hj : j < wd) : g (nthK sr h t - 1) j = g (nthK sr h (t - 1)) j := by
  have hm := nthK_mono (same := sr) (n := h) (show t - 1 < t by omega) ht
  have hlt := nthK_lt ht
  exact chain_eq (f := fun a => g a j) (same := sr) (fun u a b c => hr.rows u a (by omega) b j hj) (by omega) (nthK_prev h1 ht)
theorem Repeats.prev_col {g : Nat → Nat → Nat} {sr sc : Nat → Bool} {h wd : Nat} (hr : Repeats g sr sc h wd) {t : Nat} (h1 : 1 ≤ t) (ht : t < (keepL sc wd).length) {i : Nat} (hi : i < h) : g i (nthK sc wd t - 1) = g i (nthK sc wd (t - 1)) := by
  have hm := nthK_mono (same := sc) (n := wd) (show t - 1 < t by omega) ht
  have hlt := nthK_lt ht
  exact chain_eq (f := fun b => g i b) (same := sc) (fun u a b c => hr.cols u a (by omega) b i hi) (by omega) (nthK_prev h1 ht)
theorem tight_rep {p : List ByteArray} (h : planB p = true) : Repeats (gridG p) (srG (gridG p)) (scG (gridG p) p.length) p.length (wideB p) := by
  have w6 := (planP_of h).grid.w6
  exact ⟨fun i a b hs j hj => srG_iff.1 hs j (by omega), fun j a b hs i hi => scG_iff.1 hs i hi⟩
theorem is_tight {p : List ByteArray} (h : planB p = true) : Is (tightB p) (keepL (srG (gridG p)) p.length).length (keepL (scG (gridG p) p.length) (wideB p)).length (tightM (gridG p) (srG (gridG p)) (scG (gridG p) p.length) p.length (wideB p)) := by
  rw [(tight_math h).2]
  exact is_rows (tight_math h).1 fun i j hi hj => gridG_26 h (nthK_lt hi) (nthK_lt hj)

/-- whether a row of a grid is as the one ahead of it -/
def srM (m : Nat → Nat → Nat) (wd i : Nat) : Bool := (List.range wd).all fun j => m i j == m (i - 1) j
theorem srM_iff {m : Nat → Nat → Nat} {wd i : Nat} : srM m wd i = true ↔ ∀ j, j < wd → m i j = m (i - 1) j := by
  unfold srM
  rw [List.all_eq_true]
  exact ⟨fun h j hj => by simpa using h j (List.mem_range.2 hj), fun h j hj => by simpa using h j (List.mem_range.1 hj)⟩
theorem gridG_out {p : List ByteArray} {i j : Nat} (hj : wideB p ≤ j) : gridG p i j = 0 := by
  unfold gridG renG roomG
  rw [if_neg (by omega)]
theorem Is.tight {q : List ByteArray} {h wd : Nat} {m : Nat → Nat → Nat} (x : Is q h wd m) : Is (tightB q) (keepL (srM m wd) h).length (keepL (scG m h) wd).length (tightM m (srM m wd) (scG m h) h wd) := by
  obtain ⟨hp, rfl, rfl, hs⟩ := x
  have w6 := (planP_of hp).grid.w6
  have e1 : keepL (srG (gridG q)) q.length = keepL (srM m (wideB q)) q.length := keepL_congr fun i a b => by
    rw [Bool.eq_iff_iff, srG_iff, srM_iff]
    constructor
    · intro hh j hj
      exact (hs (i - 1) j i j (by omega) hj b hj).1 (hh j (by omega))
    · intro hh j _
      rcases Nat.lt_or_ge j (wideB q) with hj | hj
      · exact (hs (i - 1) j i j (by omega) hj b hj).2 (hh j hj)
      · rw [gridG_out hj, gridG_out hj]
  have e2 : keepL (scG (gridG q) q.length) (wideB q) = keepL (scG m q.length) (wideB q) := keepL_congr fun j a b => by
    rw [Bool.eq_iff_iff, scG_iff, scG_iff]
    constructor
    · intro hh i hi
      exact (hs i (j - 1) i j hi (by omega) hi b).1 (hh i hi)
    · intro hh i hi
      exact (hs i (j - 1) i j hi (by omega) hi b).2 (hh i hi)
  have en1 : ∀ t, nthK (srG (gridG q)) q.length t = nthK (srM m (wideB q)) q.length t := fun t => by unfold nthK; rw [e1]
  have en2 : ∀ t, nthK (scG (gridG q) q.length) (wideB q) t = nthK (scG m q.length) (wideB q) t := fun t => by unfold nthK; rw [e2]
  have y := is_tight hp
  rw [e1, e2] at y
  refine y.of fun i j i' j' a b c d => ?_
  unfold tightM
  rw [en1, en1, en2, en2]
  exact hs _ _ _ _ (nthK_lt a) (nthK_lt b) (nthK_lt c) (nthK_lt d)

theorem tight_rows {g : Nat → Nat → Nat} {sr sc : Nat → Bool} {h wd : Nat} (hr : Repeats g sr sc h wd) (hs : ∀ i, 1 ≤ i → i < h → (∀ j, j < wd → g i j = g (i - 1) j) → sr i = true) {t : Nat} (h1 : 1 ≤ t) (ht : t < (keepL sr h).length) :
    srM (tightM g sr sc h wd) (keepL sc wd).length t = false := by
  rw [Bool.eq_false_iff]
  intro hh
  rw [srM_iff] at hh
  have hm := nthK_mono (same := sr) (n := h) (show t - 1 < t by omega) ht
  have hl := nthK_lt ht
  have he : sr (nthK sr h t) = true := hs _ (by omega) hl fun j hj => by
    obtain ⟨u, hu, _, he⟩ := hr.col hj
    rw [hr.prev_row h1 ht hj, ← he _ hl, ← he _ (show nthK sr h (t - 1) < h by omega)]
    exact hh u hu
  rcases nthK_kept ht with a | a
  · omega
  · rw [he] at a; cases a
theorem tight_cols {g : Nat → Nat → Nat} {sr sc : Nat → Bool} {h wd : Nat} (hr : Repeats g sr sc h wd) (hs : ∀ j, 1 ≤ j → j < wd → (∀ i, i < h → g i j = g i (j - 1)) → sc j = true) {t : Nat} (h1 : 1 ≤ t) (ht : t < (keepL sc wd).length) :
    scG (tightM g sr sc h wd) (keepL sr h).length t = false := by
  rw [Bool.eq_false_iff]
  intro hh
  rw [scG_iff] at hh
  have hm := nthK_mono (same := sc) (n := wd) (show t - 1 < t by omega) ht
  have hl := nthK_lt ht
  have he : sc (nthK sc wd t) = true := hs _ (by omega) hl fun i hi => by
    obtain ⟨u, hu, _, he⟩ := hr.row hi
    rw [hr.prev_col h1 ht hi, ← he _ hl, ← he _ (show nthK sc wd (t - 1) < wd by omega)]
    exact hh u hu
  rcases nthK_kept ht with a | a
  · omega
  · rw [he] at a; cases a
theorem keepL_all {same : Nat → Bool} {n : Nat} (h : ∀ i, 1 ≤ i → i < n → same i = false) : keepL same n = List.range n := by
  unfold keepL
  rw [List.filter_eq_self]
  intro i hi
  rw [List.mem_range] at hi
  cases i with
  | zero => rfl
  | succ i => rw [h (i + 1) (by omega) hi]; simp
theorem nthK_all {same : Nat → Bool} {n : Nat} (h : ∀ i, 1 ≤ i → i < n → same i = false) {t : Nat} (ht : t < n) : nthK same n t = t := by
  unfold nthK
  rw [keepL_all h, List.getD_eq_getElem?_getD, List.getElem?_range ht]
  rfl
/-- what is tight stays as it is -/
theorem tight_two {p : List ByteArray} (hp : planB p = true) : tightB (tightB p) = tightB p := by
  have y := is_tight hp
  have hr := tight_rep hp
  have k1 := fun t (a : 1 ≤ t) (b : t < (keepL (srG (gridG p)) p.length).length) => tight_rows hr (fun i _ _ hh => srG_iff.2 fun j _ => by
    rcases Nat.lt_or_ge j (wideB p) with hj | hj
    · exact hh j hj
    · rw [gridG_out hj, gridG_out hj]) a b
  have k2 := fun t (a : 1 ≤ t) (b : t < (keepL (scG (gridG p) p.length) (wideB p)).length) => tight_cols hr (fun j _ _ hh => scG_iff.2 hh) a b
  have z := y.tight
  generalize tightM (gridG p) (srG (gridG p)) (scG (gridG p) p.length) p.length (wideB p) = T at *
  generalize (keepL (srG (gridG p)) p.length).length = N at *
  generalize (keepL (scG (gridG p) p.length) (wideB p)).length = W at *
  rw [keepL_all k1, keepL_all k2, List.length_range, List.length_range] at z
  refine z.eq y (sameG_eq fun i j hi hj => ?_)
  unfold tightM
  rw [nthK_all k1 hi, nthK_all k2 hj]

end Go.Proofs.Ytjdlapcikpmdgaa

/-
  Merged texts: Pair BesM Perm.
-/
/-
  Plans beside each other and below each other, and rows and columns exchanged. (Mathematics.)
-/
namespace Go.Proofs.Ytjdlapcikpmdgaa
open Go.RowKit

theorem gridG_9 {p : List ByteArray} (h : planB p = true) {i j : Nat} (hi : i < p.length) (hj : j < wideB p) : gridG p i j < 9 := by
  have := (planP_of h).few; have := gridG_lt hi hj; omega

theorem bes_same {h wd wd' : Nat} {a a' b b' : Nat → Nat → Nat} (x : SameG h wd a a') (y : SameG h wd' b b') (ha : ∀ i j, i < h → j < wd → a i j < 9) (ha' : ∀ i j, i < h → j < wd → a' i j < 9) :
    SameG h (wd + wd') (besM wd a b) (besM wd a' b') := fun i j i' j' hi hj hi' hj' => by
  unfold besM
  by_cases h1 : j < wd <;> by_cases h2 : j' < wd
  · rw [if_pos h1, if_pos h1, if_pos h2, if_pos h2]; exact x i j i' j' hi h1 hi' h2
  · rw [if_pos h1, if_pos h1, if_neg h2, if_neg h2]
    have := ha i j hi h1; have := ha' i j hi h1
    constructor <;> intro h <;> omega
  · rw [if_neg h1, if_neg h1, if_pos h2, if_pos h2]
    have := ha i' j' hi' h2; have := ha' i' j' hi' h2
    constructor <;> intro h <;> omega
  · rw [if_neg h1, if_neg h1, if_neg h2, if_neg h2]
    have := y i (j - wd) i' (j' - wd) hi (by omega) hi' (by omega)
    omega
theorem is_beside {p q : List ByteArray} (h : besideOk p q = true) : planB p = true ∧ planB q = true ∧ p.length = q.length ∧ Is (namesB (besideT p q)) p.length (wideB p + wideB q) (besM (wideB p) (gridG p) (gridG q)) := by
  unfold besideOk at h
  simp only [Bool.and_eq_true, decide_eq_true_eq] at h
  obtain ⟨hp, hq, he, hd⟩ := h
  refine ⟨hp, hq, he, ?_⟩
  obtain ⟨m1, m2⟩ := beside_math hp hq he
  rw [hd] at m1
  rw [hd, ← m1, orNone_yes rfl, orNone_yes rfl] at m2
  rw [m2]
  refine is_rows m1.symm fun i j hi hj => ?_
  unfold besM
  split
  · rename_i h1; have := gridG_9 hp hi h1; omega
  · have := gridG_9 hq (i := i) (j := j - wideB p) (by omega) (by omega); omega
theorem is_under {p q : List ByteArray} (h : underOk p q = true) : planB p = true ∧ planB q = true ∧ wideB p = wideB q ∧ Is (namesB (underT p q)) (p.length + q.length) (wideB p) (undM p.length (gridG p) (gridG q)) := by
  unfold underOk at h
  simp only [Bool.and_eq_true, decide_eq_true_eq] at h
  obtain ⟨hp, hq, he, hd⟩ := h
  refine ⟨hp, hq, he, ?_⟩
  obtain ⟨m1, m2⟩ := under_math hp hq he
  rw [hd] at m1
  rw [hd, ← m1, orNone_yes rfl, orNone_yes rfl] at m2
  rw [m2]
  refine is_rows m1.symm fun i j hi hj => ?_
  unfold undM
  split
  · rename_i h1; have := gridG_9 hp h1 hj; omega
  · have := gridG_9 hq (i := i - p.length) (j := j) (by omega) (by omega); omega
theorem Is.draw {p : List ByteArray} {h wd : Nat} {m : Nat → Nat → Nat} (x : Is p h wd m) : drawOk h wd m = true := by
  have hd := x.dims
  have h1 := x.plan
  have hp := planP_of x.plan
  have e : drawOk h wd (gridG p) = drawOk h wd m := drawOk_pattern x.same
  rw [← e]
  have hg : ∀ i j, i < h → j < wd → renG h wd (gridG p) i j < 26 := fun i j hi hj => ren_lt (fun i j hi hj => gridG_26 h1 (by rw [x.len]; exact hi) (by rw [x.wide]; exact hj)) hi hj
  have ht := (Is.self h1).text
  rw [x.len, x.wide] at ht
  rw [ht, planB_rows hd.1 hd.2.1 hd.2.2.1 hd.2.2.2 hg] at h1
  exact h1

/-- rows and columns exchanged of plans below each other: beside each other -/
theorem under_trans {p q : List ByteArray} (h : underOk p q = true) : planB p = true ∧ planB q = true ∧ planB (namesB (underT p q)) = true ∧ besideOk (namesB (transB p)) (namesB (transB q)) = true ∧
    namesB (besideT (namesB (transB p)) (namesB (transB q))) = namesB (transB (namesB (underT p q))) := by
  obtain ⟨hp, hq, he, x⟩ := is_under h
  have xp := is_trans hp; have xq := is_trans hq
  have y := x.trans
  have hs : SameG (wideB p) (p.length + q.length) (fun i j => undM p.length (gridG p) (gridG q) j i) (besM p.length (gridG (namesB (transB p))) (gridG (namesB (transB q)))) := by
    refine bes_same (a := fun i j => gridG p j i) (b := fun i j => gridG q j i) xp.same (by rw [he]; exact xq.same) (fun i j hi hj => gridG_9 hp hj hi) (fun i j hi hj => gridG_9 xp.plan (by rw [xp.len]; exact hi) (by rw [xp.wide]; exact hj))
  have hb : besideOk (namesB (transB p)) (namesB (transB q)) = true := by
    unfold besideOk
    have hl : (namesB (transB p)).length = (namesB (transB q)).length := by rw [xp.len, xq.len, he]
    have hw := (beside_math xp.plan xq.plan hl).1
    rw [xp.plan, xq.plan, hw, xp.len, xp.wide, xq.wide, decide_eq_true (by rw [← xp.len]; exact hl), Bool.true_and, Bool.true_and, Bool.true_and, drawOk_pattern hs]
    exact y.draw
  refine ⟨hp, hq, x.plan, hb, ?_⟩
  obtain ⟨_, _, _, z⟩ := is_beside hb
  rw [xp.len, xp.wide, xq.wide] at z
  exact z.eq y (hs.symm)

end Go.Proofs.Ytjdlapcikpmdgaa

/-
  Plans beside each other: their rooms, and read backwards. (Mathematics.)
-/
namespace Go.Proofs.Ytjdlapcikpmdgaa
open Go.RowKit

theorem mem_markF {h wd : Nat} {m : Nat → Nat → Nat} {x : Nat} : x ∈ markF h wd m ↔ ∃ i j, i < h ∧ j < wd ∧ m i j = x := by
  constructor
  · intro hx
    unfold markF at hx
    rw [mem_firsts] at hx
    obtain ⟨k, hk, rfl⟩ := markL_mem hx
    obtain ⟨c1, c2, _⟩ := cell_of hk
    exact ⟨_, _, c1, c2, rfl⟩
  · rintro ⟨i, j, hi, hj, rfl⟩
    exact markF_mem hi hj
theorem markF_nodup (h wd : Nat) (m : Nat → Nat → Nat) : (markF h wd m).Nodup := firsts_nodup _
theorem bes_count {h wd wd' : Nat} {a b : Nat → Nat → Nat} (ha : ∀ i j, i < h → j < wd → a i j < 9) :
    (markF h (wd + wd') (besM wd a b)).length = (markF h wd a).length + (markF h wd' b).length := by
  have hp : (markF h (wd + wd') (besM wd a b)).Perm (markF h wd a ++ (markF h wd' b).map fun x => 9 + x) := by
    refine (List.perm_ext_iff_of_nodup (markF_nodup _ _ _) ?_).2 fun x => ?_
    · rw [List.nodup_append]
      refine ⟨markF_nodup _ _ _, ?_, ?_⟩
      · exact List.Pairwise.map _ (fun x y hxy he => hxy (by omega)) (markF_nodup h wd' b)
      · intro x hx y hy
        obtain ⟨i, j, hi, hj, rfl⟩ := mem_markF.1 hx
        rw [List.mem_map] at hy
        obtain ⟨z, _, rfl⟩ := hy
        have := ha i j hi hj
        omega
    · rw [List.mem_append, mem_markF, mem_markF, List.mem_map]
      constructor
      · rintro ⟨i, j, hi, hj, rfl⟩
        unfold besM
        by_cases h1 : j < wd
        · rw [if_pos h1]; exact .inl ⟨i, j, hi, h1, rfl⟩
        · rw [if_neg h1]; exact .inr ⟨_, mem_markF.2 ⟨i, j - wd, hi, by omega, rfl⟩, rfl⟩
      · rintro (⟨i, j, hi, hj, rfl⟩ | ⟨z, hz, rfl⟩)
        · exact ⟨i, j, hi, by omega, by unfold besM; rw [if_pos hj]⟩
        · obtain ⟨i, j, hi, hj, rfl⟩ := mem_markF.1 hz
          exact ⟨i, wd + j, hi, by omega, by unfold besM; rw [if_neg (by omega), Nat.add_sub_cancel_left]⟩
  rw [hp.length_eq, List.length_append, List.length_map]
theorem Is.rooms {p : List ByteArray} {h wd : Nat} {m : Nat → Nat → Nat} (x : Is p h wd m) : roomsOr p = ((markF h wd m).length : Nat) := by
  have hP := planP_of x.plan
  rw [roomsOr_yes x.plan, hP.rooms]
  unfold gridR
  have e1 := markF_len (ren_pattern p.length (wideB p) (markN p))
  have e2 := markF_len x.same
  rw [x.len, x.wide] at e1
  rw [x.len, x.wide]
  rw [show gridG p = renG h wd (markN p) by unfold gridG; rw [x.len, x.wide]] at e2
  omega
theorem beside_rooms {p q : List ByteArray} (h : besideOk p q = true) : roomsOr (namesB (besideT p q)) = roomsOr p + roomsOr q := by
  obtain ⟨hp, hq, he, x⟩ := is_beside h
  have xp := Is.self hp; have xq := Is.self hq
  rw [x.rooms, xp.rooms, xq.rooms, bes_count fun i j hi hj => gridG_9 hp hi hj, he]
  simp
theorem beside_flip {p q : List ByteArray} (h : besideOk p q = true) : planB p = true ∧ planB q = true ∧ planB (namesB (besideT p q)) = true ∧ besideOk (namesB (flipB q)) (namesB (flipB p)) = true ∧
    namesB (besideT (namesB (flipB q)) (namesB (flipB p))) = namesB (flipB (namesB (besideT p q))) := by
  obtain ⟨hp, hq, he, x⟩ := is_beside h
  have xp := is_flip hp; have xq := is_flip hq
  have y := x.flip
  rw [Nat.add_comm (wideB p) (wideB q)] at y
  have hs : SameG p.length (wideB q + wideB p) (fun i j => besM (wideB p) (gridG p) (gridG q) i (wideB q + wideB p - 1 - j)) (besM (wideB q) (gridG (namesB (flipB q))) (gridG (namesB (flipB p)))) := fun i j i' j' hi hj hi' hj' => by
    have sp := xp.same; have sq := xq.same
    rw [← he] at sq
    have q9 : ∀ i j, i < p.length → j < wideB q → gridG (namesB (flipB q)) i j < 9 := fun i j hi hj => gridG_9 xq.plan (by rw [xq.len, ← he]; exact hi) (by rw [xq.wide]; exact hj)
    unfold besM
    simp only
    by_cases h1 : j < wideB q <;> by_cases h2 : j' < wideB q
    · rw [if_pos h1, if_pos h2, if_neg (by omega), if_neg (by omega)]
      have := sq i j i' j' hi h1 hi' h2
      simp only at this
      rw [show wideB q + wideB p - 1 - j - wideB p = wideB q - 1 - j by omega, show wideB q + wideB p - 1 - j' - wideB p = wideB q - 1 - j' by omega]
      omega
    · rw [if_pos h1, if_neg h2, if_pos (by omega), if_neg (by omega)]
      have := gridG_9 hp hi' (show wideB q + wideB p - 1 - j' < wideB p by omega)
      have := q9 i j hi h1
      constructor <;> intro h <;> omega
    · rw [if_neg h1, if_pos h2, if_neg (by omega), if_pos (by omega)]
      have := gridG_9 hp hi (show wideB q + wideB p - 1 - j < wideB p by omega)
      have := q9 i' j' hi' h2
      constructor <;> intro h <;> omega
    · rw [if_neg h1, if_neg h2, if_pos (by omega), if_pos (by omega)]
      have := sp i (j - wideB q) i' (j' - wideB q) hi (by omega) hi' (by omega)
      simp only at this
      rw [show wideB p - 1 - (j - wideB q) = wideB q + wideB p - 1 - j by omega, show wideB p - 1 - (j' - wideB q) = wideB q + wideB p - 1 - j' by omega] at this
      omega
  have hb : besideOk (namesB (flipB q)) (namesB (flipB p)) = true := by
    unfold besideOk
    have hl : (namesB (flipB q)).length = (namesB (flipB p)).length := by rw [xp.len, xq.len, he]
    have hw := (beside_math xq.plan xp.plan hl).1
    rw [xp.plan, xq.plan, hw, xq.len, xp.wide, xq.wide, decide_eq_true (by rw [← xq.len]; exact hl), Bool.true_and, Bool.true_and, Bool.true_and, ← he, drawOk_pattern hs]
    exact y.draw
  refine ⟨hp, hq, x.plan, hb, ?_⟩
  obtain ⟨_, _, _, z⟩ := is_beside hb
  rw [xq.len, xp.wide, xq.wide, ← he] at z
  exact z.eq y (hs.symm)

end Go.Proofs.Ytjdlapcikpmdgaa

/-
  Merged texts: PermM.
-/
/-
  Areas of plans turned are the same ones in some order. (Mathematics.)
-/
namespace Go.Proofs.Ytjdlapcikpmdgaa
open Go.RowKit

theorem areas_perm {q : List ByteArray} {h wd : Nat} {m : Nat → Nat → Nat} (x : Is q h wd m) : (areasOr q).Perm ((markF h wd m).map fun v => ((cntG h wd (fun i j => m i j == v) : Nat) : Int)) := by
  have hP := planP_of x.plan
  have hs : SameG h wd (markN q) m := (x.same.trans (sameG_eq fun i j hi hj => (hP.mark i j (by rw [x.len]; exact hi) (by rw [x.wide]; exact hj)).symm)).symm
  rw [areas_cnt x.plan, x.len, x.wide, markF_map hs, List.map_map]
  have hr : (List.range (gridR q)).Perm (markF h wd (markN q)) := by
    refine (List.perm_ext_iff_of_nodup List.nodup_range (markF_nodup _ _ _)).2 fun v => ?_
    rw [List.mem_range, mem_markF]
    constructor
    · intro hv
      obtain ⟨i, j, hi, hj, e⟩ := room_cell (h := q.length) (wd := wideB q) (m := markN q) hv
      exact ⟨i, j, by rw [← x.len]; exact hi, by rw [← x.wide]; exact hj, (hP.mark i j hi hj).trans e⟩
    · rintro ⟨i, j, hi, hj, e⟩
      rw [← e]
      exact hP.lt (by rw [x.len]; exact hi) (by rw [x.wide]; exact hj)
  refine (hr.map _).trans ?_
  rw [List.map_congr_left (g := fun v => ((cntG h wd (fun i j => m i j == toMark h wd (markN q) m v) : Nat) : Int)) fun v hv => ?_]
  · exact List.Perm.refl _
  · obtain ⟨a, b, ha, hb, rfl⟩ := mem_markF.1 hv
    rw [toMark_at hs ha hb]
    congr 1
    refine cntG_congr fun i j hi hj => ?_
    have := hs a b i j ha hb hi hj
    rw [Bool.eq_iff_iff, beq_iff_eq, beq_iff_eq]
    exact this.symm
theorem sumN_rev (n : Nat) (f : Nat → Nat) : sumN n (fun i => f (n - 1 - i)) = sumN n f := by
  induction n generalizing f with
  | zero => rfl
  | succ n ih =>
    have e1 : sumN (n + 1) f = f 0 + sumN n (fun i => f (i + 1)) := by
      have : ∀ n, sumN (n + 1) f = f 0 + sumN n (fun i => f (i + 1)) := fun n => by
        induction n with
        | zero => simp [sumN]
        | succ n ih => rw [sumN, ih, sumN]; omega
      exact this n
    rw [e1, sumN, ← ih (fun i => f (i + 1))]
    have e2 : sumN n (fun i => f (n + 1 - 1 - i)) = sumN n (fun i => f (n - 1 - i + 1)) := sumN_congr fun i hi => by congr 1; omega
    rw [e2, show n + 1 - 1 - n = 0 by omega]
    omega
theorem perm_of {h wd h' wd' : Nat} {m m' : Nat → Nat → Nat} (hm : ∀ v, (∃ i j, i < h ∧ j < wd ∧ m i j = v) ↔ ∃ i j, i < h' ∧ j < wd' ∧ m' i j = v) (hc : ∀ v, cntG h wd (fun i j => m i j == v) = cntG h' wd' (fun i j => m' i j == v)) :
    ((markF h wd m).map fun v => ((cntG h wd (fun i j => m i j == v) : Nat) : Int)).Perm ((markF h' wd' m').map fun v => ((cntG h' wd' (fun i j => m' i j == v) : Nat) : Int)) := by
  have e : (fun v => ((cntG h wd (fun i j => m i j == v) : Nat) : Int)) = fun v => ((cntG h' wd' (fun i j => m' i j == v) : Nat) : Int) := by funext v; rw [hc v]
  rw [e]
  refine List.Perm.map _ ((List.perm_ext_iff_of_nodup (markF_nodup _ _ _) (markF_nodup _ _ _)).2 fun v => ?_)
  rw [mem_markF, mem_markF]
  exact hm v
theorem areas_trans {p : List ByteArray} (h : planB p = true) : (areasOr (namesB (transB p))).Perm (areasOr p) := by
  refine ((areas_perm (is_trans h)).trans (perm_of ?_ fun v => ?_)).trans (areas_perm (Is.self h)).symm
  · intro v
    constructor
    · rintro ⟨i, j, hi, hj, e⟩; exact ⟨j, i, hj, hi, e⟩
    · rintro ⟨i, j, hi, hj, e⟩; exact ⟨j, i, hj, hi, e⟩
  · unfold cntG; exact sumN_comm _ _ _
theorem areas_turn {p : List ByteArray} (h : planB p = true) : (areasOr (namesB (turnB p))).Perm (areasOr p) := by
  refine ((areas_perm (is_turn h)).trans (perm_of ?_ fun v => ?_)).trans (areas_perm (Is.self h)).symm
  · intro v
    constructor
    · rintro ⟨i, j, hi, hj, e⟩; exact ⟨p.length - 1 - j, i, by omega, hi, e⟩
    · rintro ⟨i, j, hi, hj, e⟩; exact ⟨j, p.length - 1 - i, hj, by omega, by show gridG p (p.length - 1 - (p.length - 1 - i)) j = v; rw [show p.length - 1 - (p.length - 1 - i) = i by omega]; exact e⟩
  · unfold cntG
    rw [sumN_comm]
    exact sumN_rev p.length (fun i => sumN (wideB p) fun j => if (gridG p i j == v) = true then 1 else 0)

end Go.Proofs.Ytjdlapcikpmdgaa

/-
  Merged texts: Eul Tig.
-/
/-
  Rooms are walls, crosses and one; walls have two ends; crosses are as many when turned. (Mathematics.)
-/
namespace Go.Proofs.Ytjdlapcikpmdgaa
open Go.RowKit

/-! ### ends, one by one -/
theorem end_once {h wd : Nat} {g : Nat → Nat → Nat} (hr : RectG h wd g) (x : Nat × Nat) : ((wallsG h wd g).flatMap endW).count x ≤ 1 := by
  cases ho : outB h wd x
  · obtain ⟨i, k⟩ := x
    unfold outB at ho
    simp only [Bool.or_eq_false_iff, decide_eq_false_iff_not] at ho
    obtain ⟨⟨⟨a, b⟩, c⟩, d⟩ := ho
    rw [end_count]
    obtain ⟨z1, z1', z2, z2', _, _⟩ := off_pts (h := h) (wd := wd) (g := g) (i := i) (k := k)
    by_cases h1 : i < h
    · by_cases h2 : k < wd
      · have := (meets_in hr (show 1 ≤ i by omega) h1 (show 1 ≤ k by omega) h2).2.2
        revert this
        generalize (eU h wd g i k != eD h wd g i k) = p
        generalize (eL h wd g i k != eR h wd g i k) = q
        cases p <;> cases q <;> simp [b2n]
      · rw [(z2 (by omega)).1, (z2 (by omega)).2.1, (z2 (by omega)).2.2, z2' (by omega)]; decide
    · rw [(z1 (by omega)).1, (z1 (by omega)).2.1, (z1 (by omega)).2.2, z1' (by omega)]; decide
  · exact out_once ho
theorem endW_len (L : List Wl) : (L.flatMap endW).length = 2 * L.length := by
  induction L with
  | nil => rfl
  | cons X L ih =>
    rw [List.flatMap_cons, List.length_append, ih, List.length_cons, show (endW X).length = 2 from rfl]
    omega
theorem countP_split {α : Type} (p q : α → Bool) : ∀ l : List α, (l.countP fun x => p x && !q x) + (l.countP fun x => p x && q x) = l.countP p
  | [] => rfl
  | x :: l => by
    have := countP_split p q l
    rw [List.countP_cons, List.countP_cons, List.countP_cons]
    cases p x <;> cases q x <;> simp_all <;> omega
/-- every wall has two ends -/
theorem ends_two {h wd : Nat} {g : Nat → Nat → Nat} (hr : RectG h wd g) (hh : h ≤ 6) (hw : wd ≤ 6) :
    (ptsAll.countP fun x => decide (0 < ((wallsG h wd g).flatMap endW).count x) && !outB h wd x) + (ptsAll.countP fun x => decide (0 < ((wallsG h wd g).flatMap endW).count x) && outB h wd x) = 2 * (wallsG h wd g).length := by
  rw [countP_split, ← endW_len]
  have h1 := countP_once (E := (wallsG h wd g).flatMap endW) (q := fun _ => true) (fun x hx => by obtain ⟨i, k⟩ := x; exact mem_ptsAll.2 (end_in hh hw (List.count_pos_iff.2 hx))) (fun x _ => end_once hr x)
  rw [List.filter_eq_self.2 (fun _ _ => rfl)] at h1
  rw [← h1]
  refine List.countP_congr fun x _ => ?_
  simp

/-! ### rooms, told by their first cells -/
/-- where a wall begins -/
def begW (X : Wl) : List (Nat × Nat) := ([X.first]).map (mkP X.way X.line)
theorem line_beg {f : Nat → Bool} {n : Nat} (i : Nat) : ∀ t, ((lineW f n t).flatMap fun x => [x.1]).count i = if (pv f i = false ∧ f i = true) ∧ i < t then 1 else 0
  | 0 => by rw [if_neg (by omega)]; rfl
  | t + 1 => by
    have ih := line_beg (f := f) (n := n) i t
    by_cases hs : f t = true ∧ downTo f t = t
    · rw [lineW_new hs.1 hs.2, List.flatMap_append, List.count_append, ih, List.flatMap_singleton, List.count_singleton]
      have hself := downTo_self.1 hs.2
      by_cases hti : t = i
      · subst hti
        rw [if_neg (show ¬ ((pv f t = false ∧ f t = true) ∧ t < t) from fun h => absurd h.2 (Nat.lt_irrefl _)), if_pos (show (t == t) = true by simp), if_pos (show (pv f t = false ∧ f t = true) ∧ t < t + 1 from ⟨⟨hself, hs.1⟩, by omega⟩)]
      · rw [if_neg (show ¬ (t == i) = true by simpa using hti), Nat.add_zero]
        by_cases hc : (pv f i = false ∧ f i = true) ∧ i < t
        · rw [if_pos hc, if_pos (show (pv f i = false ∧ f i = true) ∧ i < t + 1 from ⟨hc.1, by omega⟩)]
        · rw [if_neg hc, if_neg (show ¬ ((pv f i = false ∧ f i = true) ∧ i < t + 1) from fun h => hc ⟨h.1, by omega⟩)]
    · have hl : lineW f n (t + 1) = lineW f n t := by
        show (if f t = true ∧ downTo f t = t then _ else _) = _
        rw [if_neg hs]
      rw [hl, ih]
      by_cases hc : (pv f i = false ∧ f i = true) ∧ i < t
      · rw [if_pos hc, if_pos ⟨hc.1, by omega⟩]
      · rw [if_neg hc, if_neg]
        rintro ⟨ha, hb⟩
        obtain rfl : i = t := by
          rcases Nat.lt_or_ge i t with h | h
          · exact absurd ⟨ha, h⟩ hc
          · omega
        exact hs ⟨ha.2, downTo_self.2 ha.1⟩
theorem line_beg_all {f : Nat → Bool} {n : Nat} (hn : ∀ j, n ≤ j → f j = false) (i : Nat) : ((lineW f n n).flatMap fun x => [x.1]).count i = b2n (f i && !pv f i) := by
  rw [line_beg i n]
  unfold b2n
  cases hp : pv f i <;> cases hf : f i
  · simp
  · have : i < n := by
      rcases Nat.lt_or_ge i n with h | h
      · exact h
      · rw [hn i h] at hf; cases hf
    simp [this]
  · simp
  · simp
theorem beg_count (h wd : Nat) (g : Nat → Nat → Nat) (i k : Nat) : ((wallsG h wd g).flatMap begW).count (i, k) = b2n (eD h wd g i k && !eU h wd g i k) + b2n (eR h wd g i k && !eL h wd g i k) := by
  unfold wallsG
  rw [List.flatMap_append, List.count_append]
  have a := lines_count begW (fun x => [x.1]) 0 (upF h g) h k i (fun _ _ _ => rfl) wd
  have b := lines_count begW (fun x => [x.1]) 1 (lvF wd g) wd i k (fun _ _ _ => rfl) h
  rw [line_beg_all upF_off] at a
  rw [line_beg_all lvF_off] at b
  unfold upW lvW
  have e0 : mkP 0 k i = (i, k) := rfl
  have e1 : mkP 1 i k = (i, k) := rfl
  rw [e0] at a
  rw [e1] at b
  rw [a, b]
  unfold eU eD eL eR
  congr 1
  · by_cases hc : 1 ≤ k ∧ k < wd
    · rw [if_pos hc, decide_eq_true hc.1, decide_eq_true hc.2]; simp
    · rw [if_neg hc]
      have : (decide (1 ≤ k) && decide (k < wd)) = false := by simpa using hc
      rw [this]; rfl
  · by_cases hc : 1 ≤ i ∧ i < h
    · rw [if_pos hc, decide_eq_true hc.1, decide_eq_true hc.2]; simp
    · rw [if_neg hc]
      have : (decide (1 ≤ i) && decide (i < h)) = false := by simpa using hc
      rw [this]; rfl
theorem begW_len (L : List Wl) : (L.flatMap begW).length = L.length := by
  induction L with
  | nil => rfl
  | cons X L ih => rw [List.flatMap_cons, List.length_append, ih, List.length_cons, show (begW X).length = 1 from rfl]; omega
theorem sum_count : ∀ E : List (Nat × Nat), (∀ x ∈ E, x ∈ ptsAll) → (ptsAll.map fun x => E.count x).sum = E.length
  | [], _ => by
    have : ∀ l : List (Nat × Nat), (l.map fun x => ([] : List (Nat × Nat)).count x).sum = 0 := fun l => by induction l with
      | nil => rfl
      | cons a l ih => rw [List.map_cons, List.sum_cons, ih]; rfl
    exact this _
  | y :: E, h => by
    have ih := sum_count E (fun x hx => h x (List.mem_cons_of_mem _ hx))
    have key : ∀ l : List (Nat × Nat), (l.map fun x => (y :: E).count x).sum = (l.map fun x => E.count x).sum + l.count y := fun l => by
      induction l with
      | nil => rfl
      | cons a l ihl =>
        rw [List.map_cons, List.sum_cons, List.map_cons, List.sum_cons, ihl, List.count_cons, List.count_cons]
        by_cases he : y = a
        · subst he; simp; omega
        · have he' : ¬ a = y := fun e => he e.symm
          simp [he, he']; omega
    rw [key, ih]
    obtain ⟨i, k⟩ := y
    have hm := mem_ptsAll.1 (h (i, k) (List.mem_cons_self ..))
    rw [ptsAll_one hm.1 hm.2, List.length_cons]
theorem sum_b2n (q : Nat × Nat → Bool) : ∀ l : List (Nat × Nat), (l.map fun x => b2n (q x)).sum = l.countP q
  | [] => rfl
  | x :: l => by rw [List.map_cons, List.sum_cons, sum_b2n q l, List.countP_cons]; unfold b2n; omega
theorem sum_addP (f g : Nat × Nat → Nat) : ∀ l : List (Nat × Nat), (l.map fun x => f x + g x).sum = (l.map f).sum + (l.map g).sum
  | [] => rfl
  | x :: l => by rw [List.map_cons, List.sum_cons, sum_addP f g l, List.map_cons, List.map_cons, List.sum_cons, List.sum_cons]; omega

/-- the first cell of a room -/
def cornB (h wd : Nat) (g : Nat → Nat → Nat) (x : Nat × Nat) : Bool := (decide (x.1 < h) && decide (x.2 < wd)) && ((decide (x.1 = 0) || eR h wd g x.1 x.2) && (decide (x.2 = 0) || eD h wd g x.1 x.2))
theorem corn_at {h wd : Nat} {g : Nat → Nat → Nat} (hr : RectG h wd g) (h1 : 1 ≤ h) (w1 : 1 ≤ wd) (i k : Nat) :
    b2n (cornB h wd g (i, k)) = b2n (decide ((i, k) = (0, 0))) + ((b2n (eD h wd g i k && !eU h wd g i k) + b2n (eR h wd g i k && !eL h wd g i k)) + b2n (decide (((wallsG h wd g).flatMap innW).count (i, k) = 2))) := by
  rw [show decide (((wallsG h wd g).flatMap innW).count (i, k) = 2) = ((eU h wd g i k && eD h wd g i k) && (eL h wd g i k && eR h wd g i k)) by
    rw [inn_count, Bool.eq_iff_iff, decide_eq_true_eq, b2n_two, Bool.and_eq_true (_ && _)]]
  unfold cornB
  simp only
  obtain ⟨z1, z1', z2, z2', z3, z4⟩ := off_pts (h := h) (wd := wd) (g := g) (i := i) (k := k)
  by_cases hi : i < h
  · by_cases hk : k < wd
    · rw [decide_eq_true hi, decide_eq_true hk]
      by_cases i0 : i = 0
      · obtain ⟨a, b, c⟩ := z3 i0
        by_cases k0 : k = 0
        · obtain ⟨a', b', c'⟩ := z4 k0
          subst i0; subst k0
          rw [a, b, c, b']; rfl
        · rw [a, b, c, decide_eq_true i0, decide_eq_false k0, decide_eq_false (show ¬ (i, k) = (0, 0) from fun e => k0 (by cases e; rfl))]
          cases eD h wd g i k <;> rfl
      · by_cases k0 : k = 0
        · obtain ⟨a', b', c'⟩ := z4 k0
          rw [a', b', c', decide_eq_false i0, decide_eq_true k0, decide_eq_false (show ¬ (i, k) = (0, 0) from fun e => i0 (by cases e; rfl))]
          cases eR h wd g i k <;> rfl
        · have hm := meets_in hr (show 1 ≤ i by omega) hi (show 1 ≤ k by omega) hk
          have hc : ¬ ((eU h wd g i k != eD h wd g i k) = true ∧ (eL h wd g i k != eR h wd g i k) = true) := hm.2.2
          have hL : ¬ (eD h wd g i k = true ∧ eR h wd g i k = true ∧ eU h wd g i k = false ∧ eL h wd g i k = false) := fun ⟨a, b, c, d⟩ => hc (by rw [a, b, c, d]; exact ⟨rfl, rfl⟩)
          rw [decide_eq_false i0, decide_eq_false k0, decide_eq_false (show ¬ (i, k) = (0, 0) from fun e => i0 (by cases e; rfl))]
          obtain ⟨e1, e2, e3, e4⟩ := around_in (g := g) (show 1 ≤ i by omega) hi (show 1 ≤ k by omega) hk
          have hs1 : eU h wd g i k = false → eD h wd g i k = false → eL h wd g i k = false → eR h wd g i k = false := by
            rw [e1, e2, e3, e4]
            simp only [ne_eq, decide_not, Bool.not_eq_false', decide_eq_true_eq]
            omega
          have hs2 : eU h wd g i k = false → eR h wd g i k = false → eL h wd g i k = false → eD h wd g i k = false := by
            rw [e1, e2, e3, e4]
            simp only [ne_eq, decide_not, Bool.not_eq_false', decide_eq_true_eq]
            omega
          revert hc hL
          clear hm z1 z1' z2 z2' z3 z4 e1 e2 e3 e4
          generalize eU h wd g i k = U at *
          generalize eD h wd g i k = D at *
          generalize eL h wd g i k = Lf at *
          generalize eR h wd g i k = Rt at *
          cases U <;> cases D <;> cases Lf <;> cases Rt <;> simp_all [b2n]
    · rw [decide_eq_false hk]
      obtain ⟨a, b, c⟩ := z2 (by omega)
      rw [a, b, c, decide_eq_false (show ¬ (i, k) = (0, 0) from fun e => hk (by cases e; omega))]
      simp [b2n]
  · rw [decide_eq_false hi]
    obtain ⟨a, b, c⟩ := z1 (by omega)
    rw [a, b, c, decide_eq_false (show ¬ (i, k) = (0, 0) from fun e => hi (by cases e; omega))]
    simp [b2n]
/-- rooms are walls, crosses and one -/
theorem corn_sum {h wd : Nat} {g : Nat → Nat → Nat} (hr : RectG h wd g) (h1 : 1 ≤ h) (w1 : 1 ≤ wd) (hh : h ≤ 6) (hw : wd ≤ 6) :
    ptsAll.countP (cornB h wd g) = 1 + ((wallsG h wd g).length + ptsAll.countP fun x => decide (((wallsG h wd g).flatMap innW).count x = 2)) := by
  rw [← sum_b2n (cornB h wd g)]
  have e : (ptsAll.map fun x => b2n (cornB h wd g x)) = ptsAll.map fun x => b2n (decide (x = (0, 0))) + (((wallsG h wd g).flatMap begW).count x + b2n (decide (((wallsG h wd g).flatMap innW).count x = 2))) :=
    List.map_congr_left fun x _ => by obtain ⟨i, k⟩ := x; rw [corn_at hr h1 w1, beg_count]
  rw [e, sum_addP, sum_addP, sum_b2n, sum_b2n, sum_count, begW_len]
  · rw [show (ptsAll.countP fun x => decide (x = (0, 0))) = 1 by decide +kernel]
  · intro x hx
    obtain ⟨i, k⟩ := x
    have h0 := List.count_pos_iff.2 hx
    rw [beg_count] at h0
    obtain ⟨z1, _, z2, _, _, _⟩ := off_pts (h := h) (wd := wd) (g := g) (i := i) (k := k)
    refine mem_ptsAll.2 ⟨?_, ?_⟩
    · rcases Nat.lt_or_ge i h with a | a
      · omega
      · rw [(z1 a).1, (z1 a).2.2] at h0; simp [b2n] at h0
    · rcases Nat.lt_or_ge k wd with a | a
      · omega
      · rw [(z2 a).2.1, (z2 a).2.2] at h0; simp [b2n] at h0

/-! ### as many first cells as rooms -/
theorem countP_parts {α : Type} (q : α → Bool) (f : α → Nat) (R : Nat) : ∀ l : List α, (∀ x ∈ l, q x = true → f x < R) → ((List.range R).map fun v => l.countP fun x => q x && (f x == v)).sum = l.countP q
  | [], _ => by
    have : ∀ n, ((List.range n).map fun _ => 0).sum = 0 := fun n => by induction n with
      | zero => rfl
      | succ n ih => rw [List.range_succ, List.map_append, List.sum_append, ih]; rfl
    exact this R
  | x :: l, h => by
    have ih := countP_parts q f R l (fun y hy => h y (List.mem_cons_of_mem _ hy))
    rw [List.countP_cons, ← ih]
    have key : ∀ n, ((List.range n).map fun v => (x :: l).countP fun y => q y && (f y == v)).sum = ((List.range n).map fun v => l.countP fun y => q y && (f y == v)).sum + (if q x = true ∧ f x < n then 1 else 0) := fun n => by
      induction n with
      | zero => simp
      | succ n ihn =>
        rw [List.range_succ, List.map_append, List.sum_append, ihn, List.map_append, List.sum_append]
        simp only [List.map_cons, List.map_nil, List.sum_cons, List.sum_nil, List.countP_cons, Nat.add_zero]
        cases hq : q x
        · simp
        · by_cases hfn : f x = n
          · subst hfn; simp; omega
          · by_cases hlt : f x < n
            · have : f x < n + 1 := by omega
              simp [hfn, hlt, this]; omega
            · have : ¬ f x < n + 1 := by omega
              simp [hfn, hlt, this]
    rw [key]
    cases hq : q x
    · simp
    · simp [h x (List.mem_cons_self ..) hq]
theorem corn_room {h wd : Nat} {g : Nat → Nat → Nat} {v row col hi wi : Nat} (h1 : row + hi ≤ h) (h2 : col + wi ≤ wd) (hin : ∀ i j, i < h → j < wd → (g i j = v ↔ InR row col hi wi i j)) (hi0 : 0 < hi) (hw0 : 0 < wi) (i k : Nat) :
    (cornB h wd g (i, k) && (g i k == v)) = decide ((i, k) = (row, col)) := by
  rw [Bool.eq_iff_iff, Bool.and_eq_true, beq_iff_eq, decide_eq_true_eq, Prod.mk.injEq]
  unfold cornB
  simp only [Bool.and_eq_true, Bool.or_eq_true, decide_eq_true_eq]
  have hR : ∀ i k, i < h → k < wd → (i = 0 ∨ eR h wd g i k = true ↔ i = 0 ∨ g (i - 1) k ≠ g i k) := fun i k hi hk => by
    unfold eR lvF
    by_cases i0 : i = 0
    · simp [i0]
    · simp [i0, hi, hk, show 1 ≤ i by omega]
  have hD : ∀ i k, i < h → k < wd → (k = 0 ∨ eD h wd g i k = true ↔ k = 0 ∨ g i (k - 1) ≠ g i k) := fun i k hi hk => by
    unfold eD upF
    by_cases k0 : k = 0
    · simp [k0]
    · simp [k0, hi, hk, show 1 ≤ k by omega]
  constructor
  · rintro ⟨⟨⟨a, b⟩, c, d⟩, e⟩
    have hz := (hin i k a b).1 e
    unfold InR at hz
    have c' := (hR i k a b).1 c
    have d' := (hD i k a b).1 d
    constructor
    · rcases Nat.lt_or_ge row i with hlt | hge
      · exfalso
        rcases c' with c' | c'
        · omega
        · exact c' (by rw [e]; exact (hin (i - 1) k (by omega) b).2 (by unfold InR; omega))
      · omega
    · rcases Nat.lt_or_ge col k with hlt | hge
      · exfalso
        rcases d' with d' | d'
        · omega
        · exact d' (by rw [e]; exact (hin i (k - 1) a (by omega)).2 (by unfold InR; omega))
      · omega
  · rintro ⟨rfl, rfl⟩
    have ha : i < h := by omega
    have hb : k < wd := by omega
    have he : g i k = v := (hin i k ha hb).2 (by unfold InR; omega)
    refine ⟨⟨⟨ha, hb⟩, (hR i k ha hb).2 ?_, (hD i k ha hb).2 ?_⟩, he⟩
    · by_cases i0 : i = 0
      · exact .inl i0
      · right
        intro e
        have := (hin (i - 1) k (by omega) hb).1 (e.trans he)
        unfold InR at this; omega
    · by_cases k0 : k = 0
      · exact .inl k0
      · right
        intro e
        have := (hin i (k - 1) ha (by omega)).1 (e.trans he)
        unfold InR at this; omega
theorem corn_rooms {h wd R : Nat} {g : Nat → Nat → Nat} (hr : RectG h wd g) (hh : h ≤ 6) (hw : wd ≤ 6) (hlt : ∀ i j, i < h → j < wd → g i j < R) (hex : ∀ v, v < R → ∃ i j, i < h ∧ j < wd ∧ g i j = v) :
    ptsAll.countP (cornB h wd g) = R := by
  rw [← countP_parts (cornB h wd g) (fun x => g x.1 x.2) R ptsAll (fun x _ hx => by
    unfold cornB at hx
    simp only [Bool.and_eq_true, decide_eq_true_eq] at hx
    exact hlt _ _ hx.1.1 hx.1.2)]
  have e : ((List.range R).map fun v => ptsAll.countP fun x => cornB h wd g x && (g x.1 x.2 == v)) = (List.range R).map fun _ => 1 := by
    refine List.map_congr_left fun v hv => ?_
    rw [List.mem_range] at hv
    obtain ⟨i0, j0, a, b, c⟩ := hex v hv
    obtain ⟨row, col, hi, wi, h1, h2, hin⟩ := hr i0 j0 a b
    rw [c] at hin
    have hz := (hin i0 j0 a b).1 c
    unfold InR at hz
    rw [show (ptsAll.countP fun x => cornB h wd g x && (g x.1 x.2 == v)) = ptsAll.countP fun x => x == (row, col) from List.countP_congr fun x _ => by
      obtain ⟨i, k⟩ := x
      rw [corn_room h1 h2 hin (by omega) (by omega) i k]
      simp]
    exact ptsAll_one (by omega) (by omega)
  rw [e]
  have : ∀ n, ((List.range n).map fun _ => 1).sum = n := fun n => by induction n with
    | zero => rfl
    | succ n ih => rw [List.range_succ, List.map_append, List.sum_append, ih]; rfl
  exact this R

/-! ### crosses of plans that are turned -/
theorem sumN_first (f : Nat → Nat) : ∀ n, sumN (n + 1) f = f 0 + sumN n (fun i => f (i + 1))
  | 0 => by simp [sumN]
  | n + 1 => by rw [sumN, sumN_first f n, sumN]; omega
theorem range_sumN (f : Nat → Nat) : ∀ n, ((List.range n).map f).sum = sumN n f
  | 0 => rfl
  | n + 1 => by rw [List.range_succ, List.map_append, List.sum_append, range_sumN f n, sumN]; simp
theorem countP_sumN (q : Nat → Bool) : ∀ n, (List.range n).countP q = sumN n (fun i => if q i = true then 1 else 0)
  | 0 => rfl
  | n + 1 => by rw [List.range_succ, List.countP_append, countP_sumN q n, sumN, List.countP_singleton]
/-- how many points have so many rooms -/
def metC (h wd : Nat) (g : Nat → Nat → Nat) (m : Nat) : Nat := cntG h wd (fun i k => metG g m i k)
theorem ptsG_cnt (h wd : Nat) (g : Nat → Nat → Nat) (m : Nat) : ptsG h wd g m = metC h wd g m := by
  unfold ptsG metC cntG
  rw [range_sumN]
  exact sumN_congr fun i _ => countP_sumN _ _
theorem meetG_four (g : Nat → Nat → Nat) (i k : Nat) : meetG g i k = 4 ↔ g (i - 1) k ≠ g (i - 1) (k - 1) ∧ g i (k - 1) ≠ g (i - 1) (k - 1) ∧ g i (k - 1) ≠ g (i - 1) k ∧ g i k ≠ g (i - 1) (k - 1) ∧ g i k ≠ g (i - 1) k ∧ g i k ≠ g i (k - 1) := by
  unfold meetG
  generalize g (i - 1) (k - 1) = a
  generalize g (i - 1) k = b
  generalize g i (k - 1) = c
  generalize g i k = d
  have h1 := b2n_le (decide (b ≠ a))
  have h2 := b2n_le (decide (c ≠ a) && decide (c ≠ b))
  have h3 := b2n_le (decide (d ≠ a) && (decide (d ≠ b) && decide (d ≠ c)))
  have e : ∀ x : Bool, b2n x = 1 ↔ x = true := fun x => by cases x <;> simp [b2n]
  constructor
  · intro h
    have a1 := (e _).1 (show b2n (decide (b ≠ a)) = 1 by omega)
    have a2 := (e _).1 (show b2n (decide (c ≠ a) && decide (c ≠ b)) = 1 by omega)
    have a3 := (e _).1 (show b2n (decide (d ≠ a) && (decide (d ≠ b) && decide (d ≠ c))) = 1 by omega)
    simp only [Bool.and_eq_true, decide_eq_true_eq] at a1 a2 a3
    exact ⟨a1, a2.1, a2.2, a3.1, a3.2.1, a3.2.2⟩
  · rintro ⟨a, b, c, d, e, f⟩
    rw [decide_eq_true a, decide_eq_true b, decide_eq_true c, decide_eq_true d, decide_eq_true e, decide_eq_true f]
    rfl
theorem metC_same {h wd : Nat} {m m' : Nat → Nat → Nat} (hs : SameG h wd m m') : metC h wd m' 4 = metC h wd m 4 := by
  unfold metC
  refine cntG_congr fun i k hi hk => ?_
  unfold metG
  by_cases h1 : 1 ≤ i
  · by_cases h2 : 1 ≤ k
    · rw [decide_eq_true h1, decide_eq_true h2, Bool.true_and, Bool.true_and]
      refine decide_eq_decide.2 ?_
      rw [meetG_four, meetG_four]
      have s1 := hs (i - 1) (k - 1) (i - 1) k (by omega) (by omega) (by omega) hk
      have s2 := hs (i - 1) (k - 1) i (k - 1) (by omega) (by omega) hi (by omega)
      have s3 := hs (i - 1) k i (k - 1) (by omega) hk hi (by omega)
      have s4 := hs (i - 1) (k - 1) i k (by omega) (by omega) hi hk
      have s5 := hs (i - 1) k i k (by omega) hk hi hk
      have s6 := hs i (k - 1) i k hi (by omega) hi hk
      rw [ne_eq, ne_eq, ne_eq, ne_eq, ne_eq, ne_eq, s1, s2, s3, s4, s5, s6]
    · rw [decide_eq_false h2]; simp
  · rw [decide_eq_false h1]; simp
theorem metC_trans (h wd : Nat) (m : Nat → Nat → Nat) : metC wd h (fun i j => m j i) 4 = metC h wd m 4 := by
  unfold metC cntG
  rw [sumN_comm]
  refine sumN_congr fun i _ => sumN_congr fun k _ => ?_
  have : metG (fun i j => m j i) 4 k i = metG m 4 i k := by
    unfold metG
    rw [Bool.eq_iff_iff]
    simp only [Bool.and_eq_true, decide_eq_true_eq, meetG_four]
    constructor
    · rintro ⟨⟨a, b⟩, c1, c2, c3, c4, c5, c6⟩; exact ⟨⟨b, a⟩, c2, c1, Ne.symm c3, c4, c6, c5⟩
    · rintro ⟨⟨a, b⟩, c1, c2, c3, c4, c5, c6⟩; exact ⟨⟨b, a⟩, c2, c1, Ne.symm c3, c4, c6, c5⟩
  simp only [this]
theorem metC_flip (h wd : Nat) (m : Nat → Nat → Nat) : metC h wd (fun i j => m i (wd - 1 - j)) 4 = metC h wd m 4 := by
  unfold metC cntG
  refine sumN_congr fun i _ => ?_
  cases wd with
  | zero => rfl
  | succ n =>
    rw [sumN_first, sumN_first]
    dsimp only
    have z : ∀ g : Nat → Nat → Nat, metG g 4 i 0 = false := fun g => by unfold metG; simp
    simp only [z]
    congr 1
    rw [← sumN_rev n]
    refine sumN_congr fun k hk => ?_
    have : metG (fun i j => m i (n + 1 - 1 - j)) 4 i (n - 1 - k + 1) = metG m 4 i (k + 1) := by
      unfold metG
      rw [Bool.eq_iff_iff]
      simp only [Bool.and_eq_true, decide_eq_true_eq, meetG_four]
      rw [show n + 1 - 1 - (n - 1 - k + 1 - 1) = k + 1 by omega, show n + 1 - 1 - (n - 1 - k + 1) = k by omega, show k + 1 - 1 = k by omega]
      constructor
      · rintro ⟨⟨a, b⟩, c1, c2, c3, c4, c5, c6⟩; exact ⟨⟨a, by omega⟩, Ne.symm c1, c5, c4, c3, c2, Ne.symm c6⟩
      · rintro ⟨⟨a, b⟩, c1, c2, c3, c4, c5, c6⟩; exact ⟨⟨a, by omega⟩, Ne.symm c1, c5, c4, c3, c2, Ne.symm c6⟩
    simp only [this]
theorem metC_turn (h wd : Nat) (m : Nat → Nat → Nat) : metC wd h (fun i j => m (h - 1 - j) i) 4 = metC h wd m 4 := by
  have a := metC_flip wd h (fun a b => m b a)
  have b := metC_trans h wd m
  exact a.trans b


/-! ### plans -/
theorem walls_both (p : List ByteArray) : (wallsP p).length = manyU p + manyV p := by
  obtain ⟨a, b⟩ := many_walls p
  rw [← a, ← b]
  unfold wallsP
  rw [(cntW_walls _ _ _).1, (cntW_walls _ _ _).2]
  unfold wallsG
  rw [List.length_append]
/-- every wall has two ends: where three rooms meet, or at the outline -/
theorem tees_math {p : List ByteArray} (h : planB p = true) : meetN p 3 + outN p = 2 * (manyU p + manyV p) ∧ manyU p + manyV p ≤ 72 := by
  have hp := planP_of h
  have h72 := wallsP_len p
  rw [← teeC_meet, ← endC_out, ← walls_both]
  refine ⟨?_, h72⟩
  unfold teeC endC endP planH planW
  rw [if_pos h, if_pos h, wallsP_yes h]
  exact ends_two hp.rectG hp.grid.h6 hp.grid.w6
/-- rooms are one more than walls and crosses -/
theorem euler {p : List ByteArray} (h : planB p = true) : gridR p = 1 + (manyU p + manyV p + meetN p 4) := by
  have hp := planP_of h
  rw [← crossC_meet, ← walls_both]
  unfold crossC innP
  rw [wallsP_yes h, ← corn_sum hp.rectG hp.grid.h1 hp.grid.w1 hp.grid.h6 hp.grid.w6]
  exact (corn_rooms hp.rectG hp.grid.h6 hp.grid.w6 (fun i j hi hj => gridG_lt hi hj) (fun v hv => room_cell (m := markN p) hv)).symm
theorem meetN_is {q : List ByteArray} {h wd : Nat} {m : Nat → Nat → Nat} (x : Is q h wd m) : meetN q 4 = metC h wd m 4 := by
  unfold meetN
  have hq := planP_of x.plan
  rw [if_pos x.plan, pts_grid hq, ptsG_cnt, x.len, x.wide]
  exact metC_same x.same
theorem cross_self {p : List ByteArray} (h : planB p = true) : meetN p 4 = metC p.length (wideB p) (gridG p) 4 := meetN_is (Is.self h)
theorem cross_turn {p : List ByteArray} (h : planB p = true) : meetN (namesB (turnB p)) 4 = meetN p 4 := by
  rw [meetN_is (is_turn h), cross_self h]; exact metC_turn _ _ _
theorem cross_flip {p : List ByteArray} (h : planB p = true) : meetN (namesB (flipB p)) 4 = meetN p 4 := by
  rw [meetN_is (is_flip h), cross_self h]; exact metC_flip _ _ _
theorem cross_le (p : List ByteArray) : meetN p 4 ≤ 49 := by rw [← crossC_meet]; exact crossC_le p

theorem linesW_way (a b : Nat) (F : Nat → Nat → Bool) (n k : Nat) : (linesW a F n k).length = (linesW b F n k).length := by
  have := congrArg List.length (linesW_wl a b F n k)
  simpa using this
theorem many_is {q : List ByteArray} {h wd : Nat} {m : Nat → Nat → Nat} (x : Is q h wd m) : manyU q = (upW h wd m).length ∧ manyV q = (lvW h wd m).length := by
  unfold manyU manyV
  rw [if_pos x.plan, if_pos x.plan, upL_grid x.plan, upL_trans x.plan, List.length_map, List.length_map, x.len, x.wide]
  unfold upW lvW
  constructor
  · congr 1
    refine linesW_congr fun l i h1 h2 hi => ?_
    unfold upF
    rw [decide_eq_decide.2 (show gridG q i (l - 1) ≠ gridG q i l ↔ m i (l - 1) ≠ m i l from not_congr (x.same i l i (l - 1) hi h2 hi (by omega)))]
  · congr 1
    refine linesW_congr fun l i h1 h2 hi => ?_
    unfold lvF
    rw [decide_eq_decide.2 (show gridG q (l - 1) i ≠ gridG q l i ↔ m (l - 1) i ≠ m l i from not_congr (x.same l i (l - 1) i h2 hi (by omega) hi))]
theorem many_trans {p : List ByteArray} (h : planB p = true) : manyU (namesB (transB p)) = manyV p ∧ manyV (namesB (transB p)) = manyU p := by
  obtain ⟨a, b⟩ := many_is (is_trans h)
  obtain ⟨c, d⟩ := many_is (Is.self h)
  rw [a, b, c, d]
  unfold upW lvW
  constructor
  · rw [linesW_way 0 1]; rfl
  · rw [linesW_way 1 0]; rfl
theorem rooms_walls {p : List ByteArray} (h : planB p = true) : roomsOr p = (manyU p : Int) + (manyV p : Int) + (meetN p 4 : Int) + 1 := by
  have h1 := euler h
  rw [roomsOr_yes h, (planP_of h).rooms]
  omega

/-! ### cuts -/
theorem lineW_full {f : Nat → Bool} {n : Nat} (hn : 1 ≤ n) (hf : ∀ i, i < n → f i = true) : ∀ t, 1 ≤ t → t ≤ n → lineW f n t = [(0, n)]
  | 0, h, _ => by omega
  | t + 1, _, h => by
    have hr : runFrom f n 0 = n := by have := runFrom_eq (f := f) (n := n) (s := 0) (e := n) (Nat.zero_le _) (Nat.le_refl _) (fun i _ b => hf i b) (fun h => by omega); omega
    rcases Nat.eq_zero_or_pos t with h0 | h0
    · subst h0
      rw [lineW_new (hf 0 hn) rfl, hr]; rfl
    · have hd : downTo f t ≠ t := by
        have : downTo f t = 0 := downTo_eq (Nat.zero_le _) (fun i _ b => hf i (by omega)) (fun h => by omega)
        omega
      rw [lineW_on hd, lineW_full hn hf t h0 (by omega)]
theorem lineW_cut {f : Nat → Bool} {n : Nat} (hn : 1 ≤ n) : (lineW f n n).countP (fun x => decide (x.2 = n)) = if (List.range n).all f = true then 1 else 0 := by
  by_cases h : (List.range n).all f = true
  · rw [if_pos h, lineW_full hn (fun i hi => by rw [List.all_eq_true] at h; exact h i (List.mem_range.2 hi)) n hn (Nat.le_refl _)]
    simp
  · rw [if_neg h, List.countP_eq_zero]
    intro x hx hc
    rw [decide_eq_true_eq] at hc
    obtain ⟨a, b, c, d⟩ := lineW_mem hx
    have hle := runFrom_le f n x.1
    refine h ?_
    rw [List.all_eq_true]
    intro i hi
    rw [List.mem_range] at hi
    exact runFrom_all (n := n) (s := x.1) (by omega) (by omega)
/-- lines that are parted from end to end -/
def fullL (F : Nat → Nat → Bool) (n K : Nat) : Nat := (List.range K).countP fun l => decide (1 ≤ l) && (List.range n).all (F l)
theorem linesW_cut {w : Nat} {F : Nat → Nat → Bool} {n : Nat} (hn : 1 ≤ n) : ∀ K, (linesW w F n K).countP (fun X => decide (X.long = n)) = fullL F n K
  | 0 => rfl
  | K + 1 => by
    have ih := linesW_cut (w := w) (F := F) hn K
    unfold fullL at ih ⊢
    rw [List.range_succ, List.countP_append, List.countP_singleton]
    rcases Nat.eq_zero_or_pos K with h0 | h0
    · subst h0; simp [linesW_one]
    · rw [linesW_succ h0, List.countP_append, ih, List.countP_map]
      congr 1
      rw [show ((fun X : Wl => decide (X.long = n)) ∘ fun x : Nat × Nat => (⟨w, K, x.1, x.2⟩ : Wl)) = fun x => decide (x.2 = n) from rfl, lineW_cut hn, decide_eq_true (show 1 ≤ K from h0), Bool.true_and]
theorem fullL_congr {F G : Nat → Nat → Bool} {n K : Nat} (h : ∀ l i, 1 ≤ l → l < K → i < n → F l i = G l i) : fullL F n K = fullL G n K := by
  unfold fullL
  refine List.countP_congr fun l hl => ?_
  rw [List.mem_range] at hl
  by_cases h1 : 1 ≤ l
  · rw [decide_eq_true h1, Bool.true_and, Bool.true_and]
    have : (List.range n).all (F l) = (List.range n).all (G l) := by
      rw [Bool.eq_iff_iff, List.all_eq_true, List.all_eq_true]
      constructor
      · intro a i hi; rw [← h l i h1 hl (List.mem_range.1 hi)]; exact a i hi
      · intro a i hi; rw [h l i h1 hl (List.mem_range.1 hi)]; exact a i hi
    rw [this]
  · rw [decide_eq_false h1]; simp
/-- the lines from the other end on, and their cells from the other end on -/
theorem fullL_rev (F : Nat → Nat → Bool) (n K : Nat) : fullL (fun l i => F (K - l) i) n K = fullL F n K := by
  unfold fullL
  rw [countP_sumN, countP_sumN]
  cases K with
  | zero => rfl
  | succ m =>
    rw [sumN_first, sumN_first]
    simp only [show decide (1 ≤ 0) = false from rfl, Bool.false_and]
    congr 1
    rw [← sumN_rev m]
    refine sumN_congr fun k hk => ?_
    simp only [show m + 1 - (m - 1 - k + 1) = k + 1 by omega, decide_eq_true (show 1 ≤ m - 1 - k + 1 by omega), decide_eq_true (show 1 ≤ k + 1 by omega)]
theorem fullL_cells (F : Nat → Nat → Bool) (n K : Nat) : fullL (fun l i => F l (n - 1 - i)) n K = fullL F n K := by
  unfold fullL
  refine List.countP_congr fun l _ => ?_
  have : (List.range n).all (fun i => F l (n - 1 - i)) = (List.range n).all (F l) := by
    rw [Bool.eq_iff_iff, List.all_eq_true, List.all_eq_true]
    constructor
    · intro a i hi
      rw [List.mem_range] at hi
      have := a (n - 1 - i) (List.mem_range.2 (by omega))
      rwa [show n - 1 - (n - 1 - i) = i by omega] at this
    · intro a i hi
      rw [List.mem_range] at hi
      exact a (n - 1 - i) (List.mem_range.2 (by omega))
  rw [this]
/-- how many cuts a grid has -/
def cutG (h wd : Nat) (g : Nat → Nat → Nat) : Nat := fullL (fun l i => decide (g i (l - 1) ≠ g i l)) h wd + fullL (fun l i => decide (g (l - 1) i ≠ g l i)) wd h
theorem cutG_walls {h wd : Nat} {g : Nat → Nat → Nat} (h1 : 1 ≤ h) (w1 : 1 ≤ wd) : ((wallsG h wd g).filter fun x => decide (x.long = alongN h wd x.way)).length = cutG h wd g := by
  unfold wallsG cutG
  rw [List.filter_append, List.length_append, ← List.countP_eq_length_filter, ← List.countP_eq_length_filter]
  congr 1
  · rw [show (upW h wd g).countP (fun x => decide (x.long = alongN h wd x.way)) = (upW h wd g).countP (fun x => decide (x.long = h)) from List.countP_congr fun x hx => by
      have : x.way = 0 := (linesW_mem hx).1
      unfold alongN; rw [if_pos this]]
    unfold upW
    rw [linesW_cut h1]
    exact fullL_congr fun l i _ _ hi => by unfold upF; rw [decide_eq_true hi, Bool.true_and]
  · rw [show (lvW h wd g).countP (fun x => decide (x.long = alongN h wd x.way)) = (lvW h wd g).countP (fun x => decide (x.long = wd)) from List.countP_congr fun x hx => by
      have : x.way = 1 := (linesW_mem hx).1
      unfold alongN; rw [if_neg (by omega)]]
    unfold lvW
    rw [linesW_cut w1]
    exact fullL_congr fun l i _ _ hi => by unfold lvF; rw [decide_eq_true hi, Bool.true_and]
theorem cutG_same {h wd : Nat} {m m' : Nat → Nat → Nat} (hs : SameG h wd m m') : cutG h wd m' = cutG h wd m := by
  unfold cutG
  congr 1
  · exact fullL_congr fun l i h1 h2 h3 => decide_eq_decide.2 (not_congr (hs i l i (l - 1) h3 h2 h3 (by omega)))
  · exact fullL_congr fun l i h1 h2 h3 => decide_eq_decide.2 (not_congr (hs l i (l - 1) i h2 h3 (by omega) h3))
theorem cutG_turn (h wd : Nat) (m : Nat → Nat → Nat) : cutG wd h (fun i j => m (h - 1 - j) i) = cutG h wd m := by
  unfold cutG
  rw [Nat.add_comm]
  congr 1
  · rw [← fullL_cells (fun l i => decide (m i (l - 1) ≠ m i l))]
  · rw [← fullL_rev (fun l i => decide (m (l - 1) i ≠ m l i))]
    refine fullL_congr fun l i h1 h2 _ => ?_
    refine decide_eq_decide.2 ?_
    simp only
    rw [show h - 1 - (l - 1) = h - l by omega, show h - 1 - l = h - l - 1 by omega]
    exact ⟨Ne.symm, Ne.symm⟩

/-! ### rooms at the outline -/
theorem line_two {f : Nat → Bool} {n : Nat} (hn1 : 1 ≤ n) (hn : ∀ j, n ≤ j → f j = false) (w k : Nat) : ((lineW f n n).map fun x => endTwo n ⟨w, k, x.1, x.2⟩).sum = b2n (f 0) + b2n (f (n - 1)) := by
  have a := line_end_all hn 0
  have b := line_end_all hn n
  rw [show pv f 0 = false from rfl] at a
  rw [hn n (Nat.le_refl _), show pv f n = f (n - 1) by unfold pv; rw [decide_eq_true hn1, Bool.true_and]] at b
  have key : ∀ l : List (Nat × Nat), (∀ x ∈ l, x.1 < n ∧ 1 ≤ x.2 ∧ x.1 + x.2 ≤ n) → (l.map fun x => endTwo n ⟨w, k, x.1, x.2⟩).sum = (l.flatMap endR).count 0 + (l.flatMap endR).count n := fun l => by
    induction l with
    | nil => intro _; rfl
    | cons x l ih =>
      intro h
      obtain ⟨h1, h2, h3⟩ := h x (List.mem_cons_self ..)
      rw [List.map_cons, List.sum_cons, ih (fun y hy => h y (List.mem_cons_of_mem _ hy)), List.flatMap_cons, List.count_append, List.count_append, count_endR, count_endR]
      unfold endTwo
      simp only
      rw [if_neg (show ¬ x.1 + x.2 = 0 by omega), if_neg (show ¬ x.1 = n by omega)]
      omega
  rw [key _ (fun x hx => by
    obtain ⟨c, d, e, f'⟩ := lineW_mem hx
    have := runFrom_pos c d
    have := runFrom_le f n x.1
    omega), a, b]
  cases f 0 <;> cases f (n - 1) <;> rfl
theorem lines_two {w : Nat} {F : Nat → Nat → Bool} {n : Nat} (hn1 : 1 ≤ n) (hn : ∀ l j, n ≤ j → F l j = false) : ∀ K, ((linesW w F n K).map (endTwo n)).sum = ((List.range K).countP fun l => decide (1 ≤ l) && F l 0) + ((List.range K).countP fun l => decide (1 ≤ l) && F l (n - 1))
  | 0 => rfl
  | K + 1 => by
    have ih := lines_two (w := w) hn1 hn K
    rw [List.range_succ, List.countP_append, List.countP_append, List.countP_singleton, List.countP_singleton]
    rcases Nat.eq_zero_or_pos K with h0 | h0
    · subst h0; simp [linesW_one]
    · rw [linesW_succ h0, List.map_append, List.sum_append, ih, List.map_map]
      rw [show (endTwo n ∘ fun x : Nat × Nat => (⟨w, K, x.1, x.2⟩ : Wl)) = fun x => endTwo n ⟨w, K, x.1, x.2⟩ from rfl, line_two hn1 (hn K), decide_eq_true (show 1 ≤ K from h0), Bool.true_and, Bool.true_and]
      unfold b2n
      omega

theorem cutN_is {q : List ByteArray} {h wd : Nat} {m : Nat → Nat → Nat} (x : Is q h wd m) : cutN q = cutG h wd m := by
  have hd := x.dims
  unfold cutN cntC
  rw [wallsP_yes x.plan, x.len, x.wide]
  rw [show isCutP q = fun y => decide (y.long = alongN h wd y.way) by
    unfold isCutP planH planW
    rw [if_pos x.plan, if_pos x.plan, x.len, x.wide]
    rfl]
  rw [cutG_walls hd.1 hd.2.2.1, cutG_same x.same]
theorem cuts_turn {p : List ByteArray} (h : planB p = true) : cutN (namesB (turnB p)) = cutN p := by
  rw [cutN_is (is_turn h), cutN_is (Is.self h)]; exact cutG_turn _ _ _
theorem cuts_le (p : List ByteArray) : cutN p ≤ manyU p + manyV p := by
  rw [← walls_both]; exact cntC_le _ _
theorem cuts_ok (p : List ByteArray) : cutOk p = !decide (cutN p = 0) := by
  unfold cutOk cutN cntC
  cases ha : (wallsP p).any (isCutP p)
  · have : (wallsP p).filter (isCutP p) = [] := by
      rw [List.filter_eq_nil_iff]
      intro x hx
      rw [List.any_eq_false] at ha
      exact ha x hx
    rw [this]; rfl
  · obtain ⟨x, hx, hy⟩ := List.any_eq_true.1 ha
    have := List.length_pos_of_mem (List.mem_filter.2 ⟨hx, hy⟩)
    rw [decide_eq_false (by omega)]; rfl
theorem out_lines {p : List ByteArray} (h : planB p = true) : outN p =
    (((List.range (wideB p)).countP fun l => decide (1 ≤ l) && upF p.length (gridG p) l 0) + ((List.range (wideB p)).countP fun l => decide (1 ≤ l) && upF p.length (gridG p) l (p.length - 1))) +
    (((List.range p.length).countP fun l => decide (1 ≤ l) && lvF (wideB p) (gridG p) l 0) + ((List.range p.length).countP fun l => decide (1 ≤ l) && lvF (wideB p) (gridG p) l (wideB p - 1))) := by
  have hp := planP_of h
  rw [← endC_out]
  unfold endC endP planH planW
  rw [if_pos h, if_pos h, wallsP_yes h, out_pts _ _ _ hp.grid.h6 hp.grid.w6, out_ends]
  unfold upW lvW
  rw [lines_two hp.grid.h1 (fun l j hj => upF_off j hj), lines_two hp.grid.w1 (fun l j hj => lvF_off j hj)]

end Go.Proofs.Ytjdlapcikpmdgaa

/-
  Plans made tight: the same crosses or none, the same rooms. (Mathematics.)
-/
namespace Go.Proofs.Ytjdlapcikpmdgaa
open Go.RowKit

theorem metC_zero {h wd : Nat} {g : Nat → Nat → Nat} : metC h wd g 4 = 0 ↔ ∀ i k, i < h → k < wd → metG g 4 i k = false := by
  have hz : cntG h wd (fun _ _ => false) = 0 := by
    unfold cntG
    have : (fun i => sumN wd fun j => if (fun (_ _ : Nat) => false) i j = true then 1 else 0) = fun _ => wd * 0 := by
      funext i; rw [← sumN_const]; rfl
    rw [this, sumN_const]; simp
  unfold metC
  constructor
  · intro h0 i k hi hk
    have := cntG_eq (P := fun _ _ => false) (Q := fun i k => metG g 4 i k) (fun _ _ _ _ h => by cases h) (hz.trans h0.symm) i k hi hk
    exact this.symm
  · intro h0
    rw [← hz]
    exact cntG_congr fun i k hi hk => h0 i k hi hk
theorem tight_cross {g : Nat → Nat → Nat} {sr sc : Nat → Bool} {h wd : Nat} (hr : Repeats g sr sc h wd) (h0 : metC h wd g 4 = 0) : metC (keepL sr h).length (keepL sc wd).length (tightM g sr sc h wd) 4 = 0 := by
  rw [metC_zero] at h0 ⊢
  intro i k hi hk
  have h1 := h0 (nthK sr h i) (nthK sc wd k) (nthK_lt hi) (nthK_lt hk)
  cases hm : metG (tightM g sr sc h wd) 4 i k
  · rfl
  · exfalso
    unfold metG at hm h1
    simp only [Bool.and_eq_true, decide_eq_true_eq] at hm
    obtain ⟨⟨a, b⟩, c⟩ := hm
    have mi := nthK_mono (same := sr) (n := h) (show i - 1 < i by omega) hi
    have mk := nthK_mono (same := sc) (n := wd) (show k - 1 < k by omega) hk
    have li := nthK_lt hi
    have lk := nthK_lt hk
    have e1 : g (nthK sr h i - 1) (nthK sc wd k) = g (nthK sr h (i - 1)) (nthK sc wd k) := hr.prev_row a hi lk
    have e2 : g (nthK sr h i) (nthK sc wd k - 1) = g (nthK sr h i) (nthK sc wd (k - 1)) := hr.prev_col b hk li
    have e3 : g (nthK sr h i - 1) (nthK sc wd k - 1) = g (nthK sr h (i - 1)) (nthK sc wd (k - 1)) := (hr.prev_row a hi (by omega)).trans (hr.prev_col b hk (by omega))
    rw [decide_eq_true (show 1 ≤ nthK sr h i by omega), decide_eq_true (show 1 ≤ nthK sc wd k by omega), Bool.true_and, Bool.true_and, decide_eq_false_iff_not, meetG_four, e1, e2, e3] at h1
    rw [meetG_four] at c
    exact h1 c

theorem plain_tight {p : List ByteArray} (h : planB p = true) (h0 : meetN p 4 = 0) : meetN (tightB p) 4 = 0 := by
  rw [meetN_is (is_tight h)]
  rw [cross_self h] at h0
  exact tight_cross (tight_rep h) h0

end Go.Proofs.Ytjdlapcikpmdgaa
