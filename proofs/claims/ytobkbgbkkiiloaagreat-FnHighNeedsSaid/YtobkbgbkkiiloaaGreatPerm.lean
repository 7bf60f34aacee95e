
/-
  Merged texts: Pair BesM Perm.
-/
import Derived.Test.YtobkbgbkkiiloaaGreatIs
import Derived.Test.YtobkbgbkkiiloaaGreatBesideA
import Derived.Test.YtobkbgbkkiiloaaGreatAreas
import Derived.Test.YtobkbgbkkiiloaaGreatOrdJ

/-
  Plans beside each other and below each other, and rows and columns exchanged. (Mathematics.)
-/
namespace Go.Proofs.YtobkbgbkkiiloaaGreat
open Go.RowKit

theorem gridG_9 {p : List ByteArray} (h : planB p = true) {i j : Nat} (hi : i < p.length) (hj : j < wideB p) : gridG p i j < 9 := by
  have := (planP_of h).few; have := gridG_lt hi hj; omega

theorem bes_same {h wd wd' : Nat} {a a' b b' : Nat → Nat → Nat} (x : SameG h wd a a') (y : SameG h wd' b b') (ha : ∀ i j, i < h → j < wd → a i j < 9) (ha' : ∀ i j, i < h → j < wd → a' i j < 9) :
    SameG h (wd + wd') (besM wd a b) (besM wd a' b') := fun i j i' j' hi hj hi' hj' => by
  unfold besM
  by_cases h1 : j < wd <;> by_cases h2 : j' < wd
  · rw [if_pos h1, if_pos h1, if_pos h2, if_pos h2]; exact x i j i' j' hi h1 hi' h2
  · rw [if_pos h1, if_pos h1, if_neg h2, if_neg h2]
    have := ha i j hi h1; have := ha' i j hi h1
    constructor <;> intro h <;> omega
  · rw [if_neg h1, if_neg h1, if_pos h2, if_pos h2]
    have := ha i' j' hi' h2; have := ha' i' j' hi' h2
    constructor <;> intro h <;> omega
  · rw [if_neg h1, if_neg h1, if_neg h2, if_neg h2]
    have := y i (j - wd) i' (j' - wd) hi (by omega) hi' (by omega)
    omega
theorem is_beside {p q : List ByteArray} (h : besideOk p q = true) : planB p = true ∧ planB q = true ∧ p.length = q.length ∧ Is (namesB (besideT p q)) p.length (wideB p + wideB q) (besM (wideB p) (gridG p) (gridG q)) := by
  unfold besideOk at h
  simp only [Bool.and_eq_true, decide_eq_true_eq] at h
  obtain ⟨hp, hq, he, hd⟩ := h
  refine ⟨hp, hq, he, ?_⟩
  obtain ⟨m1, m2⟩ := beside_math hp hq he
  rw [hd] at m1
  rw [hd, ← m1, orNone_yes rfl, orNone_yes rfl] at m2
  rw [m2]
  refine is_rows m1.symm fun i j hi hj => ?_
  unfold besM
  split
  · rename_i h1; have := gridG_9 hp hi h1; omega
  · have := gridG_9 hq (i := i) (j := j - wideB p) (by omega) (by omega); omega
theorem is_under {p q : List ByteArray} (h : underOk p q = true) : planB p = true ∧ planB q = true ∧ wideB p = wideB q ∧ Is (namesB (underT p q)) (p.length + q.length) (wideB p) (undM p.length (gridG p) (gridG q)) := by
  unfold underOk at h
  simp only [Bool.and_eq_true, decide_eq_true_eq] at h
  obtain ⟨hp, hq, he, hd⟩ := h
  refine ⟨hp, hq, he, ?_⟩
  obtain ⟨m1, m2⟩ := under_math hp hq he
  rw [hd] at m1
  rw [hd, ← m1, orNone_yes rfl, orNone_yes rfl] at m2
  rw [m2]
  refine is_rows m1.symm fun i j hi hj => ?_
  unfold undM
  split
  · rename_i h1; have := gridG_9 hp h1 hj; omega
  · have := gridG_9 hq (i := i - p.length) (j := j) (by omega) (by omega); omega
theorem Is.draw {p : List ByteArray} {h wd : Nat} {m : Nat → Nat → Nat} (x : Is p h wd m) : drawOk h wd m = true := by
  have hd := x.dims
  have h1 := x.plan
  have hp := planP_of x.plan
  have e : drawOk h wd (gridG p) = drawOk h wd m := drawOk_pattern x.same
  rw [← e]
  have hg : ∀ i j, i < h → j < wd → renG h wd (gridG p) i j < 26 := fun i j hi hj => ren_lt (fun i j hi hj => gridG_26 h1 (by rw [x.len]; exact hi) (by rw [x.wide]; exact hj)) hi hj
  have ht := (Is.self h1).text
  rw [x.len, x.wide] at ht
  rw [ht, planB_rows hd.1 hd.2.1 hd.2.2.1 hd.2.2.2 hg] at h1
  exact h1

/-- rows and columns exchanged of plans below each other: beside each other -/
theorem under_trans {p q : List ByteArray} (h : underOk p q = true) : planB p = true ∧ planB q = true ∧ planB (namesB (underT p q)) = true ∧ besideOk (namesB (transB p)) (namesB (transB q)) = true ∧
    namesB (besideT (namesB (transB p)) (namesB (transB q))) = namesB (transB (namesB (underT p q))) := by
  obtain ⟨hp, hq, he, x⟩ := is_under h
  have xp := is_trans hp; have xq := is_trans hq
  have y := x.trans
  have hs : SameG (wideB p) (p.length + q.length) (fun i j => undM p.length (gridG p) (gridG q) j i) (besM p.length (gridG (namesB (transB p))) (gridG (namesB (transB q)))) := by
    refine bes_same (a := fun i j => gridG p j i) (b := fun i j => gridG q j i) xp.same (by rw [he]; exact xq.same) (fun i j hi hj => gridG_9 hp hj hi) (fun i j hi hj => gridG_9 xp.plan (by rw [xp.len]; exact hi) (by rw [xp.wide]; exact hj))
  have hb : besideOk (namesB (transB p)) (namesB (transB q)) = true := by
    unfold besideOk
    have hl : (namesB (transB p)).length = (namesB (transB q)).length := by rw [xp.len, xq.len, he]
    have hw := (beside_math xp.plan xq.plan hl).1
    rw [xp.plan, xq.plan, hw, xp.len, xp.wide, xq.wide, decide_eq_true (by rw [← xp.len]; exact hl), Bool.true_and, Bool.true_and, Bool.true_and, drawOk_pattern hs]
    exact y.draw
  refine ⟨hp, hq, x.plan, hb, ?_⟩
  obtain ⟨_, _, _, z⟩ := is_beside hb
  rw [xp.len, xp.wide, xq.wide] at z
  exact z.eq y (hs.symm)

end Go.Proofs.YtobkbgbkkiiloaaGreat

/-
  Plans beside each other: their rooms, and read backwards. (Mathematics.)
-/
namespace Go.Proofs.YtobkbgbkkiiloaaGreat
open Go.RowKit

theorem mem_markF {h wd : Nat} {m : Nat → Nat → Nat} {x : Nat} : x ∈ markF h wd m ↔ ∃ i j, i < h ∧ j < wd ∧ m i j = x := by
  constructor
  · intro hx
    unfold markF at hx
    rw [mem_firsts] at hx
    obtain ⟨k, hk, rfl⟩ := markL_mem hx
    obtain ⟨c1, c2, _⟩ := cell_of hk
    exact ⟨_, _, c1, c2, rfl⟩
  · rintro ⟨i, j, hi, hj, rfl⟩
    exact markF_mem hi hj
theorem markF_nodup (h wd : Nat) (m : Nat → Nat → Nat) : (markF h wd m).Nodup := firsts_nodup _
theorem bes_count {h wd wd' : Nat} {a b : Nat → Nat → Nat} (ha : ∀ i j, i < h → j < wd → a i j < 9) :
    (markF h (wd + wd') (besM wd a b)).length = (markF h wd a).length + (markF h wd' b).length := by
  have hp : (markF h (wd + wd') (besM wd a b)).Perm (markF h wd a ++ (markF h wd' b).map fun x => 9 + x) := by
    refine (List.perm_ext_iff_of_nodup (markF_nodup _ _ _) ?_).2 fun x => ?_
    · rw [List.nodup_append]
      refine ⟨markF_nodup _ _ _, ?_, ?_⟩
      · exact List.Pairwise.map _ (fun x y hxy he => hxy (by omega)) (markF_nodup h wd' b)
      · intro x hx y hy
        obtain ⟨i, j, hi, hj, rfl⟩ := mem_markF.1 hx
        rw [List.mem_map] at hy
        obtain ⟨z, _, rfl⟩ := hy
        have := ha i j hi hj
        omega
    · rw [List.mem_append, mem_markF, mem_markF, List.mem_map]
      constructor
      · rintro ⟨i, j, hi, hj, rfl⟩
        unfold besM
        by_cases h1 : j < wd
        · rw [if_pos h1]; exact .inl ⟨i, j, hi, h1, rfl⟩
        · rw [if_neg h1]; exact .inr ⟨_, mem_markF.2 ⟨i, j - wd, hi, by omega, rfl⟩, rfl⟩
      · rintro (⟨i, j, hi, hj, rfl⟩ | ⟨z, hz, rfl⟩)
        · exact ⟨i, j, hi, by omega, by unfold besM; rw [if_pos hj]⟩
        · obtain ⟨i, j, hi, hj, rfl⟩ := mem_markF.1 hz
          exact ⟨i, wd + j, hi, by omega, by unfold besM; rw [if_neg (by omega), Nat.add_sub_cancel_left]⟩
  rw [hp.length_eq, List.length_append, List.length_map]
theorem Is.rooms {p : List ByteArray} {h wd : Nat} {m : Nat → Nat → Nat} (x : Is p h wd m) : roomsOr p = ((markF h wd m).length : Nat) := by
  have hP := planP_of x.plan
  rw [roomsOr_yes x.plan, hP.rooms]
  unfold gridR
  have e1 := markF_len (ren_pattern p.length (wideB p) (markN p))
  have e2 := markF_len x.same
  rw [x.len, x.wide] at e1
  rw [x.len, x.wide]
  rw [show gridG p = renG h wd (markN p) by unfold gridG; rw [x.len, x.wide]] at e2
  omega
theorem beside_rooms {p q : List ByteArray} (h : besideOk p q = true) : roomsOr (namesB (besideT p q)) = roomsOr p + roomsOr q := by
  obtain ⟨hp, hq, he, x⟩ := is_beside h
  have xp := Is.self hp; have xq := Is.self hq
  rw [x.rooms, xp.rooms, xq.rooms, bes_count fun i j hi hj => gridG_9 hp hi hj, he]
  simp
theorem beside_flip {p q : List ByteArray} (h : besideOk p q = true) : planB p = true ∧ planB q = true ∧ planB (namesB (besideT p q)) = true ∧ besideOk (namesB (flipB q)) (namesB (flipB p)) = true ∧
    namesB (besideT (namesB (flipB q)) (namesB (flipB p))) = namesB (flipB (namesB (besideT p q))) := by
  obtain ⟨hp, hq, he, x⟩ := is_beside h
  have xp := is_flip hp; have xq := is_flip hq
  have y := x.flip
  rw [Nat.add_comm (wideB p) (wideB q)] at y
  have hs : SameG p.length (wideB q + wideB p) (fun i j => besM (wideB p) (gridG p) (gridG q) i (wideB q + wideB p - 1 - j)) (besM (wideB q) (gridG (namesB (flipB q))) (gridG (namesB (flipB p)))) := fun i j i' j' hi hj hi' hj' => by
    have sp := xp.same; have sq := xq.same
    rw [← he] at sq
    have q9 : ∀ i j, i < p.length → j < wideB q → gridG (namesB (flipB q)) i j < 9 := fun i j hi hj => gridG_9 xq.plan (by rw [xq.len, ← he]; exact hi) (by rw [xq.wide]; exact hj)
    unfold besM
    simp only
    by_cases h1 : j < wideB q <;> by_cases h2 : j' < wideB q
    · rw [if_pos h1, if_pos h2, if_neg (by omega), if_neg (by omega)]
      have := sq i j i' j' hi h1 hi' h2
      simp only at this
      rw [show wideB q + wideB p - 1 - j - wideB p = wideB q - 1 - j by omega, show wideB q + wideB p - 1 - j' - wideB p = wideB q - 1 - j' by omega]
      omega
    · rw [if_pos h1, if_neg h2, if_pos (by omega), if_neg (by omega)]
      have := gridG_9 hp hi' (show wideB q + wideB p - 1 - j' < wideB p by omega)
      have := q9 i j hi h1
      constructor <;> intro h <;> omega
    · rw [if_neg h1, if_pos h2, if_neg (by omega), if_pos (by omega)]
      have := gridG_9 hp hi (show wideB q + wideB p - 1 - j < wideB p by omega)
      have := q9 i' j' hi' h2
      constructor <;> intro h <;> omega
    · rw [if_neg h1, if_neg h2, if_pos (by omega), if_pos (by omega)]
      have := sp i (j - wideB q) i' (j' - wideB q) hi (by omega) hi' (by omega)
      simp only at this
      rw [show wideB p - 1 - (j - wideB q) = wideB q + wideB p - 1 - j by omega, show wideB p - 1 - (j' - wideB q) = wideB q + wideB p - 1 - j' by omega] at this
      omega
  have hb : besideOk (namesB (flipB q)) (namesB (flipB p)) = true := by
    unfold besideOk
    have hl : (namesB (flipB q)).length = (namesB (flipB p)).length := by rw [xp.len, xq.len, he]
    have hw := (beside_math xq.plan xp.plan hl).1
    rw [xp.plan, xq.plan, hw, xq.len, xp.wide, xq.wide, decide_eq_true (by rw [← xq.len]; exact hl), Bool.true_and, Bool.true_and, Bool.true_and, ← he, drawOk_pattern hs]
    exact y.draw
  refine ⟨hp, hq, x.plan, hb, ?_⟩
  obtain ⟨_, _, _, z⟩ := is_beside hb
  rw [xq.len, xp.wide, xq.wide, ← he] at z
  exact z.eq y (hs.symm)

end Go.Proofs.YtobkbgbkkiiloaaGreat

/-
  Merged texts: PermM.
-/
/-
  Areas of plans turned are the same ones in some order. (Mathematics.)
-/
namespace Go.Proofs.YtobkbgbkkiiloaaGreat
open Go.RowKit

theorem areas_perm {q : List ByteArray} {h wd : Nat} {m : Nat → Nat → Nat} (x : Is q h wd m) : (areasOr q).Perm ((markF h wd m).map fun v => ((cntG h wd (fun i j => m i j == v) : Nat) : Int)) := by
  have hP := planP_of x.plan
  have hs : SameG h wd (markN q) m := (x.same.trans (sameG_eq fun i j hi hj => (hP.mark i j (by rw [x.len]; exact hi) (by rw [x.wide]; exact hj)).symm)).symm
  rw [areas_cnt x.plan, x.len, x.wide, markF_map hs, List.map_map]
  have hr : (List.range (gridR q)).Perm (markF h wd (markN q)) := by
    refine (List.perm_ext_iff_of_nodup List.nodup_range (markF_nodup _ _ _)).2 fun v => ?_
    rw [List.mem_range, mem_markF]
    constructor
    · intro hv
      obtain ⟨i, j, hi, hj, e⟩ := room_cell (h := q.length) (wd := wideB q) (m := markN q) hv
      exact ⟨i, j, by rw [← x.len]; exact hi, by rw [← x.wide]; exact hj, (hP.mark i j hi hj).trans e⟩
    · rintro ⟨i, j, hi, hj, e⟩
      rw [← e]
      exact hP.lt (by rw [x.len]; exact hi) (by rw [x.wide]; exact hj)
  refine (hr.map _).trans ?_
  rw [List.map_congr_left (g := fun v => ((cntG h wd (fun i j => m i j == toMark h wd (markN q) m v) : Nat) : Int)) fun v hv => ?_]
  · exact List.Perm.refl _
  · obtain ⟨a, b, ha, hb, rfl⟩ := mem_markF.1 hv
    rw [toMark_at hs ha hb]
    congr 1
    refine cntG_congr fun i j hi hj => ?_
    have := hs a b i j ha hb hi hj
    rw [Bool.eq_iff_iff, beq_iff_eq, beq_iff_eq]
    exact this.symm
theorem sumN_rev (n : Nat) (f : Nat → Nat) : sumN n (fun i => f (n - 1 - i)) = sumN n f := by
  induction n generalizing f with
  | zero => rfl
  | succ n ih =>
    have e1 : sumN (n + 1) f = f 0 + sumN n (fun i => f (i + 1)) := by
      have : ∀ n, sumN (n + 1) f = f 0 + sumN n (fun i => f (i + 1)) := fun n => by
        induction n with
        | zero => simp [sumN]
        | succ n ih => rw [sumN, ih, sumN]; omega
      exact this n
    rw [e1, sumN, ← ih (fun i => f (i + 1))]
    have e2 : sumN n (fun i => f (n + 1 - 1 - i)) = sumN n (fun i => f (n - 1 - i + 1)) := sumN_congr fun i hi => by congr 1; omega
    rw [e2, show n + 1 - 1 - n = 0 by omega]
    omega
theorem perm_of {h wd h' wd' : Nat} {m m' : Nat → Nat → Nat} (hm : ∀ v, (∃ i j, i < h ∧ j < wd ∧ m i j = v) ↔ ∃ i j, i < h' ∧ j < wd' ∧ m' i j = v) (hc : ∀ v, cntG h wd (fun i j => m i j == v) = cntG h' wd' (fun i j => m' i j == v)) :
    ((markF h wd m).map fun v => ((cntG h wd (fun i j => m i j == v) : Nat) : Int)).Perm ((markF h' wd' m').map fun v => ((cntG h' wd' (fun i j => m' i j == v) : Nat) : Int)) := by
  have e : (fun v => ((cntG h wd (fun i j => m i j == v) : Nat) : Int)) = fun v => ((cntG h' wd' (fun i j => m' i j == v) : Nat) : Int) := by funext v; rw [hc v]
  rw [e]
  refine List.Perm.map _ ((List.perm_ext_iff_of_nodup (markF_nodup _ _ _) (markF_nodup _ _ _)).2 fun v => ?_)
  rw [mem_markF, mem_markF]
  exact hm v
theorem areas_trans {p : List ByteArray} (h : planB p = true) : (areasOr (namesB (transB p))).Perm (areasOr p) := by
  refine ((areas_perm (is_trans h)).trans (perm_of ?_ fun v => ?_)).trans (areas_perm (Is.self h)).symm
  · intro v
    constructor
    · rintro ⟨i, j, hi, hj, e⟩; exact ⟨j, i, hj, hi, e⟩
    · rintro ⟨i, j, hi, hj, e⟩; exact ⟨j, i, hj, hi, e⟩
  · unfold cntG; exact sumN_comm _ _ _
theorem areas_turn {p : List ByteArray} (h : planB p = true) : (areasOr (namesB (turnB p))).Perm (areasOr p) := by
  refine ((areas_perm (is_turn h)).trans (perm_of ?_ fun v => ?_)).trans (areas_perm (Is.self h)).symm
  · intro v
    constructor
    · rintro ⟨i, j, hi, hj, e⟩; exact ⟨p.length - 1 - j, i, by omega, hi, e⟩
    · rintro ⟨i, j, hi, hj, e⟩; exact ⟨j, p.length - 1 - i, hj, by omega, by show gridG p (p.length - 1 - (p.length - 1 - i)) j = v; rw [show p.length - 1 - (p.length - 1 - i) = i by omega]; exact e⟩
  · unfold cntG
    rw [sumN_comm]
    exact sumN_rev p.length (fun i => sumN (wideB p) fun j => if (gridG p i j == v) = true then 1 else 0)

end Go.Proofs.YtobkbgbkkiiloaaGreat
