
/-
  A split plan: one room more, and two of its rooms that merge to the plan. (Mathematics.)
-/
import Derived.Test.YtlbdkjhfnjofiaaPut
import Derived.Test.YtlbdkjhfnjofiaaBesM
namespace Go.Proofs.Ytlbdkjhfnjofiaa
open Go.RowKit

/-- what a good cut is: a part of a room is set apart, and a part of it stays -/
structure Cut2 (p : List ByteArray) (y : Pt) (r i1 j1 i2 j2 : Nat) : Prop where
  own : ∀ i j, i < p.length → j < wideB p → inB y.row y.col y.high y.wide i j = true → gridG p i j = r
  hi1 : i1 < p.length
  hj1 : j1 < wideB p
  hi2 : i2 < p.length
  hj2 : j2 < wideB p
  stays : inB y.row y.col y.high y.wide i1 j1 = false ∧ gridG p i1 j1 = r
  apart : inB y.row y.col y.high y.wide i2 j2 = true

theorem split_is {p : List ByteArray} {room k : Int} {letter : ByteArray} (h : planB p = true) (hd : doneO (splitT p room letter k) = true) :
    ∃ y r i1 j1 i2 j2, Cut2 p y r i1 j1 i2 j2 ∧ Is (namesO (splitT p room letter k)) p.length (wideB p) (splitM (gridG p) y) := by
  have hp := planP_of h
  obtain ⟨s1, s2⟩ := split_math h room letter k
  rw [hd] at s1
  rw [← s1, orNone_yes rfl] at s2
  rw [s2]
  have hg : givenB p room = true := by
    cases hg : givenB p room
    · unfold splitT at hd; rw [hg] at hd; exact hd
    · rfl
  obtain ⟨_, h0, h1⟩ := given_parts hg
  obtain ⟨r, rfl⟩ : ∃ r : Nat, room = (r : Int) := ⟨room.toNat, by omega⟩
  obtain ⟨x, hf, hx⟩ := find_box h (show r < gridR p by omega)
  obtain ⟨_, x1, x2, x3, x4, x5⟩ := hx
  have hg9 : ∀ i j, i < p.length → j < wideB p → gridG p i j < 9 := fun i j hi hj => gridG_9 h hi hj
  have fin : ∀ (y : Pt) (i1 j1 i2 j2 : Nat), cutOf p.length (wideB p) (gridG p) (r : Int) letter k = some y → Cut2 p y r i1 j1 i2 j2 →
      ∃ y' r' a b c d, Cut2 p y' r' a b c d ∧ Is (rowsT p.length (wideB p) (splitG p.length (wideB p) (gridG p) (cutOf p.length (wideB p) (gridG p) (r : Int) letter k))) p.length (wideB p) (splitM (gridG p) y') := fun y i1 j1 i2 j2 hy hc => by
    rw [hy] at s1 ⊢
    refine ⟨y, r, i1, j1, i2, j2, hc, is_rows s1.symm fun i j hi hj => ?_⟩
    unfold splitM
    split
    · omega
    · have := hg9 i j hi hj; omega
  have s3 := s1
  unfold cutOf at s3
  rw [hf] at s3
  have hpart : cutOf p.length (wideB p) (gridG p) (r : Int) letter k = partB x letter k := by unfold cutOf; rw [hf]; rfl
  have hxr : ∀ i j, i < p.length → j < wideB p → InR x.row x.col x.high x.wide i j → gridG p i j = r := fun i j hi hj hin => by
    rw [← hp.mark i j hi hj]; exact (x5 i j hi hj).2 hin
  cases hH : cutB (isH letter) k x.high
  · cases hV : cutB (isV letter) k x.wide
    · exfalso
      have : partB x letter k = none := by unfold partB; rw [hH, hV]; rfl
      rw [show (some x : Option Bx).bind (fun x => partB x letter k) = partB x letter k from rfl, this] at s3
      cases s3
    · obtain ⟨_, q2, q3⟩ := cutB_yes hV
      refine fin ⟨x.row, x.col, x.high, k.toNat⟩ x.row (x.col + k.toNat) x.row x.col (by rw [hpart]; unfold partB; rw [hH, hV]; rfl) ⟨fun i j hi hj hin => ?_, by omega, by omega, by omega, by omega, ⟨?_, ?_⟩, ?_⟩
      · rw [inB_iff] at hin
        exact hxr i j hi hj (by unfold InR at hin ⊢; simp only at hin; omega)
      · rw [Bool.eq_false_iff]; intro hin; rw [inB_iff] at hin; unfold InR at hin; simp only at hin; omega
      · exact hxr _ _ (by omega) (by omega) (by unfold InR; omega)
      · rw [inB_iff]; unfold InR; simp only; omega
  · obtain ⟨_, q2, q3⟩ := cutB_yes hH
    refine fin ⟨x.row, x.col, k.toNat, x.wide⟩ (x.row + k.toNat) x.col x.row x.col (by rw [hpart]; unfold partB; rw [hH]; rfl) ⟨fun i j hi hj hin => ?_, by omega, by omega, by omega, by omega, ⟨?_, ?_⟩, ?_⟩
    · rw [inB_iff] at hin
      exact hxr i j hi hj (by unfold InR at hin ⊢; simp only at hin; omega)
    · rw [Bool.eq_false_iff]; intro hin; rw [inB_iff] at hin; unfold InR at hin; simp only at hin; omega
    · exact hxr _ _ (by omega) (by omega) (by unfold InR; omega)
    · rw [inB_iff]; unfold InR; simp only; omega

theorem splitM_in {g : Nat → Nat → Nat} {y : Pt} {i j : Nat} (h : inB y.row y.col y.high y.wide i j = true) : splitM g y i j = 9 := if_pos h
theorem splitM_out {g : Nat → Nat → Nat} {y : Pt} {i j : Nat} (h : inB y.row y.col y.high y.wide i j = false) : splitM g y i j = g i j := if_neg (by rw [h]; exact Bool.false_ne_true)

theorem split_rooms {p : List ByteArray} {y : Pt} {r i1 j1 i2 j2 : Nat} {q : List ByteArray} (h : planB p = true) (hc : Cut2 p y r i1 j1 i2 j2) (x : Is q p.length (wideB p) (splitM (gridG p) y)) : roomsOr q = roomsOr p + 1 := by
  rw [x.rooms, (Is.self h).rooms]
  have hg9 : ∀ i j, i < p.length → j < wideB p → gridG p i j < 9 := fun i j hi hj => gridG_9 h hi hj
  have hn : (9 :: markF p.length (wideB p) (gridG p)).Nodup := by
    rw [List.nodup_cons]
    refine ⟨fun hm => ?_, markF_nodup _ _ _⟩
    obtain ⟨i, j, hi, hj, e⟩ := mem_markF.1 hm
    have := hg9 i j hi hj
    omega
  have hl : (markF p.length (wideB p) (splitM (gridG p) y)).length = (9 :: markF p.length (wideB p) (gridG p)).length := by
    refine ((List.perm_ext_iff_of_nodup (markF_nodup _ _ _) hn).2 fun v => ?_).length_eq
    rw [mem_markF, List.mem_cons, mem_markF]
    constructor
    · rintro ⟨i, j, hi, hj, e⟩
      cases hb : inB y.row y.col y.high y.wide i j
      · rw [splitM_out hb] at e; exact .inr ⟨i, j, hi, hj, e⟩
      · rw [splitM_in hb] at e; exact .inl e.symm
    · rintro (rfl | ⟨i, j, hi, hj, e⟩)
      · exact ⟨i2, j2, hc.hi2, hc.hj2, splitM_in hc.apart⟩
      · cases hb : inB y.row y.col y.high y.wide i j
        · exact ⟨i, j, hi, hj, by rw [splitM_out hb]; exact e⟩
        · exact ⟨i1, j1, hc.hi1, hc.hj1, by rw [splitM_out hc.stays.1, hc.stays.2, ← e]; exact (hc.own i j hi hj hb).symm⟩
  rw [hl, List.length_cons]
  omega

/-- the merge that undoes it -/
theorem split_merge {p : List ByteArray} {y : Pt} {r i1 j1 i2 j2 : Nat} {q : List ByteArray} (h : planB p = true) (hc : Cut2 p y r i1 j1 i2 j2) (x : Is q p.length (wideB p) (splitM (gridG p) y)) :
    ∃ a b : Nat, (a : Int) < roomsOr q ∧ (b : Int) < roomsOr q ∧ mergeOk q a b = true ∧ mergeT q a b = p := by
  have hq := x.plan
  have hg9 : ∀ i j, i < p.length → j < wideB p → gridG p i j < 9 := fun i j hi hj => gridG_9 h hi hj
  have hl := x.len; have hw := x.wide
  have ha : gridG q i1 j1 < gridR q := gridG_lt (by rw [hl]; exact hc.hi1) (by rw [hw]; exact hc.hj1)
  have hb : gridG q i2 j2 < gridR q := gridG_lt (by rw [hl]; exact hc.hi2) (by rw [hw]; exact hc.hj2)
  have hro : roomsOr q = (gridR q : Nat) := by rw [roomsOr_yes hq, (planP_of hq).rooms]
  have hr9 : r < 9 := by have := hg9 i1 j1 hc.hi1 hc.hj1; rw [hc.stays.2] at this; exact this
  have hne : gridG q i1 j1 ≠ gridG q i2 j2 := fun e => by
    have := (x.same i2 j2 i1 j1 hc.hi2 hc.hj2 hc.hi1 hc.hj1).1 e
    rw [splitM_out hc.stays.1, splitM_in hc.apart, hc.stays.2] at this
    omega
  have hsame : SameG p.length (wideB p) (gridG p) (mergeM (gridG q) (gridG q i1 j1) (gridG q i2 j2)) := by
    have key : ∀ i j, i < p.length → j < wideB p → mergeM (gridG q) (gridG q i1 j1) (gridG q i2 j2) i j = if gridG p i j = r then gridG q i1 j1 else gridG q i j := fun i j hi hj => by
      have e1 := x.same i2 j2 i j hc.hi2 hc.hj2 hi hj
      have e2 := x.same i1 j1 i j hc.hi1 hc.hj1 hi hj
      rw [splitM_in hc.apart] at e1
      rw [splitM_out hc.stays.1, hc.stays.2] at e2
      have g9 := hg9 i j hi hj
      cases hin : inB y.row y.col y.high y.wide i j
      · rw [splitM_out hin] at e1 e2
        rw [mergeM_no (fun e => by have := e1.1 e; omega)]
        by_cases hr : gridG p i j = r
        · rw [if_pos hr]; exact e2.2 hr
        · rw [if_neg hr]
      · rw [splitM_in hin] at e1
        rw [mergeM_yes (e1.2 rfl), if_pos (hc.own i j hi hj hin)]
    intro i j i' j' hi hj hi' hj'
    rw [key i j hi hj, key i' j' hi' hj']
    have out : ∀ i j, i < p.length → j < wideB p → ¬ gridG p i j = r → inB y.row y.col y.high y.wide i j = false := fun i j hi hj hn => by
      rw [Bool.eq_false_iff]; exact fun hin => hn (hc.own i j hi hj hin)
    have e0 := x.same i j i' j' hi hj hi' hj'
    have e1 := x.same i1 j1 i j hc.hi1 hc.hj1 hi hj
    have e2 := x.same i1 j1 i' j' hc.hi1 hc.hj1 hi' hj'
    rw [splitM_out hc.stays.1, hc.stays.2] at e1 e2
    by_cases c1 : gridG p i j = r <;> by_cases c2 : gridG p i' j' = r
    · rw [if_pos c1, if_pos c2, c1, c2]; simp
    · rw [if_pos c1, if_neg c2, c1]
      rw [splitM_out (out i' j' hi' hj' c2)] at e2
      exact e2
    · rw [if_neg c1, if_pos c2, c2]
      rw [splitM_out (out i j hi hj c1)] at e1
      exact ⟨fun e => (e1.1 e.symm).symm, fun e => (e1.2 e.symm).symm⟩
    · rw [if_neg c1, if_neg c2]
      rw [splitM_out (out i j hi hj c1), splitM_out (out i' j' hi' hj' c2)] at e0
      exact e0
  have hdr : drawOk p.length (wideB p) (mergeM (gridG q) (gridG q i1 j1) (gridG q i2 j2)) = true := by
    rw [drawOk_pattern hsame]; exact (Is.self h).draw
  obtain ⟨m1, m2⟩ := merge_math hq ha hb
  rw [hl, hw, hdr] at m1
  rw [m1, hl, hw, hdr, orNone_yes rfl, orNone_yes rfl] at m2
  refine ⟨gridG q i1 j1, gridG q i2 j2, by rw [hro]; omega, by rw [hro]; omega, ?_, ?_⟩
  · unfold mergeOk
    rw [given_has hq, given_has hq, hasB_iff.2 ⟨by omega, by omega⟩, hasB_iff.2 ⟨by omega, by omega⟩, Int.toNat_natCast, m1]
    have : ((gridG q i1 j1 : Int) == (gridG q i2 j2 : Int)) = false := by rw [beq_eq_false_iff_ne]; omega
    rw [this]; rfl
  · unfold mergeT
    rw [Int.toNat_natCast, m2]
    have hr26 : ∀ i j, i < p.length → j < wideB p → mergeM (gridG q) (gridG q i1 j1) (gridG q i2 j2) i j < 26 := fun i j hi hj => by
      have h1 := gridG_26 hq (i := i1) (j := j1) (by rw [hl]; exact hc.hi1) (by rw [hw]; exact hc.hj1)
      have h2 := gridG_26 hq (i := i) (j := j) (by rw [hl]; exact hi) (by rw [hw]; exact hj)
      unfold mergeM
      split
      · exact h1
      · exact h2
    exact ((Is.self h).eq (is_rows hdr hr26) hsame).symm

theorem split_plan {p : List ByteArray} {room k : Int} {letter : ByteArray} (hd : doneO (splitT p room letter k) = true) : planB p = true := by
  cases hg : givenB p room
  · unfold splitT at hd; rw [hg] at hd; exact absurd hd Bool.false_ne_true
  · exact (given_parts hg).1
theorem namesO_no {o : Option (List ByteArray)} (h : doneO o = false) : namesO o = [] := by
  cases o with
  | none => rfl
  | some T => exact orNone_no h
/-- whether one of the first is so -/
def anyN (f : Nat → Bool) : Nat → Bool
  | 0 => false
  | n + 1 => anyN f n || f n
theorem anyN_true {f : Nat → Bool} {i : Nat} (h : f i = true) : ∀ {n : Nat}, i < n → anyN f n = true
  | n + 1, hi => by
    show (anyN f n || f n) = true
    rcases Nat.lt_or_ge i n with a | a
    · rw [anyN_true h a]; rfl
    · obtain rfl : i = n := by omega
      rw [h, Bool.or_true]
/-- the law's two loops -/
structure Tries (q p : List ByteArray) (N : Nat) (MK : Nat → Nat → Bool) (MT : Nat → Nat → List ByteArray) (Y : Nat → Nat → Bool) (Z : Nat → Bool) : Prop where
  ok : ∀ a b : Nat, mergeOk q a b = MK a b
  txt : ∀ a b : Nat, orNone (mergeOk q a b) (mergeT q a b) = MT a b
  few : ∀ a b, (MT a b).length ≤ 1048576
  y0 : ∀ x, Y x 0 = false
  ys : ∀ x y, Y x (y + 1) = (Y x y || (MK x y && eqS (MT x y) p))
  z0 : Z 0 = false
  zs : ∀ x, Z (x + 1) = (Z x || Y x N)
  zn : Z N = true
theorem split_tries {p : List ByteArray} {room k : Int} {letter : ByteArray} (hd : doneO (splitT p room letter k) = true) :
    planB p = true ∧ planB (namesO (splitT p room letter k)) = true ∧ ∃ R : Nat, R ≤ 9 ∧ roomsOr p = (R : Int) ∧ roomsOr (namesO (splitT p room letter k)) = ((R + 1 : Nat) : Int) ∧
      ∃ MK MT Y Z, Tries (namesO (splitT p room letter k)) p (R + 1) MK MT Y Z := by
  have h := split_plan hd
  obtain ⟨y, r, i1, j1, i2, j2, hc, x⟩ := split_is h hd
  have e1 := split_rooms h hc x
  obtain ⟨a, b, ha, hb, hm1, hm2⟩ := split_merge h hc x
  have hR : roomsOr p = (gridR p : Nat) := by rw [roomsOr_yes h, (planP_of h).rooms]
  have e2 : roomsOr (namesO (splitT p room letter k)) = ((gridR p + 1 : Nat) : Int) := by rw [e1, hR]; omega
  rw [e2] at ha hb
  refine ⟨h, x.plan, gridR p, (planP_of h).few, hR, e2, fun a b => mergeOk _ a b, fun a b => orNone (mergeOk _ a b) (mergeT _ a b), fun x => anyN fun b => mergeOk _ x b && eqS (orNone (mergeOk _ x b) (mergeT _ x b)) p, anyN fun a => anyN (fun b => mergeOk _ a b && eqS (orNone (mergeOk _ a b) (mergeT _ a b)) p) (gridR p + 1),
    ⟨fun _ _ => rfl, fun _ _ => rfl, fun _ _ => merge_few _ _ _, fun _ => rfl, fun _ _ => rfl, rfl, fun _ => rfl, ?_⟩⟩
  refine anyN_true (i := a) ?_ (by omega)
  refine anyN_true (i := b) ?_ (by omega)
  show (mergeOk _ (a : Int) (b : Int) && eqS (orNone (mergeOk _ (a : Int) (b : Int)) (mergeT _ (a : Int) (b : Int))) p) = true
  rw [hm1, orNone_yes rfl, hm2]
  unfold eqS
  simp

end Go.Proofs.Ytlbdkjhfnjofiaa
