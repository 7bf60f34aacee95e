/-
  A room cut in two: the model's answer and the program's. (Walks.)
-/
import Derived.Test.YthboiobapmagcaaMergeA
import Derived.Test.YthboiobapmagcaaImplS
namespace Go.Proofs.Ythboiobapmagcaa
open Go.RowKit

theorem find_box {p : List ByteArray} (h : planB p = true) {r : Nat} (hr : r < gridR p) : ∃ x, findB (scanB p.length (wideB p) (gridG p) (p.length * wideB p)) (r : Int) = some x ∧ BoxOf p r x := by
  have hp := planP_of h
  obtain ⟨hlen, hbox⟩ := hp.boxes
  generalize scanB p.length (wideB p) (gridG p) (p.length * wideB p) = L at *
  obtain ⟨x, hL, hx⟩ := hbox r hr
  refine ⟨x, ?_, hx⟩
  have hrl : r < L.length := by omega
  have hsplit : L = L.take r ++ [x] ++ L.drop (r + 1) := by
    have := List.take_append_drop (r + 1) L
    rw [List.take_succ_eq_append_getElem hrl] at this
    have he : L[r] = x := by rw [List.getElem?_eq_getElem hrl] at hL; exact Option.some.inj hL
    rw [he] at this
    exact this.symm
  rw [hsplit]
  refine findB_some (fun y hy => ?_) (by rw [hx.1])
  obtain ⟨s, hs, rfl⟩ := List.getElem_of_mem hy
  rw [List.length_take] at hs
  obtain ⟨z, hz, hzb⟩ := hbox s (by omega)
  have he : (L.take r)[s]'(by rw [List.length_take]; omega) = z := by
    rw [List.getElem_take]
    rw [List.getElem?_eq_getElem (show s < L.length by omega)] at hz
    exact Option.some.inj hz
  rw [he, hzb.1]
  omega

theorem find_none {p : List ByteArray} {room : Int} (h : planB p = true) (hg : givenB p room = false) : findB (scanB p.length (wideB p) (gridG p) (p.length * wideB p)) room = none := by
  have := (room_found h room).1
  rw [hg] at this
  cases hf : findB (scanB p.length (wideB p) (gridG p) (p.length * wideB p)) room
  · rfl
  · rw [hf] at this; cases this

/-- a part set apart, and the rest of its room set apart: the same partition -/
theorem same_part {h wd r n : Nat} {f : Nat → Nat → Nat} {s t : Nat → Nat → Bool} (hf : ∀ i j, i < h → j < wd → f i j < n) (hn : n ≤ 9) (hst : ∀ i j, i < h → j < wd → (f i j = r ↔ s i j = true ∨ t i j = true)) (hd : ∀ i j, ¬ (s i j = true ∧ t i j = true)) :
    SameG h wd (fun i j => if t i j then 25 else f i j) (fun i j => if s i j then 9 else f i j) := by
  intro i j i' j' hi hj hi' hj'
  have a1 := hf i j hi hj
  have a2 := hf i' j' hi' hj'
  have b1 := hst i j hi hj
  have b2 := hst i' j' hi' hj'
  have d1 := hd i j
  have d2 := hd i' j'
  show ((if s i' j' = true then 9 else f i' j') = (if s i j = true then 9 else f i j)) ↔ ((if t i' j' = true then 25 else f i' j') = (if t i j = true then 25 else f i j))
  generalize f i j = u at *
  generalize f i' j' = u' at *
  by_cases e1 : s i j = true <;> by_cases e2 : t i j = true <;> by_cases e3 : s i' j' = true <;> by_cases e4 : t i' j' = true <;>
    simp only [e1, e2, e3, e4, if_true, if_false, or_self, or_true, true_or, and_self, and_true, true_and, not_true, not_false_iff, iff_true, iff_false, true_iff, Bool.false_eq_true] at b1 b2 d1 d2 ⊢ <;> omega

def topN (p : List ByteArray) (r : Int) : Nat := (boxB p r).top.toNat
def leftN (p : List ByteArray) (r : Int) : Nat := (boxB p r).left.toNat
def highN (p : List ByteArray) (r : Int) : Nat := ((boxB p r).low - (boxB p r).top + 1).toNat
def wideN (p : List ByteArray) (r : Int) : Nat := ((boxB p r).right - (boxB p r).left + 1).toNat

/-- the texts with the last part of a cut room set apart -/
def splitT (p : List ByteArray) (room : Int) (letter : ByteArray) (k : Int) : Option (List ByteArray) :=
  if givenB p room then
    if cutB (isH letter) k (highN p room) then some (putB p (topN p room + k.toNat) (leftN p room) (highN p room - k.toNat) (wideN p room) (UInt8.ofNat (97 + 25)))
    else if cutB (isV letter) k (wideN p room) then some (putB p (topN p room) (leftN p room + k.toNat) (highN p room) (wideN p room - k.toNat) (UInt8.ofNat (97 + 25)))
    else none
  else none
def doneO (o : Option (List ByteArray)) : Bool := match o with | some T => doneB T | none => false
def namesO (o : Option (List ByteArray)) : List ByteArray := match o with | some T => orNone (doneB T) (namesB T) | none => []
def splitG (h wd : Nat) (g : Nat → Nat → Nat) (o : Option Pt) : Nat → Nat → Nat := match o with | some y => renG h wd (splitM g y) | none => fun _ _ => 0
def splitR (h wd : Nat) (g : Nat → Nat → Nat) (o : Option Pt) : Nat := match o with | some y => (markF h wd (splitM g y)).length | none => 0

theorem splitC_ok {h wd : Nat} {g : Nat → Nat → Nat} {o : Option Pt} (hd : splitOk h wd g o = true) : splitC h wd g o = planC h wd (splitR h wd g o) (splitG h wd g o) ∧ h ≤ 6 ∧ wd ≤ 6 ∧ ∀ i j, splitG h wd g o i j ≤ 100 := by
  cases o
  · cases hd
  · exact drawC_ok hd

theorem namesO_few (o : Option (List ByteArray)) : (namesO o).length ≤ 1048576 := by
  cases o
  · exact Nat.zero_le _
  · exact names_few _

/-- a part is set apart: just as the program sets apart the other one -/
theorem part_math {p : List ByteArray} {r row col hi wi : Nat} {y : Pt} (h : planB p = true) (hst : ∀ i j, i < p.length → j < wideB p → (markN p i j = r ↔ InR y.row y.col y.high y.wide i j ∨ InR row col hi wi i j))
    (hd : ∀ i j, ¬ (InR y.row y.col y.high y.wide i j ∧ InR row col hi wi i j)) :
    doneB (putB p row col hi wi (UInt8.ofNat (97 + 25))) = drawOk p.length (wideB p) (splitM (gridG p) y) ∧
    orNone (doneB (putB p row col hi wi (UInt8.ofNat (97 + 25)))) (namesB (putB p row col hi wi (UInt8.ofNat (97 + 25)))) = orNone (drawOk p.length (wideB p) (splitM (gridG p) y)) (rowsT p.length (wideB p) (renG p.length (wideB p) (splitM (gridG p) y))) := by
  have hp := planP_of h
  have hrow : putB p row col hi wi (UInt8.ofNat (97 + 25)) = rowsT p.length (wideB p) (fun i j => if inB row col hi wi i j then 25 else gridG p i j) := by
    rw [put_rows hp.grid]
    exact rowsT_congr fun i j hi hj => by rw [hp.mark i j hi hj]
  rw [hrow]
  refine same_rows hp.grid.h1 hp.grid.w1 (fun i j hi hj => ?_) ?_
  · split
    · omega
    · have := gridG_lt (p := p) hi hj
      have := hp.few
      omega
  · exact same_part (s := fun i j => inB y.row y.col y.high y.wide i j) (t := fun i j => inB row col hi wi i j) (fun i j hi hj => gridG_lt (p := p) hi hj) hp.few
      (fun i j hi hj => by rw [← hp.mark i j hi hj, hst i j hi hj, inB_iff, inB_iff]) (fun i j => by rw [inB_iff, inB_iff]; exact hd i j)

theorem split_math {p : List ByteArray} (h : planB p = true) (room : Int) (letter : ByteArray) (k : Int) :
    doneO (splitT p room letter k) = splitOk p.length (wideB p) (gridG p) (cutOf p.length (wideB p) (gridG p) room letter k) ∧
    namesO (splitT p room letter k) = orNone (splitOk p.length (wideB p) (gridG p) (cutOf p.length (wideB p) (gridG p) room letter k)) (rowsT p.length (wideB p) (splitG p.length (wideB p) (gridG p) (cutOf p.length (wideB p) (gridG p) room letter k))) := by
  have hp := planP_of h
  unfold cutOf splitT
  cases hg : givenB p room
  · rw [find_none h hg]
    exact ⟨rfl, rfl⟩
  · obtain ⟨_, h0, h1⟩ := given_parts hg
    obtain ⟨r, rfl⟩ : ∃ r : Nat, room = (r : Int) := ⟨room.toNat, by omega⟩
    obtain ⟨x, hf, hx⟩ := find_box h (show r < gridR p by omega)
    have hb := boxB_box hp hx
    obtain ⟨_, x1, x2, x3, x4, x5⟩ := hx
    have e1 : topN p (r : Int) = x.row := by unfold topN; rw [hb]; simp
    have e2 : leftN p (r : Int) = x.col := by unfold leftN; rw [hb]; simp
    have e3 : highN p (r : Int) = x.high := by unfold highN; rw [hb]; simp only; omega
    have e4 : wideN p (r : Int) = x.wide := by unfold wideN; rw [hb]; simp only; omega
    rw [hf, e1, e2, e3, e4]
    show doneO (if true = true then _ else _) = splitOk _ _ _ (partB x letter k) ∧ namesO (if true = true then _ else _) = orNone (splitOk _ _ _ (partB x letter k)) (rowsT _ _ (splitG _ _ _ (partB x letter k)))
    rw [if_pos rfl]
    unfold partB
    cases hH : cutB (isH letter) k x.high
    · cases hV : cutB (isV letter) k x.wide
      · exact ⟨rfl, rfl⟩
      · obtain ⟨_, q2, q3⟩ := cutB_yes hV
        refine part_math (r := r) (y := ⟨x.row, x.col, x.high, k.toNat⟩) h (fun i j hi hj => ?_) (fun i j => ?_)
        · rw [x5 i j hi hj]; unfold InR; show _ ↔ (x.row ≤ i ∧ i < x.row + x.high ∧ x.col ≤ j ∧ j < x.col + k.toNat) ∨ _; omega
        · unfold InR; show ¬ ((x.row ≤ i ∧ i < x.row + x.high ∧ x.col ≤ j ∧ j < x.col + k.toNat) ∧ _); omega
    · obtain ⟨_, q2, q3⟩ := cutB_yes hH
      refine part_math (r := r) (y := ⟨x.row, x.col, k.toNat, x.wide⟩) h (fun i j hi hj => ?_) (fun i j => ?_)
      · rw [x5 i j hi hj]; unfold InR; show _ ↔ (x.row ≤ i ∧ i < x.row + k.toNat ∧ x.col ≤ j ∧ j < x.col + x.wide) ∨ _; omega
      · unfold InR; show ¬ ((x.row ≤ i ∧ i < x.row + k.toNat ∧ x.col ≤ j ∧ j < x.col + x.wide) ∧ _); omega

theorem cut_l6 (is : Bool) (k : Int) (n : Nat) : cutB is k n = (is && l6B k 1 ((n : Int) - 1)) := by
  unfold cutB l6B
  congr 1
  rw [← Bool.decide_and]
  congr 1
  rw [eq_iff_iff]
  omega

set_option maxHeartbeats 2000000 in
theorem specSplit_any (ao : Option Addr) (cap : Nat) (p : List ByteArray) (room k : Int) (letter : ByteArray) (w : World) (hl : p.length ≤ 1048576) (hs : ∀ s ∈ p, s.size ≤ 1048576) (hc : CellsAt w ao (p.map Value.string)) :
    Calls Try.prog 42 #[.slice ao p.length cap, .int .i64 room, .string letter, .int .i64 k] w fun e w' => TextsRet w.heap.size (namesO (splitT p room letter k)) (doneO (splitT p room letter k)) e w' ∧ Below w.heap.size w w' := by
  unfold splitT
  cases hg : givenB p room
  · show Calls _ _ _ _ fun e w' => TextsRet _ [] false e w' ∧ _
    go_enter Try.func42, Try.ntmps42
    go_wp2_with (first
      | (go_at_call 64; refine (l1Given_any _ _ _ _ _ hl hs hc).mono ?_; rw [hg]; rintro e w1 ⟨rfl, hb1⟩)
      | (go_at_call 66; refine (l1None_any _).mono ?_; rintro e w2 ⟨⟨ro, rc, rfl, hown2⟩, hb2⟩))
    go_ret2
    exact ⟨⟨_, _, rfl, ownsRow_base hown2 hb1.size⟩, below_step hb1 hb1.size hb2⟩
  · obtain ⟨h, h0, h1⟩ := given_parts hg
    have hp := planP_of h
    obtain ⟨r, rfl⟩ : ∃ r : Nat, room = (r : Int) := ⟨room.toNat, by omega⟩
    obtain ⟨x, _, hx⟩ := hp.boxes.2 r (by omega)
    have hb := boxB_box hp hx
    obtain ⟨_, x1, x2, x3, x4, x5⟩ := hx
    have e1 : topN p (r : Int) = x.row := by unfold topN; rw [hb]; simp
    have e2 : leftN p (r : Int) = x.col := by unfold leftN; rw [hb]; simp
    have e3 : highN p (r : Int) = x.high := by unfold highN; rw [hb]; simp only; omega
    have e4 : wideN p (r : Int) = x.wide := by unfold wideN; rw [hb]; simp only; omega
    rw [e1, e2, e3, e4, if_pos rfl, cut_l6, cut_l6]
    clear e1 e2 e3 e4
    have p1 := hp.grid.h1; have p6 := hp.grid.h6; have pw6 := hp.grid.w6
    have HEV := Lib.hid hp.grid.even
    have HRM := Lib.hid (fun (ao : Option Addr) (cap : Nat) (w : World) (h : CellsAt w ao (p.map Value.string)) => by
      have := l1Room_any ao cap p (r : Int) w (by omega) hl hs h
      rw [hb] at this
      simp only [show ((x.row + x.high - 1 : Nat) : Int) - (x.row : Int) + 1 = (x.high : Int) by omega, show ((x.col + x.wide - 1 : Nat) : Int) - (x.col : Int) + 1 = (x.wide : Int) by omega] at this
      exact this)
    clear hb x5 hp h
    cases hH : isH letter
    · cases hV : isV letter
      · show Calls _ _ _ _ fun e w' => TextsRet _ [] false e w' ∧ _
        unfold isH at hH; unfold isV at hV
        go_enter Try.func42, Try.ntmps42
        go_wp2_with fail
        refine (l1Given_any _ _ _ _ _ hl hs hc).mono ?_
        rw [hg]; rintro e w1 ⟨rfl, hb1⟩
        have hc1 := hc.below hb1
        go_wp2_with fail
        refine (HRM.out _ _ _ hc1).mono ?_
        rintro e w2 ⟨rfl, rfl⟩
        go_wp2_with fail
        refine (l1None_any _).mono ?_
        rintro e w4 ⟨⟨ro, rc, rfl, hown2⟩, hb2⟩
        go_wp2
        go_ret2
        exact ⟨⟨_, _, rfl, ownsRow_base hown2 hb1.size⟩, below_step hb1 hb1.size hb2⟩
      · unfold isH at hH; unfold isV at hV
        cases h6 : l6B k 1 ((x.wide : Int) - 1)
        · show Calls _ _ _ _ fun e w' => TextsRet _ [] false e w' ∧ _
          go_enter Try.func42, Try.ntmps42
          go_wp2_with fail
          refine (l1Given_any _ _ _ _ _ hl hs hc).mono ?_
          rw [hg]; rintro e w1 ⟨rfl, hb1⟩
          have hc1 := hc.below hb1
          go_wp2_with fail
          refine (HRM.out _ _ _ hc1).mono ?_
          rintro e w2 ⟨rfl, rfl⟩
          go_wp2_with fail
          refine (l6In_any _ _ _ _).mono ?_
          rw [h6]; rintro e w3 ⟨rfl, rfl⟩
          go_wp2_with fail
          refine (l1None_any _).mono ?_
          rintro e w4 ⟨⟨ro, rc, rfl, hown2⟩, hb2⟩
          go_wp2
          go_ret2
          exact ⟨⟨_, _, rfl, ownsRow_base hown2 hb1.size⟩, below_step hb1 hb1.size hb2⟩
        · have hk : 1 ≤ k ∧ k ≤ (x.wide : Int) - 1 := by unfold l6B at h6; exact of_decide_eq_true h6
          obtain ⟨n, rfl⟩ : ∃ n : Nat, k = (n : Int) := ⟨k.toNat, by omega⟩
          simp only [Int.toNat_natCast]
          have HLN := Lib.hid (show (putB p x.row (x.col + n) x.high (x.wide - n) (UInt8.ofNat (97 + 25))).length = p.length by unfold putB; rw [matB_len])
          have HSZ := Lib.hid (show ∀ s ∈ putB p x.row (x.col + n) x.high (x.wide - n) (UInt8.ofNat (97 + 25)), s.size ≤ 1048576 from fun s hs => by unfold putB at hs; rw [matB_size s hs]; omega)
          have HPU := Lib.hid (fun (ao : Option Addr) (cap : Nat) (w : World) (h : CellsAt w ao (p.map Value.string)) => by
            have := l1Put_any ao cap p (x.row) ((x.col + n)) (x.high) ((x.wide - n)) (UInt8.ofNat (97 + 25)) w p1 p6 pw6 HEV.out (by omega) (by omega) h
            rw [show ((UInt8.ofNat (97 + 25)).toNat : Int) = 122 from rfl, show ((x.col + n : Nat) : Int) = (x.col : Int) + (n : Int) from Int.natCast_add _ _, show ((x.wide - n : Nat) : Int) = (x.wide : Int) - (n : Int) by omega] at this
            exact this)
          have HDN := Lib.hid (fun (ao : Option Addr) (cap : Nat) (w : World) => l1Done_any ao cap p.length (putB p x.row (x.col + n) x.high (x.wide - n) (UInt8.ofNat (97 + 25))) w HLN.out (by rw [HLN.out]; omega) HSZ.out)
          show Calls _ _ _ _ fun e w' => TextsRet _ (orNone (doneB (putB p x.row (x.col + n) x.high (x.wide - n) (UInt8.ofNat (97 + 25)))) (namesB (putB p x.row (x.col + n) x.high (x.wide - n) (UInt8.ofNat (97 + 25))))) (doneB (putB p x.row (x.col + n) x.high (x.wide - n) (UInt8.ofNat (97 + 25)))) e w' ∧ _
          generalize putB p x.row (x.col + n) x.high (x.wide - n) (UInt8.ofNat (97 + 25)) = T at *
          go_enter Try.func42, Try.ntmps42
          go_wp2_with fail
          refine (l1Given_any _ _ _ _ _ hl hs hc).mono ?_
          rw [hg]; rintro e w1 ⟨rfl, hb1⟩
          have hc1 := hc.below hb1
          go_wp2_with fail
          refine (HRM.out _ _ _ hc1).mono ?_
          rintro e w2 ⟨rfl, rfl⟩
          go_wp2_with fail
          refine (l6In_any _ _ _ _).mono ?_
          rw [h6]; rintro e w3 ⟨rfl, rfl⟩
          go_wp2_with fail
          refine (HPU.out _ _ _ hc1).mono ?_
          rintro e w4 ⟨r4, c4, rfl, o4, b4⟩
          have hc4 := owns_cells o4
          go_wp2_with fail
          refine (HDN.out _ _ _ hc4).mono ?_
          rintro e w5 ⟨⟨r5, c5, rfl, o5⟩, b5⟩
          go_wp2
          have z4 := below_step hb1 hb1.size b4
          go_ret2
          exact ⟨⟨_, _, rfl, ownsRow_base o5 z4.size⟩, below_step z4 z4.size b5⟩
    · have hV := isH_not hH
      unfold isH at hH; unfold isV at hV
      cases h6 : l6B k 1 ((x.high : Int) - 1)
      · rw [show isV letter = false from hV]
        show Calls _ _ _ _ fun e w' => TextsRet _ [] false e w' ∧ _
        go_enter Try.func42, Try.ntmps42
        go_wp2_with fail
        refine (l1Given_any _ _ _ _ _ hl hs hc).mono ?_
        rw [hg]; rintro e w1 ⟨rfl, hb1⟩
        have hc1 := hc.below hb1
        go_wp2_with fail
        refine (HRM.out _ _ _ hc1).mono ?_
        rintro e w2 ⟨rfl, rfl⟩
        go_wp2_with fail
        refine (l6In_any _ _ _ _).mono ?_
        rw [h6]; rintro e w3 ⟨rfl, rfl⟩
        go_wp2_with fail
        refine (l1None_any _).mono ?_
        rintro e w4 ⟨⟨ro, rc, rfl, hown2⟩, hb2⟩
        go_wp2
        go_ret2
        exact ⟨⟨_, _, rfl, ownsRow_base hown2 hb1.size⟩, below_step hb1 hb1.size hb2⟩
      · have hk : 1 ≤ k ∧ k ≤ (x.high : Int) - 1 := by unfold l6B at h6; exact of_decide_eq_true h6
        obtain ⟨n, rfl⟩ : ∃ n : Nat, k = (n : Int) := ⟨k.toNat, by omega⟩
        simp only [Int.toNat_natCast]
        have HLN := Lib.hid (show (putB p (x.row + n) x.col (x.high - n) x.wide (UInt8.ofNat (97 + 25))).length = p.length by unfold putB; rw [matB_len])
        have HSZ := Lib.hid (show ∀ s ∈ putB p (x.row + n) x.col (x.high - n) x.wide (UInt8.ofNat (97 + 25)), s.size ≤ 1048576 from fun s hs => by unfold putB at hs; rw [matB_size s hs]; omega)
        have HPU := Lib.hid (fun (ao : Option Addr) (cap : Nat) (w : World) (h : CellsAt w ao (p.map Value.string)) => by
          have := l1Put_any ao cap p ((x.row + n)) (x.col) ((x.high - n)) (x.wide) (UInt8.ofNat (97 + 25)) w p1 p6 pw6 HEV.out (by omega) (by omega) h
          rw [show ((UInt8.ofNat (97 + 25)).toNat : Int) = 122 from rfl, show ((x.row + n : Nat) : Int) = (x.row : Int) + (n : Int) from Int.natCast_add _ _, show ((x.high - n : Nat) : Int) = (x.high : Int) - (n : Int) by omega] at this
          exact this)
        have HDN := Lib.hid (fun (ao : Option Addr) (cap : Nat) (w : World) => l1Done_any ao cap p.length (putB p (x.row + n) x.col (x.high - n) x.wide (UInt8.ofNat (97 + 25))) w HLN.out (by rw [HLN.out]; omega) HSZ.out)
        show Calls _ _ _ _ fun e w' => TextsRet _ (orNone (doneB (putB p (x.row + n) x.col (x.high - n) x.wide (UInt8.ofNat (97 + 25)))) (namesB (putB p (x.row + n) x.col (x.high - n) x.wide (UInt8.ofNat (97 + 25))))) (doneB (putB p (x.row + n) x.col (x.high - n) x.wide (UInt8.ofNat (97 + 25)))) e w' ∧ _
        generalize putB p (x.row + n) x.col (x.high - n) x.wide (UInt8.ofNat (97 + 25)) = T at *
        go_enter Try.func42, Try.ntmps42
        go_wp2_with fail
        refine (l1Given_any _ _ _ _ _ hl hs hc).mono ?_
        rw [hg]; rintro e w1 ⟨rfl, hb1⟩
        have hc1 := hc.below hb1
        go_wp2_with fail
        refine (HRM.out _ _ _ hc1).mono ?_
        rintro e w2 ⟨rfl, rfl⟩
        go_wp2_with fail
        refine (l6In_any _ _ _ _).mono ?_
        rw [h6]; rintro e w3 ⟨rfl, rfl⟩
        go_wp2_with fail
        refine (HPU.out _ _ _ hc1).mono ?_
        rintro e w4 ⟨r4, c4, rfl, o4, b4⟩
        have hc4 := owns_cells o4
        go_wp2_with fail
        refine (HDN.out _ _ _ hc4).mono ?_
        rintro e w5 ⟨⟨r5, c5, rfl, o5⟩, b5⟩
        go_wp2
        have z4 := below_step hb1 hb1.size b4
        go_ret2
        exact ⟨⟨_, _, rfl, ownsRow_base o5 z4.size⟩, below_step z4 z4.size b5⟩

set_option maxHeartbeats 400000 in
theorem implSplit_any (ao : Option Addr) (cap : Nat) (p : List ByteArray) (room k : Int) (letter : ByteArray) (w : World) (hl : p.length ≤ 1048576) (hs : ∀ s ∈ p, s.size ≤ 1048576) (hc : CellsAt w ao (p.map Value.string)) :
    Calls Try.prog 43 #[.slice ao p.length cap, .int .i64 room, .string letter, .int .i64 k] w fun e w' => TextsRet w.heap.size (namesO (splitT p room letter k)) (doneO (splitT p room letter k)) e w' ∧ Below w.heap.size w w' := by
  have hT : doneO (splitT p room letter k) = (readOk p && (splitOk p.length (wideB p) (gridG p) (cutOf p.length (wideB p) (gridG p) room letter k))) ∧ namesO (splitT p room letter k) = orNone (readOk p && (splitOk p.length (wideB p) (gridG p) (cutOf p.length (wideB p) (gridG p) room letter k))) (rowsT p.length (wideB p) (splitG p.length (wideB p) (gridG p) (cutOf p.length (wideB p) (gridG p) room letter k))) := by
    rw [readOk_eq]
    cases hp : planB p
    · have hg : givenB p room = false := by unfold givenB; rw [hp]; rfl
      unfold splitT
      rw [hg]
      exact ⟨rfl, rfl⟩
    · rw [Bool.true_and]
      exact split_math hp room letter k
  have hA := ((HeldB.new w 3 #[.int .i64 room]).alloc (.cells #[.string letter] 9)).alloc (.cells #[.int .i64 k] 3)
  have hB := (HeldB.new (w.alloc (.cells #[.int .i64 room] 3)) 9 #[.string letter]).alloc (.cells #[.int .i64 k] 3)
  have hC := HeldB.new ((w.alloc (.cells #[.int .i64 room] 3)).alloc (.cells #[.string letter] 9)) 3 #[.int .i64 k]
  simp only [World.size_alloc] at hB hC
  have hb0 : Below w.heap.size w (((w.alloc (.cells #[.int .i64 room] 3)).alloc (.cells #[.string letter] 9)).alloc (.cells #[.int .i64 k] 3)) := ((((Below.refl _ w).alloc (Nat.le_refl _) _).alloc (by simp) _).alloc (by simp; omega) _)
  have hc0 := hc.below hb0
  have HR := Lib.hid (redraw_any 84 #[.pointer (some ⟨w.heap.size, 0, none⟩), .pointer (some ⟨w.heap.size + 1, 0, none⟩), .pointer (some ⟨w.heap.size + 1 + 1, 0, none⟩)] (splitOk p.length (wideB p) (gridG p) (cutOf p.length (wideB p) (gridG p) room letter k))
    (splitC p.length (wideB p) (gridG p) (cutOf p.length (wideB p) (gridG p) room letter k)) p.length (wideB p) (splitR p.length (wideB p) (gridG p) (cutOf p.length (wideB p) (gridG p) room letter k))
    (splitG p.length (wideB p) (gridG p) (cutOf p.length (wideB p) (gridG p) room letter k)) ao cap p (((w.alloc (.cells #[.int .i64 room] 3)).alloc (.cells #[.string letter] 9)).alloc (.cells #[.int .i64 k] 3)) hl hs hc0 Try.call84
    (fun hr W hb => by
      have hd := read_dims hr
      have := splitChange_any w.heap.size (w.heap.size + 1) (w.heap.size + 1 + 1) p.length (wideB p) (gridR p) (gridG p) room k letter W (hA.below hb) (hB.below hb) (hC.below hb) hd.1 hd.2.1 (fun i j => Nat.lt_of_le_of_lt (hd.2.2 i j) (by omega))
      rw [← readC_ok hr] at this
      exact this)
    (fun hb => splitC_ok hb))
  rw [hT.1, hT.2]
  clear hT hA hB hC
  generalize (readOk p && (splitOk p.length (wideB p) (gridG p) (cutOf p.length (wideB p) (gridG p) room letter k))) = bb at *
  go_enter Try.func43, Try.ntmps43
  go_wp2_with (go_at_call 68; refine (HR.out).mono ?_; rintro e w1 ⟨⟨ro, rc, rfl, hown1⟩, hb1⟩)
  go_ret2
  exact ⟨⟨ro, rc, rfl, ownsRow_base hown1 hb0.size⟩, below_step hb0 hb0.size hb1⟩

end Go.Proofs.Ythboiobapmagcaa
