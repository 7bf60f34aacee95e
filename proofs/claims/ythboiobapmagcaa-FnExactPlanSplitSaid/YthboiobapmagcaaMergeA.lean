/-
  Two rooms made one: the model's answer and the program's. (Walks.)
-/
import Derived.Test.YthboiobapmagcaaPutA
import Derived.Test.YthboiobapmagcaaRoomB
import Derived.Test.YthboiobapmagcaaWideA
import Derived.Test.YthboiobapmagcaaImplM
namespace Go.Proofs.Ythboiobapmagcaa
open Go.RowKit

/-- texts with a letter written into a room -/
def putRoom (p : List ByteArray) (r : Int) (c : UInt8) : List ByteArray :=
  putB p (boxB p r).top.toNat (boxB p r).left.toNat ((boxB p r).low - (boxB p r).top + 1).toNat ((boxB p r).right - (boxB p r).left + 1).toNat c

theorem given_parts {p : List ByteArray} {room : Int} (h : givenB p room = true) : planB p = true ∧ 0 ≤ room ∧ room < (gridR p : Int) := by
  unfold givenB at h
  rw [Bool.and_eq_true] at h
  have hr := (planP_of h.1).rooms
  have h2 : 0 ≤ room ∧ room ≤ roomsB p - 1 := by have := h.2; unfold l6B at this; exact of_decide_eq_true this
  exact ⟨h.1, h2.1, by omega⟩
theorem given_has {p : List ByteArray} {room : Int} (h : planB p = true) : givenB p room = hasB (gridR p) room := by
  have hr := (planP_of h).rooms
  unfold givenB l6B hasB
  rw [h, Bool.true_and, hr, ← Bool.decide_and]
  congr 1
  rw [eq_iff_iff]
  omega
/-- the box of a room -/
theorem given_box {p : List ByteArray} {r : Nat} (h : planB p = true) (hr : r < gridR p) : ∃ x, BoxOf p r x ∧ boxB p (r : Int) = ⟨x.row, x.col, (x.row + x.high - 1 : Nat), (x.col + x.wide - 1 : Nat)⟩ := by
  have hp := planP_of h
  obtain ⟨x, _, hx⟩ := hp.boxes.2 r hr
  exact ⟨x, hx, boxB_box hp hx⟩

theorem put_rows {p : List ByteArray} {row col hi wi : Nat} {c : Nat} (hp : GridP p) : putB p row col hi wi (UInt8.ofNat (97 + c)) = rowsT p.length (wideB p) (fun i j => if inB row col hi wi i j then c else markN p i j) := by
  unfold putB
  refine mat_rows fun i j hi hj => ?_
  unfold putF
  cases inB row col _ _ i j
  · exact hp.letter hi hj
  · rfl

theorem merge_math {p : List ByteArray} {a b : Nat} (h : planB p = true) (ha : a < gridR p) (hb : b < gridR p) :
    doneB (putRoom p (b : Int) (UInt8.ofNat (97 + a))) = drawOk p.length (wideB p) (mergeM (gridG p) a b) ∧
    orNone (doneB (putRoom p (b : Int) (UInt8.ofNat (97 + a)))) (namesB (putRoom p (b : Int) (UInt8.ofNat (97 + a)))) = orNone (drawOk p.length (wideB p) (mergeM (gridG p) a b)) (rowsT p.length (wideB p) (renG p.length (wideB p) (mergeM (gridG p) a b))) := by
  have hp := planP_of h
  obtain ⟨x, hx, hbx⟩ := given_box h hb
  obtain ⟨_, x1, x2, x3, x4, x5⟩ := hx
  unfold putRoom
  rw [hbx]
  simp only [Int.toNat_natCast]
  rw [show (((x.row + x.high - 1 : Nat) : Int) - (x.row : Int) + 1).toNat = x.high by omega, show (((x.col + x.wide - 1 : Nat) : Int) - (x.col : Int) + 1).toNat = x.wide by omega, put_rows hp.grid]
  refine same_rows hp.grid.h1 hp.grid.w1 (fun i j hi hj => ?_) (sameG_of_eq fun i j hi hj => ?_)
  · have := hp.few
    split
    · omega
    · exact markN_lt p i j
  · have h5 := x5 i j hi hj
    have hm := hp.mark i j hi hj
    unfold mergeM
    rw [← hm]
    by_cases hin : inB x.row x.col x.high x.wide i j = true
    · rw [if_pos hin, if_pos (h5.2 (inB_iff.1 hin))]
    · rw [if_neg hin, if_neg (fun e => hin (inB_iff.2 (h5.1 e)))]

def mergeOk (p : List ByteArray) (a b : Int) : Bool := givenB p a && (givenB p b && (!(a == b) && doneB (putRoom p b (UInt8.ofNat (97 + a.toNat)))))
def mergeT (p : List ByteArray) (a b : Int) : List ByteArray := namesB (putRoom p b (UInt8.ofNat (97 + a.toNat)))
theorem merge_few (p : List ByteArray) (a b : Int) : (orNone (mergeOk p a b) (mergeT p a b)).length ≤ 1048576 := by
  cases h : mergeOk p a b
  · rw [orNone_no rfl]; exact Nat.zero_le _
  · unfold mergeOk at h
    simp only [Bool.and_eq_true] at h
    have := names_few (putRoom p b (UInt8.ofNat (97 + a.toNat)))
    rw [h.2.2.2] at this
    exact this

set_option maxHeartbeats 1000000 in
theorem specMerge_any (ao : Option Addr) (cap : Nat) (p : List ByteArray) (a b : Int) (w : World) (hl : p.length ≤ 1048576) (hs : ∀ s ∈ p, s.size ≤ 1048576) (hc : CellsAt w ao (p.map Value.string)) :
    Calls Try.prog 44 #[.slice ao p.length cap, .int .i64 a, .int .i64 b] w fun e w' => TextsRet w.heap.size (orNone (mergeOk p a b) (mergeT p a b)) (mergeOk p a b) e w' ∧ Below w.heap.size w w' := by
  cases hga : givenB p a
  · have hw : mergeOk p a b = false := by unfold mergeOk; rw [hga]; rfl
    rw [orNone_no hw, hw]
    go_enter Try.func44, Try.ntmps44
    go_wp2_with (first
      | (go_at_call 64; refine (l1Given_any _ _ _ _ _ hl hs hc).mono ?_; rw [hga]; rintro e w1 ⟨rfl, hb1⟩)
      | (go_at_call 66; refine (l1None_any _).mono ?_; rintro e w2 ⟨⟨ro, rc, rfl, hown2⟩, hb2⟩))
    go_ret2
    exact ⟨⟨_, _, rfl, ownsRow_base hown2 hb1.size⟩, below_step hb1 hb1.size hb2⟩
  · cases hgb : givenB p b
    · have hw : mergeOk p a b = false := by unfold mergeOk; rw [hgb, Bool.false_and, Bool.and_false]
      rw [orNone_no hw, hw]
      go_enter Try.func44, Try.ntmps44
      go_wp2_with fail
      refine (l1Given_any _ _ _ _ _ hl hs hc).mono ?_
      rw [hga]; rintro e w1 ⟨rfl, hb1⟩
      go_wp2_with fail
      refine (l1Given_any _ _ _ _ _ hl hs (hc.below hb1)).mono ?_
      rw [hgb]; rintro e w2 ⟨rfl, hb2⟩
      go_wp2_with (go_at_call 66; refine (l1None_any _).mono ?_; rintro e w3 ⟨⟨ro, rc, rfl, hown2⟩, hb3⟩)
      have z2 := below_step hb1 hb1.size hb2
      go_ret2
      exact ⟨⟨_, _, rfl, ownsRow_base hown2 z2.size⟩, below_step z2 z2.size hb3⟩
    · cases he : (a == b)
      · have hw : mergeOk p a b = doneB (putRoom p b (UInt8.ofNat (97 + a.toNat))) := by unfold mergeOk; rw [hga, hgb, he]; rfl
        unfold mergeT
        rw [hw]
        obtain ⟨hp, ha0, ha1⟩ := given_parts hga
        obtain ⟨_, hb0, hb1⟩ := given_parts hgb
        have hpp := planP_of hp
        obtain ⟨an, rfl⟩ : ∃ n : Nat, a = (n : Int) := ⟨a.toNat, by omega⟩
        obtain ⟨bn, rfl⟩ : ∃ n : Nat, b = (n : Int) := ⟨b.toNat, by omega⟩
        obtain ⟨x, hx, hbx⟩ := given_box hp (show bn < gridR p by omega)
        obtain ⟨_, x1, x2, x3, x4, x5⟩ := hx
        have e1 : ((x.row + x.high - 1 : Nat) : Int) - (x.row : Int) + 1 = (x.high : Int) := by omega
        have e2 : ((x.col + x.wide - 1 : Nat) : Int) - (x.col : Int) + 1 = (x.wide : Int) := by omega
        have hput : putRoom p (bn : Int) (UInt8.ofNat (97 + an)) = putB p x.row x.col x.high x.wide (UInt8.ofNat (97 + an)) := by
          unfold putRoom
          rw [hbx]
          simp only [Int.toNat_natCast, e1, e2]
        rw [Int.toNat_natCast, hput]
        have h1 := hpp.grid.h1; have h6 := hpp.grid.h6; have w1 := hpp.grid.w1; have w6 := hpp.grid.w6
        have han : an < 9 := by have := hpp.few; omega
        have HEV := Lib.hid hpp.grid.even
        have HRM := Lib.hid (fun (ao : Option Addr) (cap : Nat) (w : World) (h : CellsAt w ao (p.map Value.string)) => by
          have := l1Room_any ao cap p (bn : Int) w (by omega) hl hs h
          rw [hbx] at this
          simp only [e1, e2] at this
          exact this)
        have HLN := Lib.hid (show (putB p x.row x.col x.high x.wide (UInt8.ofNat (97 + an))).length = p.length by unfold putB; rw [matB_len])
        have HSZ := Lib.hid (show ∀ s ∈ putB p x.row x.col x.high x.wide (UInt8.ofNat (97 + an)), s.size ≤ 1048576 from fun s hs => by unfold putB at hs; rw [matB_size s hs]; omega)
        have hcc : (UInt8.ofNat (97 + an)).toNat = 97 + an := by rw [UInt8.toNat_ofNat', Nat.mod_eq_of_lt (by omega)]
        have HPU := Lib.hid (fun (ao : Option Addr) (cap : Nat) (w : World) (h : CellsAt w ao (p.map Value.string)) => by
          have := l1Put_any ao cap p x.row x.col x.high x.wide (UInt8.ofNat (97 + an)) w h1 h6 w6 HEV.out x3 x4 h
          rw [show ((UInt8.ofNat (97 + an)).toNat : Int) = 97 + (an : Int) by rw [hcc]; omega] at this
          exact this)
        have HDN := Lib.hid (fun (ao : Option Addr) (cap : Nat) (w : World) => l1Done_any ao cap p.length (putB p x.row x.col x.high x.wide (UInt8.ofNat (97 + an))) w HLN.out (by rw [HLN.out]; omega) HSZ.out)
        clear hput hbx hpp x5 hcc e1 e2 hw
        generalize putB p x.row x.col x.high x.wide (UInt8.ofNat (97 + an)) = T at *
        go_enter Try.func44, Try.ntmps44
        go_wp2_with fail
        refine (l1Given_any _ _ _ _ _ hl hs hc).mono ?_
        rw [hga]; rintro e w1 ⟨rfl, hb1⟩
        have hc1 := hc.below hb1
        go_wp2_with fail
        refine (l1Given_any _ _ _ _ _ hl hs hc1).mono ?_
        rw [hgb]; rintro e w2 ⟨rfl, hb2⟩
        have hc2 := hc1.below hb2
        go_wp2_with fail
        refine (HRM.out _ _ _ hc2).mono ?_
        rintro e w3 ⟨rfl, rfl⟩
        go_wp2_with fail
        refine (HPU.out _ _ _ hc2).mono ?_
        rintro e w4 ⟨r4, c4, rfl, o4, b4⟩
        have hc4 := owns_cells o4
        go_wp2_with fail
        refine (HDN.out _ _ _ hc4).mono ?_
        rintro e w5 ⟨⟨r5, c5, rfl, o5⟩, b5⟩
        go_wp2
        have z2 := below_step hb1 hb1.size hb2
        have z4 := below_step z2 z2.size b4
        go_ret2
        exact ⟨⟨_, _, rfl, ownsRow_base o5 z4.size⟩, below_step z4 z4.size b5⟩
      · have hw : mergeOk p a b = false := by unfold mergeOk; rw [he, Bool.not_true, Bool.false_and, Bool.and_false, Bool.and_false]
        rw [orNone_no hw, hw]
        go_enter Try.func44, Try.ntmps44
        go_wp2_with fail
        refine (l1Given_any _ _ _ _ _ hl hs hc).mono ?_
        rw [hga]; rintro e w1 ⟨rfl, hb1⟩
        go_wp2_with fail
        refine (l1Given_any _ _ _ _ _ hl hs (hc.below hb1)).mono ?_
        rw [hgb]; rintro e w2 ⟨rfl, hb2⟩
        go_wp2_with (go_at_call 66; refine (l1None_any _).mono ?_; rintro e w3 ⟨⟨ro, rc, rfl, hown2⟩, hb3⟩)
        have z2 := below_step hb1 hb1.size hb2
        go_ret2
        exact ⟨⟨_, _, rfl, ownsRow_base hown2 z2.size⟩, below_step z2 z2.size hb3⟩

set_option maxHeartbeats 400000 in
theorem implMerge_any (ao : Option Addr) (cap : Nat) (p : List ByteArray) (a b : Int) (w : World) (hl : p.length ≤ 1048576) (hs : ∀ s ∈ p, s.size ≤ 1048576) (hc : CellsAt w ao (p.map Value.string)) :
    Calls Try.prog 45 #[.slice ao p.length cap, .int .i64 a, .int .i64 b] w fun e w' => TextsRet w.heap.size (orNone (mergeOk p a b) (mergeT p a b)) (mergeOk p a b) e w' ∧ Below w.heap.size w w' := by
  have hT : mergeOk p a b = (readOk p && (twoB (gridR p) a b && drawOk p.length (wideB p) (mergeM (gridG p) a.toNat b.toNat))) ∧
      orNone (mergeOk p a b) (mergeT p a b) = orNone (readOk p && (twoB (gridR p) a b && drawOk p.length (wideB p) (mergeM (gridG p) a.toNat b.toNat))) (rowsT p.length (wideB p) (renG p.length (wideB p) (mergeM (gridG p) a.toNat b.toNat))) := by
    rw [readOk_eq]
    unfold mergeOk mergeT twoB
    cases hp : planB p
    · have : givenB p a = false := by unfold givenB; rw [hp]; rfl
      rw [this]
      exact ⟨rfl, rfl⟩
    · rw [given_has hp, given_has hp]
      cases he : (a == b)
      · cases hha : hasB (gridR p) a
        · exact ⟨rfl, rfl⟩
        · cases hhb : hasB (gridR p) b
          · exact ⟨rfl, rfl⟩
          · rw [hasB_iff] at hha hhb
            have hm := merge_math hp (show a.toNat < gridR p by omega) (show b.toNat < gridR p by omega)
            rw [show ((b.toNat : Nat) : Int) = b by omega] at hm
            simp only [Bool.true_and, Bool.not_false]
            exact hm
      · simp only [Bool.not_true, Bool.false_and, Bool.and_false]
        exact ⟨trivial, rfl⟩
  have hA := (HeldB.new w 3 #[.int .i64 a]).alloc (.cells #[.int .i64 b] 3)
  have hB := HeldB.new (w.alloc (.cells #[.int .i64 a] 3)) 3 #[.int .i64 b]
  simp only [World.size_alloc] at hB
  have hb0 : Below w.heap.size w ((w.alloc (.cells #[.int .i64 a] 3)).alloc (.cells #[.int .i64 b] 3)) := (((Below.refl _ w).alloc (Nat.le_refl _) _).alloc (by simp) _)
  have hc0 := hc.below hb0
  have HR := Lib.hid (redraw_any 86 #[.pointer (some ⟨w.heap.size, 0, none⟩), .pointer (some ⟨w.heap.size + 1, 0, none⟩)] (twoB (gridR p) a b && drawOk p.length (wideB p) (mergeM (gridG p) a.toNat b.toNat))
    (ifC (twoB (gridR p) a b) (drawC p.length (wideB p) (mergeM (gridG p) a.toNat b.toNat))) p.length (wideB p) (markF p.length (wideB p) (mergeM (gridG p) a.toNat b.toNat)).length
    (renG p.length (wideB p) (mergeM (gridG p) a.toNat b.toNat)) ao cap p ((w.alloc (.cells #[.int .i64 a] 3)).alloc (.cells #[.int .i64 b] 3)) hl hs hc0 Try.call86
    (fun hr W hb => by
      have hd := read_dims hr
      have := mergeChange_any w.heap.size (w.heap.size + 1) p.length (wideB p) (gridR p) (gridG p) a b W (hA.below hb) (hB.below hb) hd.1 hd.2.1 (nameDraw_dims (ok_of_read hr)).2.2.2.1 (fun i j => Nat.lt_of_le_of_lt (hd.2.2 i j) (by omega))
      rw [← readC_ok hr] at this
      exact this)
    (fun hb => by
      rw [Bool.and_eq_true] at hb
      rw [ifC_yes hb.1]
      exact drawC_ok hb.2))
  rw [hT.1] at *
  rw [hT.2]
  clear hT hA hB
  generalize (readOk p && (twoB (gridR p) a b && drawOk p.length (wideB p) (mergeM (gridG p) a.toNat b.toNat))) = bb at *
  go_enter Try.func45, Try.ntmps45
  go_wp2_with (go_at_call 68; refine (HR.out).mono ?_; rintro e w1 ⟨⟨ro, rc, rfl, hown1⟩, hb1⟩)
  go_ret2
  exact ⟨⟨ro, rc, rfl, ownsRow_base hown1 hb0.size⟩, below_step hb0 hb0.size hb1⟩

end Go.Proofs.Ythboiobapmagcaa
