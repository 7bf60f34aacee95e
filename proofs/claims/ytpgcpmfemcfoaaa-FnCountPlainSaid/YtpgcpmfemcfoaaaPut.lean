
/-
  Merged texts: PutA ImplM MergeA ImplS SplitA.
-/
import Derived.Test.YtpgcpmfemcfoaaaTurns
import Derived.Test.YtpgcpmfemcfoaaaBytes
import Derived.Test.YtpgcpmfemcfoaaaImplW
import Derived.Test.YtpgcpmfemcfoaaaRoomB
import Derived.Test.YtpgcpmfemcfoaaaWideA
import Derived.Test.YtpgcpmfemcfoaaaImplK

/-
  The model writes a letter into some rows and columns. (Walk.)
-/
namespace Go.Proofs.Ytpgcpmfemcfoaaa
open Go.RowKit

/-- whether a cell lies in a box -/
def inB (row col hi wi i j : Nat) : Bool := decide (row ≤ i ∧ i < row + hi ∧ col ≤ j ∧ j < col + wi)
theorem inB_iff {row col hi wi i j : Nat} : inB row col hi wi i j = true ↔ InR row col hi wi i j := by unfold inB InR; exact decide_eq_true_iff

/-- bytes with a letter written into a box -/
def putF (p : List ByteArray) (row col hi wi : Nat) (c : UInt8) (i j : Nat) : UInt8 := if inB row col hi wi i j then c else byteAt p i j
def putB (p : List ByteArray) (row col hi wi : Nat) (c : UInt8) : List ByteArray := matB p.length (wideB p) (putF p row col hi wi c)

theorem matB_at {n m : Nat} {b : Nat → Nat → UInt8} {i : Nat} (h : i < (matB n m b).length) : (matB n m b)[i] = ⟨(rowM m b i).toArray⟩ := by simp [matB]
theorem rowM_at {m : Nat} {b : Nat → Nat → UInt8} {i j : Nat} (h : j < (rowM m b i).length) : (rowM m b i)[j] = b i j := by simp [rowM]
theorem row_ext {p : List ByteArray} (he : Even p) {i : Nat} (hi : i < p.length) : (p.getD i ByteArray.empty).data.toList = rowM (wideB p) (byteAt p) i := by
  have hs := he i hi
  rw [← size_list] at hs
  apply List.ext_getElem
  · rw [rowM_len, hs]
  · intro j h1 h2
    rw [rowM_at]
    unfold byteAt
    generalize (p.getD i ByteArray.empty).data.toList = l at *
    rw [List.getD_eq_getElem?_getD, List.getElem?_eq_getElem h1]
    rfl
theorem text_mat {p : List ByteArray} (he : Even p) : p = matB p.length (wideB p) (byteAt p) := by
  apply List.ext_getElem
  · rw [matB_len]
  · intro i h1 h2
    rw [matB_at, ← row_ext he h1]
    simp [h1]
theorem rowM_congr {m : Nat} {b b' : Nat → Nat → UInt8} {i i' : Nat} (h : ∀ j, j < m → b i j = b' i' j) : rowM m b i = rowM m b' i' := by
  unfold rowM
  exact List.map_congr_left fun j hj => h j (List.mem_range.1 hj)
theorem matB_congr {n m : Nat} {b b' : Nat → Nat → UInt8} (h : ∀ i j, i < n → j < m → b i j = b' i j) : matB n m b = matB n m b' := by
  unfold matB
  refine List.map_congr_left fun i hi => ?_
  rw [rowM_congr fun j hj => h i j (List.mem_range.1 hi) hj]
theorem matB_set {n m : Nat} {b b' : Nat → Nat → UInt8} {i : Nat} (h : ∀ a j, a < n → j < m → a ≠ i → b a j = b' a j) : (matB n m b).set i ⟨(rowM m b' i).toArray⟩ = matB n m b' := by
  apply List.ext_getElem
  · simp [matB]
  · intro a h1 h2
    rw [List.getElem_set, matB_at, matB_at]
    split
    · rename_i he; subst he; rfl
    · rename_i he
      rw [rowM_congr fun j hj => h a j (by rw [matB_len] at h2; exact h2) hj (fun e => he e.symm)]
theorem rowM_set {m : Nat} {b b' : Nat → Nat → UInt8} {i j : Nat} {c : UInt8} (hc : b' i j = c) (h : ∀ a, a < m → a ≠ j → b i a = b' i a) : (rowM m b i).set j c = rowM m b' i := by
  subst hc
  apply List.ext_getElem
  · simp [rowM]
  · intro a h1 h2
    rw [List.getElem_set, rowM_at, rowM_at]
    split
    · rename_i he; subst he; rfl
    · rename_i he
      exact h a (by rw [rowM_len] at h2; exact h2) (fun e => he e.symm)

theorem set_bytes {L : List UInt8} {r : List Value} {k : Nat} {c : UInt8} (hk : k < L.length) : ((L.map byteV ++ r).toArray).setIfInBounds k (byteV c) = ((L.set k c).map byteV ++ r).toArray := by
  apply Array.ext'
  simp [hk, List.map_set]

set_option maxRecDepth 100000 in
set_option maxHeartbeats 2000000 in
theorem l1Put_any (ao : Option Addr) (cap : Nat) (p : List ByteArray) (row col hi wi : Nat) (c : UInt8) (w : World) (h1 : 1 ≤ p.length) (h6 : p.length ≤ 6) (w6 : wideB p ≤ 6) (he : Even p) (hr : row + hi ≤ p.length) (hcw : col + wi ≤ wideB p)
    (hc : CellsAt w ao (p.map Value.string)) :
    Calls Try.prog 128 #[.slice ao p.length cap, .int .i64 row, .int .i64 col, .int .i64 hi, .int .i64 wi, .int .u8 c.toNat] w
      fun e w' => ∃ ro rc, e = .returned (.slice ro p.length rc) ∧ w'.ownsRow w.heap.size 9 1 (.slice ro p.length rc) p.length ((putB p row col hi wi c).map Value.string) ∧ Below w.heap.size w w' := by
  obtain ⟨it, hti, htz, ht1, ht2⟩ := info_parts Try.infoText
  have hr1 : (w.alloc (.cells #[] 9)).ownsRow w.heap.size 9 1 (.slice (some ⟨w.heap.size, 0, none⟩) 0 0) 0 [] := World.ownsRow_made w #[] 0 (Nat.le_refl _) (Nat.zero_le _) rfl
  have hb0 := below_alloc w (.cells #[] 9)
  have hc0 := hc.below hb0
  have HTX := Lib.hid (text_mat he)
  have HE := Lib.hid he; clear he
  have hone : ∀ u ∈ p.map Value.string, u.oneCell' = true := fun u hu => by
    rw [List.mem_map] at hu; obtain ⟨s, _, rfl⟩ := hu; rfl
  have hml : (p.map Value.string).length = p.length := List.length_map _
  have HML := Lib.hid hml; clear hml
  have HONE := Lib.hid hone; clear hone
  have hb1' : p.length ≤ maxLen := by unfold maxLen; omega
  have hb2' : p.length * 16 ≤ 140737488355328 := by omega
  have hpos : 0 < p.length := h1
  clear hc
  obtain ⟨b, hbd⟩ : ∃ b, b = byteAt p := ⟨_, rfl⟩
  have hput : putB p row col hi wi c = matB p.length (wideB p) (fun a j => if inB row col hi wi a j then c else b a j) := by rw [hbd]; rfl
  have HPUT := Lib.hid hput; clear hput
  have HBR := Lib.hid (show ∀ i, i < p.length → (p.getD i ByteArray.empty).data.toList = rowM (wideB p) b i by rw [hbd]; exact fun i hi => row_ext HE.out hi)
  rw [← hbd] at HTX
  clear hbd
  -- the texts when rows up to i are written
  obtain ⟨st, hst⟩ : ∃ st : Nat → Nat → Nat → UInt8, st = fun i a j => if inB row col (i - row) wi a j then c else b a j := ⟨_, rfl⟩
  have HST := Lib.hid hst; clear hst
  go_enter Try.func128, Try.ntmps128
  go_wp2_with (at_builtin; refine wpList_join rfl (.tmp 17) (.tmp 18) 23 rfl w.heap.size 9 it (.string ⟨#[]⟩) 16 Try.underlying23 hti htz ht1 ht2 rfl _ 0 _ _ rfl hr1 _ _ _ p.length (Nat.zero_add _) rfl (p.map Value.string) HML.out hpos hc0 HONE.out hb1' hb2' (by simp) ?_; intro a2 c2 w2 o2 g2)
  rw [List.nil_append] at o2
  obtain ⟨G, cc, hv, hG1, hG2⟩ := ownsRow_some o2 hpos
  simp only [Value.slice.injEq] at hv
  obtain ⟨rfl, _, rfl⟩ := hv
  have hB2 : Below w.heap.size w w2 := hb0.trans (below_of_grownBy g2 (by simp) (fun k hk => by simp only [Value.ownBlock, Option.some.injEq] at hk; omega))
  clear g2 hc0 hr1 hb0
  have o3 : w2.ownsRow w.heap.size 9 1 (.slice (some ⟨G, 0, none⟩) p.length c2) p.length ((matB p.length (wideB p) (st row)).map Value.string) := by
    have : matB p.length (wideB p) (st row) = p := by
      rw [HST.out]
      conv => rhs; rw [HTX.out]
      refine matB_congr fun i j _ _ => ?_
      have : inB row col (row - row) wi i j = false := by unfold inB; rw [decide_eq_false]; omega
      simp only [this]
      rfl
    rw [this]; exact o2
  clear o2
  go_loopw [14] (fun vi wr => ∃ (i : Nat), row ≤ i ∧ i ≤ row + hi ∧ vi = .int .i64 i ∧ wr.ownsRow w.heap.size 9 1 (.slice (some ⟨G, 0, none⟩) p.length c2) p.length ((matB p.length (wideB p) (st i)).map Value.string) ∧ Below w.heap.size w wr) (fun vi _ => row + hi - (intOf vi).toNat)
  case atStart => exact ⟨row, Nat.le_refl _, by omega, rfl, o3, hB2⟩
  case round =>
    clear o3 hB2
    obtain ⟨i, hi1, hi2, rfl, o, hB⟩ := hrel
    by_cases hlt : i < row + hi
    · have hin : i < p.length := by omega
      have hcell := o.cellAt i (by rw [Nat.mul_one]; exact hin)
      obtain ⟨S, hS⟩ : ∃ S : ByteArray, S = ⟨(rowM (wideB p) b i).toArray⟩ := ⟨_, rfl⟩
      have hSl : S.data.toList = rowM (wideB p) b i := by rw [hS]
      have hSs : S.size = wideB p := by rw [← size_list, hSl]; exact rowM_len _ _ _
      have hrowi : ((matB p.length (wideB p) (st i)).map Value.string)[i]? = some (.string S) := by
        rw [List.getElem?_map, List.getElem?_eq_getElem (by rw [matB_len]; exact hin), matB_at, HST.out, hS]
        rw [rowM_congr (b' := b) (i' := i) fun j _ => by
          have : inB row col (i - row) wi i j = false := by unfold inB; rw [decide_eq_false]; omega
          simp only [this]; rfl]
        rfl
      rw [hrowi] at hcell
      have hfz := o.frozenAt i
      have HSL := Lib.hid hSl
      have HSS := Lib.hid hSs
      clear hrowi hS hSl hSs
      go_wp2_with (refine wpList_bytes_of_str rfl 9 22 5 _ rfl Try.underlying9 Try.underlying22 Try.underlying5 S rfl ?_; intro cap3 r3 W3 hcap3 hM3 hsz3 hb3)
      rw [HSL.out] at hM3
      rw [HSS.out] at hcap3 ⊢
      obtain ⟨B, hBe⟩ : ∃ B, wr.heap.size = B := ⟨_, rfl⟩
      have hBG : B ≠ G := by have := (owns_lt o _ rfl).2; show B ≠ G; have h : (⟨G, 0, none⟩ : Addr).block = G := rfl; omega
      have o3 := ownsRow_below o hb3
      have hB3 : Below w.heap.size w W3 := below_step hB hB.size hb3
      have hBw : w.heap.size ≤ B := by have := hB.size; omega
      rw [hBe] at hM3 ⊢
      clear o hB hb3 hcell hfz hsz3 hBe
      go_loopw [16] (fun vk wq => ∃ (k : Nat), col ≤ k ∧ k ≤ col + wi ∧ vk = .int .i64 k ∧ HeldM wq B 5 ((rowM (wideB p) (fun a j => if col ≤ j ∧ j < k then c else b a j) i).map byteV ++ r3).toArray (cap3, cap3 + 1) ∧
        wq.ownsRow w.heap.size 9 1 (.slice (some ⟨G, 0, none⟩) p.length c2) p.length ((matB p.length (wideB p) (st i)).map Value.string) ∧ Below w.heap.size w wq) (fun vk _ => col + wi - (intOf vk).toNat)
      case atStart =>
        refine ⟨col, Nat.le_refl _, by omega, rfl, ?_, o3, hB3⟩
        rw [rowM_congr (b' := b) (i' := i) fun j _ => by rw [if_neg (by omega)]]
        exact hM3
      case round =>
        clear hM3 o3 hB3
        obtain ⟨k, hk1, hk2, rfl, hM, o, hB⟩ := hrel
        have hap : Value.ownBlock (.slice (some ⟨G, 0, none⟩) p.length c2) ≠ some B := by simp only [Value.ownBlock, ne_eq, Option.some.injEq]; exact fun e => hBG e.symm
        by_cases hkl : k < col + wi
        · have hkw : k < wideB p := by omega
          have hfk : wr.frozen? ⟨B, k, none⟩ = false := hM.frozen (by omega)
          have hck := hM.bytes _ _ rfl k (byteV (if col ≤ k ∧ k < k then c else b i k)) (by rw [List.getElem?_map, List.getElem?_eq_getElem (by rw [rowM_len]; exact hkw), rowM_at]; rfl)
          obtain ⟨B', off', he', hck⟩ := hck
          simp only [Option.some.injEq, Addr.mk.injEq, and_true] at he'
          obtain ⟨rfl, rfl⟩ := he'
          rw [Nat.zero_add] at hck
          have hM2 := hM.set k (.int .u8 c.toNat)
          rw [show (Value.int .u8 c.toNat) = byteV c from rfl, set_bytes (by rw [rowM_len]; exact hkw), rowM_set (b' := fun a j => if col ≤ j ∧ j < k + 1 then c else b a j) (by rw [if_pos ⟨by omega, by omega⟩]) (fun a _ ha => by
            by_cases h : col ≤ a ∧ a < k
            · rw [if_pos h, if_pos ⟨h.1, by omega⟩]
            · rw [if_neg h, if_neg (by omega)])] at hM2
          have HM2 := Lib.hid hM2
          have o2 := ownsRow_setCell_other (a := ⟨B, k, none⟩) o hap (.int .u8 c.toNat)
          have hB2 := hB.setCell (p := ⟨B, k, none⟩) hBw (.int .u8 c.toNat)
          clear hM hM2 hB o
          generalize byteV (if col ≤ k ∧ k < k then c else b i k) = old at *
          go_wp2
          go_roundw
          case rel => exact ⟨k + 1, by omega, by omega, by go_num, HM2.out, o2, hB2⟩
          case measure => simp [intOf]; omega
        · obtain rfl : k = col + wi := by omega
          have hcs := hM.bytes _ _ rfl
          have hcell := o.cellAt i (by rw [Nat.mul_one]; exact hin)
          rw [List.getElem?_map, List.getElem?_eq_getElem (by rw [matB_len]; exact hin), matB_at, Option.map_some] at hcell
          have hfz := o.frozenAt i
          have hst2 := (o.stored i (.string ⟨(rowM (wideB p) (fun a j => if col ≤ j ∧ j < col + wi then c else b a j) i).toArray⟩)).1
          have hse : rowM (wideB p) (fun a j => if col ≤ j ∧ j < col + wi then c else b a j) i = rowM (wideB p) (st (i + 1)) i := by
            rw [HST.out]
            refine rowM_congr fun j _ => ?_
            by_cases h : col ≤ j ∧ j < col + wi
            · have : inB row col (i + 1 - row) wi i j = true := by unfold inB; rw [decide_eq_true]; omega
              simp only [this, if_pos h]; rfl
            · have : inB row col (i + 1 - row) wi i j = false := by unfold inB; rw [decide_eq_false]; omega
              simp only [this, if_neg h]; rfl
          have hmm : ((matB p.length (wideB p) (st i)).map Value.string).set i (.string ⟨(rowM (wideB p) (fun a j => if col ≤ j ∧ j < col + wi then c else b a j) i).toArray⟩) = (matB p.length (wideB p) (st (i + 1))).map Value.string := by
            rw [hse, ← matB_set (b := st i) (b' := st (i + 1)) (i := i) (fun a j _ _ ha => by
              rw [HST.out]
              by_cases h : inB row col (i - row) wi a j = true
              · have : inB row col (i + 1 - row) wi a j = true := by rw [inB_iff] at *; unfold InR at *; omega
                simp only [this, h]
              · have : inB row col (i + 1 - row) wi a j = false := by
                  cases hh : inB row col (i + 1 - row) wi a j
                  · rfl
                  · exfalso; rw [inB_iff] at *; unfold InR at *; omega
                simp only [this]
                rw [if_neg h]; rfl)]
            rw [List.map_set]
          rw [hmm] at hst2
          have hB2 := hB.setCell (p := ⟨G, i, none⟩) hG1 (.string ⟨(rowM (wideB p) (fun a j => if col ≤ j ∧ j < col + wi then c else b a j) i).toArray⟩)
          have HRL := Lib.hid (rowM_len (wideB p) (fun a j => if col ≤ j ∧ j < col + wi then c else b a j) i)
          generalize rowM (wideB p) (fun a j => if col ≤ j ∧ j < col + wi then c else b a j) i = L at *
          generalize rowM (wideB p) (st i) i = old at *
          clear hM hB o hse hmm
          go_wp2_with (refine wpList_str_of_bytes _ rfl 22 9 5 _ rfl Try.underlying22 Try.underlying5 Try.underlying9 (some ⟨B, 0, none⟩) _ cap3 rfl L HRL.out hcs ?_)
          go_roundw
          case rel => exact ⟨i + 1, by omega, by omega, by go_num, hst2, hB2⟩
          case measure => simp [intOf]; omega
    · obtain rfl : i = row + hi := by omega
      have HF := Lib.hid (show matB p.length (wideB p) (st (row + hi)) = putB p row col hi wi c by rw [HPUT.out, HST.out]; show matB _ _ (fun a j => if inB row col (row + hi - row) wi a j then c else b a j) = _; rw [Nat.add_sub_cancel_left])
      go_wp2
      go_ret
      exact ⟨_, _, rfl, by rw [← HF.out]; exact o, hB⟩

end Go.Proofs.Ytpgcpmfemcfoaaa

/-
  The program makes two rooms one. (Walks.)
-/
namespace Go.Proofs.Ytpgcpmfemcfoaaa
open Go.RowKit

/-- whether a number is that of one of so many rooms -/
def hasB (r : Nat) (room : Int) : Bool := decide (0 ≤ room) && decide (room < (r : Int))
theorem hasB_iff {r : Nat} {room : Int} : hasB r room = true ↔ 0 ≤ room ∧ room < (r : Int) := by unfold hasB; simp

/-- marks with one room's number for another's -/
def mergeM (g : Nat → Nat → Nat) (a b i j : Nat) : Nat := if g i j = b then a else g i j
theorem mergeM_yes {g : Nat → Nat → Nat} {a b i j : Nat} (h : g i j = b) : mergeM g a b i j = a := if_pos h
theorem mergeM_no {g : Nat → Nat → Nat} {a b i j : Nat} (h : ¬ g i j = b) : mergeM g a b i j = g i j := if_neg h

/-- whether two numbers are those of two rooms -/
def twoB (r : Nat) (a b : Int) : Bool := !(a == b) && (hasB r a && hasB r b)

end Go.Proofs.Ytpgcpmfemcfoaaa

/-
  Two rooms made one: the model's answer and the program's. (Walks.)
-/
namespace Go.Proofs.Ytpgcpmfemcfoaaa
open Go.RowKit

/-- texts with a letter written into a room -/
def putRoom (p : List ByteArray) (r : Int) (c : UInt8) : List ByteArray :=
  putB p (boxB p r).top.toNat (boxB p r).left.toNat ((boxB p r).low - (boxB p r).top + 1).toNat ((boxB p r).right - (boxB p r).left + 1).toNat c

theorem given_parts {p : List ByteArray} {room : Int} (h : givenB p room = true) : planB p = true ∧ 0 ≤ room ∧ room < (gridR p : Int) := by
  unfold givenB at h
  rw [Bool.and_eq_true] at h
  have hr := (planP_of h.1).rooms
  have h2 : 0 ≤ room ∧ room ≤ roomsB p - 1 := by have := h.2; unfold l6B at this; exact of_decide_eq_true this
  exact ⟨h.1, h2.1, by omega⟩
theorem given_has {p : List ByteArray} {room : Int} (h : planB p = true) : givenB p room = hasB (gridR p) room := by
  have hr := (planP_of h).rooms
  unfold givenB l6B hasB
  rw [h, Bool.true_and, hr, ← Bool.decide_and]
  congr 1
  rw [eq_iff_iff]
  omega
/-- the box of a room -/
theorem given_box {p : List ByteArray} {r : Nat} (h : planB p = true) (hr : r < gridR p) : ∃ x, BoxOf p r x ∧ boxB p (r : Int) = ⟨x.row, x.col, (x.row + x.high - 1 : Nat), (x.col + x.wide - 1 : Nat)⟩ := by
  have hp := planP_of h
  obtain ⟨x, _, hx⟩ := hp.boxes.2 r hr
  exact ⟨x, hx, boxB_box hp hx⟩

theorem put_rows {p : List ByteArray} {row col hi wi : Nat} {c : Nat} (hp : GridP p) : putB p row col hi wi (UInt8.ofNat (97 + c)) = rowsT p.length (wideB p) (fun i j => if inB row col hi wi i j then c else markN p i j) := by
  unfold putB
  refine mat_rows fun i j hi hj => ?_
  unfold putF
  cases inB row col _ _ i j
  · exact hp.letter hi hj
  · rfl

theorem merge_math {p : List ByteArray} {a b : Nat} (h : planB p = true) (ha : a < gridR p) (hb : b < gridR p) :
    doneB (putRoom p (b : Int) (UInt8.ofNat (97 + a))) = drawOk p.length (wideB p) (mergeM (gridG p) a b) ∧
    orNone (doneB (putRoom p (b : Int) (UInt8.ofNat (97 + a)))) (namesB (putRoom p (b : Int) (UInt8.ofNat (97 + a)))) = orNone (drawOk p.length (wideB p) (mergeM (gridG p) a b)) (rowsT p.length (wideB p) (renG p.length (wideB p) (mergeM (gridG p) a b))) := by
  have hp := planP_of h
  obtain ⟨x, hx, hbx⟩ := given_box h hb
  obtain ⟨_, x1, x2, x3, x4, x5⟩ := hx
  unfold putRoom
  rw [hbx]
  simp only [Int.toNat_natCast]
  rw [show (((x.row + x.high - 1 : Nat) : Int) - (x.row : Int) + 1).toNat = x.high by omega, show (((x.col + x.wide - 1 : Nat) : Int) - (x.col : Int) + 1).toNat = x.wide by omega, put_rows hp.grid]
  refine same_rows hp.grid.h1 hp.grid.w1 (fun i j hi hj => ?_) (sameG_of_eq fun i j hi hj => ?_)
  · have := hp.few
    split
    · omega
    · exact markN_lt p i j
  · have h5 := x5 i j hi hj
    have hm := hp.mark i j hi hj
    unfold mergeM
    rw [← hm]
    by_cases hin : inB x.row x.col x.high x.wide i j = true
    · rw [if_pos hin, if_pos (h5.2 (inB_iff.1 hin))]
    · rw [if_neg hin, if_neg (fun e => hin (inB_iff.2 (h5.1 e)))]

def mergeOk (p : List ByteArray) (a b : Int) : Bool := givenB p a && (givenB p b && (!(a == b) && doneB (putRoom p b (UInt8.ofNat (97 + a.toNat)))))
def mergeT (p : List ByteArray) (a b : Int) : List ByteArray := namesB (putRoom p b (UInt8.ofNat (97 + a.toNat)))
theorem merge_few (p : List ByteArray) (a b : Int) : (orNone (mergeOk p a b) (mergeT p a b)).length ≤ 1048576 := by
  cases h : mergeOk p a b
  · rw [orNone_no rfl]; exact Nat.zero_le _
  · unfold mergeOk at h
    simp only [Bool.and_eq_true] at h
    have := names_few (putRoom p b (UInt8.ofNat (97 + a.toNat)))
    rw [h.2.2.2] at this
    exact this

end Go.Proofs.Ytpgcpmfemcfoaaa

/-
  The program cuts a room. (Walks.)
-/
namespace Go.Proofs.Ytpgcpmfemcfoaaa
open Go.RowKit

def boxC (row col hi wi : Nat) : Array Value := #[.int .i64 row, .int .i64 col, .int .i64 hi, .int .i64 wi]

/-- rows and columns of a part -/
structure Pt where
  row : Nat
  col : Nat
  high : Nat
  wide : Nat
/-- marks with a part apart -/
def splitM (g : Nat → Nat → Nat) (y : Pt) (i j : Nat) : Nat := if inB y.row y.col y.high y.wide i j then 9 else g i j

/-- the part of a box ahead of a cut -/
def isH (letter : ByteArray) : Bool := letter.toList == [104]
def isV (letter : ByteArray) : Bool := letter.toList == [118]
def cutB (is : Bool) (k : Int) (n : Nat) : Bool := is && (decide (1 ≤ k) && decide (k < (n : Int)))
def partB (x : Bx) (letter : ByteArray) (k : Int) : Option Pt :=
  if cutB (isH letter) k x.high then some ⟨x.row, x.col, k.toNat, x.wide⟩
  else if cutB (isV letter) k x.wide then some ⟨x.row, x.col, x.high, k.toNat⟩
  else none
def splitC (h wd : Nat) (g : Nat → Nat → Nat) (o : Option Pt) : Array Value := match o with | some y => drawC h wd (splitM g y) | none => zeroC
def splitOk (h wd : Nat) (g : Nat → Nat → Nat) (o : Option Pt) : Bool := match o with | some y => drawOk h wd (splitM g y) | none => false
theorem cutB_yes {is : Bool} {k : Int} {n : Nat} (h : cutB is k n = true) : is = true ∧ 1 ≤ k ∧ k < (n : Int) := by
  unfold cutB at h
  simpa using h
theorem cutB_why {is : Bool} {k : Int} {n : Nat} (h : cutB is k n = false) : is = false ∨ (is = true ∧ decide (1 ≤ k) = false) ∨ (is = true ∧ decide (1 ≤ k) = true ∧ decide (k < (n : Int)) = false) := by
  unfold cutB at h
  cases is
  · exact .inl rfl
  · right
    cases h1 : decide (1 ≤ k)
    · exact .inl ⟨rfl, rfl⟩
    · rw [h1] at h
      exact .inr ⟨rfl, rfl, by simpa using h⟩

theorem found_one (o : Option Bx) : (foundC o).all (·.oneCell') = true := by
  rw [Array.all_eq_true_iff_forall_mem]
  intro v hv
  cases o <;> simp [foundC] at hv <;> rcases hv with rfl | rfl | rfl | rfl <;> rfl
theorem boxC_one (a b c d : Nat) : (boxC a b c d).all (·.oneCell') = true := by
  rw [Array.all_eq_true_iff_forall_mem]
  intro v hv
  simp [boxC] at hv
  rcases hv with rfl | rfl | rfl | rfl <;> rfl
theorem isV_not {letter : ByteArray} (h : isV letter = true) : isH letter = false := by
  unfold isV at h
  unfold isH
  rw [beq_iff_eq] at h
  rw [h]
  rfl
theorem isH_not {letter : ByteArray} (h : isH letter = true) : isV letter = false := by
  unfold isH at h
  unfold isV
  rw [beq_iff_eq] at h
  rw [h]
  rfl
def zeroB : Array Value := #[.int .i64 0, .int .i64 0, .int .i64 0, .int .i64 0]

/-- the part of a room ahead of a cut, if there are both -/
def cutOf (h wd : Nat) (g : Nat → Nat → Nat) (room : Int) (letter : ByteArray) (k : Int) : Option Pt := (findB (scanB h wd g (h * wd)) room).bind fun x => partB x letter k

theorem splitC_39 (h wd : Nat) (g : Nat → Nat → Nat) (o : Option Pt) : (splitC h wd g o).size = 39 := by
  cases o
  · exact planC_size 0 0 0 (fun _ _ => 0)
  · exact drawC_39 _ _ _
theorem splitC_size (h wd : Nat) (g : Nat → Nat → Nat) (o : Option Pt) : (Try.prog.info? 47).map (·.size) = some (splitC h wd g o).size := by rw [splitC_39]; kernel_rfl
theorem splitC_one (h wd : Nat) (g : Nat → Nat → Nat) (o : Option Pt) : (splitC h wd g o).all (·.oneCell') = true := by
  cases o
  · exact planC_one 0 0 0 (fun _ _ => 0)
  · exact drawC_one _ _ _

end Go.Proofs.Ytpgcpmfemcfoaaa

/-
  A room cut in two: the model's answer and the program's. (Walks.)
-/
namespace Go.Proofs.Ytpgcpmfemcfoaaa
open Go.RowKit

theorem find_box {p : List ByteArray} (h : planB p = true) {r : Nat} (hr : r < gridR p) : ∃ x, findB (scanB p.length (wideB p) (gridG p) (p.length * wideB p)) (r : Int) = some x ∧ BoxOf p r x := by
  have hp := planP_of h
  obtain ⟨hlen, hbox⟩ := hp.boxes
  generalize scanB p.length (wideB p) (gridG p) (p.length * wideB p) = L at *
  obtain ⟨x, hL, hx⟩ := hbox r hr
  refine ⟨x, ?_, hx⟩
  have hrl : r < L.length := by omega
  have hsplit : L = L.take r ++ [x] ++ L.drop (r + 1) := by
    have := List.take_append_drop (r + 1) L
    rw [List.take_succ_eq_append_getElem hrl] at this
    have he : L[r] = x := by rw [List.getElem?_eq_getElem hrl] at hL; exact Option.some.inj hL
    rw [he] at this
    exact this.symm
  rw [hsplit]
  refine findB_some (fun y hy => ?_) (by rw [hx.1])
  obtain ⟨s, hs, rfl⟩ := List.getElem_of_mem hy
  rw [List.length_take] at hs
  obtain ⟨z, hz, hzb⟩ := hbox s (by omega)
  have he : (L.take r)[s]'(by rw [List.length_take]; omega) = z := by
    rw [List.getElem_take]
    rw [List.getElem?_eq_getElem (show s < L.length by omega)] at hz
    exact Option.some.inj hz
  rw [he, hzb.1]
  omega

theorem find_none {p : List ByteArray} {room : Int} (h : planB p = true) (hg : givenB p room = false) : findB (scanB p.length (wideB p) (gridG p) (p.length * wideB p)) room = none := by
  have := (room_found h room).1
  rw [hg] at this
  cases hf : findB (scanB p.length (wideB p) (gridG p) (p.length * wideB p)) room
  · rfl
  · rw [hf] at this; cases this

/-- a part set apart, and the rest of its room set apart: the same partition -/
theorem same_part {h wd r n : Nat} {f : Nat → Nat → Nat} {s t : Nat → Nat → Bool} (hf : ∀ i j, i < h → j < wd → f i j < n) (hn : n ≤ 9) (hst : ∀ i j, i < h → j < wd → (f i j = r ↔ s i j = true ∨ t i j = true)) (hd : ∀ i j, ¬ (s i j = true ∧ t i j = true)) :
    SameG h wd (fun i j => if t i j then 25 else f i j) (fun i j => if s i j then 9 else f i j) := by
  intro i j i' j' hi hj hi' hj'
  have a1 := hf i j hi hj
  have a2 := hf i' j' hi' hj'
  have b1 := hst i j hi hj
  have b2 := hst i' j' hi' hj'
  have d1 := hd i j
  have d2 := hd i' j'
  show ((if s i' j' = true then 9 else f i' j') = (if s i j = true then 9 else f i j)) ↔ ((if t i' j' = true then 25 else f i' j') = (if t i j = true then 25 else f i j))
  generalize f i j = u at *
  generalize f i' j' = u' at *
  by_cases e1 : s i j = true <;> by_cases e2 : t i j = true <;> by_cases e3 : s i' j' = true <;> by_cases e4 : t i' j' = true <;>
    simp only [e1, e2, e3, e4, if_true, if_false, or_self, or_true, true_or, and_self, and_true, true_and, not_true, not_false_iff, iff_true, iff_false, true_iff, Bool.false_eq_true] at b1 b2 d1 d2 ⊢ <;> omega

def topN (p : List ByteArray) (r : Int) : Nat := (boxB p r).top.toNat
def leftN (p : List ByteArray) (r : Int) : Nat := (boxB p r).left.toNat
def highN (p : List ByteArray) (r : Int) : Nat := ((boxB p r).low - (boxB p r).top + 1).toNat
def wideN (p : List ByteArray) (r : Int) : Nat := ((boxB p r).right - (boxB p r).left + 1).toNat

/-- the texts with the last part of a cut room set apart -/
def splitT (p : List ByteArray) (room : Int) (letter : ByteArray) (k : Int) : Option (List ByteArray) :=
  if givenB p room then
    if cutB (isH letter) k (highN p room) then some (putB p (topN p room + k.toNat) (leftN p room) (highN p room - k.toNat) (wideN p room) (UInt8.ofNat (97 + 25)))
    else if cutB (isV letter) k (wideN p room) then some (putB p (topN p room) (leftN p room + k.toNat) (highN p room) (wideN p room - k.toNat) (UInt8.ofNat (97 + 25)))
    else none
  else none
def doneO (o : Option (List ByteArray)) : Bool := match o with | some T => doneB T | none => false
def namesO (o : Option (List ByteArray)) : List ByteArray := match o with | some T => orNone (doneB T) (namesB T) | none => []
def splitG (h wd : Nat) (g : Nat → Nat → Nat) (o : Option Pt) : Nat → Nat → Nat := match o with | some y => renG h wd (splitM g y) | none => fun _ _ => 0
def splitR (h wd : Nat) (g : Nat → Nat → Nat) (o : Option Pt) : Nat := match o with | some y => (markF h wd (splitM g y)).length | none => 0

theorem splitC_ok {h wd : Nat} {g : Nat → Nat → Nat} {o : Option Pt} (hd : splitOk h wd g o = true) : splitC h wd g o = planC h wd (splitR h wd g o) (splitG h wd g o) ∧ h ≤ 6 ∧ wd ≤ 6 ∧ ∀ i j, splitG h wd g o i j ≤ 100 := by
  cases o
  · cases hd
  · exact drawC_ok hd

theorem namesO_few (o : Option (List ByteArray)) : (namesO o).length ≤ 1048576 := by
  cases o
  · exact Nat.zero_le _
  · exact names_few _

/-- a part is set apart: just as the program sets apart the other one -/
theorem part_math {p : List ByteArray} {r row col hi wi : Nat} {y : Pt} (h : planB p = true) (hst : ∀ i j, i < p.length → j < wideB p → (markN p i j = r ↔ InR y.row y.col y.high y.wide i j ∨ InR row col hi wi i j))
    (hd : ∀ i j, ¬ (InR y.row y.col y.high y.wide i j ∧ InR row col hi wi i j)) :
    doneB (putB p row col hi wi (UInt8.ofNat (97 + 25))) = drawOk p.length (wideB p) (splitM (gridG p) y) ∧
    orNone (doneB (putB p row col hi wi (UInt8.ofNat (97 + 25)))) (namesB (putB p row col hi wi (UInt8.ofNat (97 + 25)))) = orNone (drawOk p.length (wideB p) (splitM (gridG p) y)) (rowsT p.length (wideB p) (renG p.length (wideB p) (splitM (gridG p) y))) := by
  have hp := planP_of h
  have hrow : putB p row col hi wi (UInt8.ofNat (97 + 25)) = rowsT p.length (wideB p) (fun i j => if inB row col hi wi i j then 25 else gridG p i j) := by
    rw [put_rows hp.grid]
    exact rowsT_congr fun i j hi hj => by rw [hp.mark i j hi hj]
  rw [hrow]
  refine same_rows hp.grid.h1 hp.grid.w1 (fun i j hi hj => ?_) ?_
  · split
    · omega
    · have := gridG_lt (p := p) hi hj
      have := hp.few
      omega
  · exact same_part (s := fun i j => inB y.row y.col y.high y.wide i j) (t := fun i j => inB row col hi wi i j) (fun i j hi hj => gridG_lt (p := p) hi hj) hp.few
      (fun i j hi hj => by rw [← hp.mark i j hi hj, hst i j hi hj, inB_iff, inB_iff]) (fun i j => by rw [inB_iff, inB_iff]; exact hd i j)

theorem split_math {p : List ByteArray} (h : planB p = true) (room : Int) (letter : ByteArray) (k : Int) :
    doneO (splitT p room letter k) = splitOk p.length (wideB p) (gridG p) (cutOf p.length (wideB p) (gridG p) room letter k) ∧
    namesO (splitT p room letter k) = orNone (splitOk p.length (wideB p) (gridG p) (cutOf p.length (wideB p) (gridG p) room letter k)) (rowsT p.length (wideB p) (splitG p.length (wideB p) (gridG p) (cutOf p.length (wideB p) (gridG p) room letter k))) := by
  have hp := planP_of h
  unfold cutOf splitT
  cases hg : givenB p room
  · rw [find_none h hg]
    exact ⟨rfl, rfl⟩
  · obtain ⟨_, h0, h1⟩ := given_parts hg
    obtain ⟨r, rfl⟩ : ∃ r : Nat, room = (r : Int) := ⟨room.toNat, by omega⟩
    obtain ⟨x, hf, hx⟩ := find_box h (show r < gridR p by omega)
    have hb := boxB_box hp hx
    obtain ⟨_, x1, x2, x3, x4, x5⟩ := hx
    have e1 : topN p (r : Int) = x.row := by unfold topN; rw [hb]; simp
    have e2 : leftN p (r : Int) = x.col := by unfold leftN; rw [hb]; simp
    have e3 : highN p (r : Int) = x.high := by unfold highN; rw [hb]; simp only; omega
    have e4 : wideN p (r : Int) = x.wide := by unfold wideN; rw [hb]; simp only; omega
    rw [hf, e1, e2, e3, e4]
    show doneO (if true = true then _ else _) = splitOk _ _ _ (partB x letter k) ∧ namesO (if true = true then _ else _) = orNone (splitOk _ _ _ (partB x letter k)) (rowsT _ _ (splitG _ _ _ (partB x letter k)))
    rw [if_pos rfl]
    unfold partB
    cases hH : cutB (isH letter) k x.high
    · cases hV : cutB (isV letter) k x.wide
      · exact ⟨rfl, rfl⟩
      · obtain ⟨_, q2, q3⟩ := cutB_yes hV
        refine part_math (r := r) (y := ⟨x.row, x.col, x.high, k.toNat⟩) h (fun i j hi hj => ?_) (fun i j => ?_)
        · rw [x5 i j hi hj]; unfold InR; show _ ↔ (x.row ≤ i ∧ i < x.row + x.high ∧ x.col ≤ j ∧ j < x.col + k.toNat) ∨ _; omega
        · unfold InR; show ¬ ((x.row ≤ i ∧ i < x.row + x.high ∧ x.col ≤ j ∧ j < x.col + k.toNat) ∧ _); omega
    · obtain ⟨_, q2, q3⟩ := cutB_yes hH
      refine part_math (r := r) (y := ⟨x.row, x.col, k.toNat, x.wide⟩) h (fun i j hi hj => ?_) (fun i j => ?_)
      · rw [x5 i j hi hj]; unfold InR; show _ ↔ (x.row ≤ i ∧ i < x.row + k.toNat ∧ x.col ≤ j ∧ j < x.col + x.wide) ∨ _; omega
      · unfold InR; show ¬ ((x.row ≤ i ∧ i < x.row + k.toNat ∧ x.col ≤ j ∧ j < x.col + x.wide) ∧ _); omega

theorem cut_l6 (is : Bool) (k : Int) (n : Nat) : cutB is k n = (is && l6B k 1 ((n : Int) - 1)) := by
  unfold cutB l6B
  congr 1
  rw [← Bool.decide_and]
  congr 1
  rw [eq_iff_iff]
  omega

set_option maxHeartbeats 2000000 in
theorem specSplit_any (ao : Option Addr) (cap : Nat) (p : List ByteArray) (room k : Int) (letter : ByteArray) (w : World) (hl : p.length ≤ 1048576) (hs : ∀ s ∈ p, s.size ≤ 1048576) (hc : CellsAt w ao (p.map Value.string)) :
    Calls Try.prog 136 #[.slice ao p.length cap, .int .i64 room, .string letter, .int .i64 k] w fun e w' => TextsRet w.heap.size (namesO (splitT p room letter k)) (doneO (splitT p room letter k)) e w' ∧ Below w.heap.size w w' := by
  unfold splitT
  cases hg : givenB p room
  · show Calls _ _ _ _ fun e w' => TextsRet _ [] false e w' ∧ _
    go_enter Try.func136, Try.ntmps136
    go_wp2_with (first
      | (go_at_call 144; refine (l1Given_any _ _ _ _ _ hl hs hc).mono ?_; rw [hg]; rintro e w1 ⟨rfl, hb1⟩)
      | (go_at_call 145; refine (l1None_any _).mono ?_; rintro e w2 ⟨⟨ro, rc, rfl, hown2⟩, hb2⟩))
    go_ret2
    exact ⟨⟨_, _, rfl, ownsRow_base hown2 hb1.size⟩, below_step hb1 hb1.size hb2⟩
  · obtain ⟨h, h0, h1⟩ := given_parts hg
    have hp := planP_of h
    obtain ⟨r, rfl⟩ : ∃ r : Nat, room = (r : Int) := ⟨room.toNat, by omega⟩
    obtain ⟨x, _, hx⟩ := hp.boxes.2 r (by omega)
    have hb := boxB_box hp hx
    obtain ⟨_, x1, x2, x3, x4, x5⟩ := hx
    have e1 : topN p (r : Int) = x.row := by unfold topN; rw [hb]; simp
    have e2 : leftN p (r : Int) = x.col := by unfold leftN; rw [hb]; simp
    have e3 : highN p (r : Int) = x.high := by unfold highN; rw [hb]; simp only; omega
    have e4 : wideN p (r : Int) = x.wide := by unfold wideN; rw [hb]; simp only; omega
    rw [e1, e2, e3, e4, if_pos rfl, cut_l6, cut_l6]
    clear e1 e2 e3 e4
    have p1 := hp.grid.h1; have p6 := hp.grid.h6; have pw6 := hp.grid.w6
    have HEV := Lib.hid hp.grid.even
    have HRM := Lib.hid (fun (ao : Option Addr) (cap : Nat) (w : World) (h : CellsAt w ao (p.map Value.string)) => by
      have := l1Room_any ao cap p (r : Int) w (by omega) hl hs h
      rw [hb] at this
      simp only [show ((x.row + x.high - 1 : Nat) : Int) - (x.row : Int) + 1 = (x.high : Int) by omega, show ((x.col + x.wide - 1 : Nat) : Int) - (x.col : Int) + 1 = (x.wide : Int) by omega] at this
      exact this)
    clear hb x5 hp h
    cases hH : isH letter
    · cases hV : isV letter
      · show Calls _ _ _ _ fun e w' => TextsRet _ [] false e w' ∧ _
        unfold isH at hH; unfold isV at hV
        go_enter Try.func136, Try.ntmps136
        go_wp2_with fail
        refine (l1Given_any _ _ _ _ _ hl hs hc).mono ?_
        rw [hg]; rintro e w1 ⟨rfl, hb1⟩
        have hc1 := hc.below hb1
        go_wp2_with fail
        refine (HRM.out _ _ _ hc1).mono ?_
        rintro e w2 ⟨rfl, rfl⟩
        go_wp2_with fail
        refine (l1None_any _).mono ?_
        rintro e w4 ⟨⟨ro, rc, rfl, hown2⟩, hb2⟩
        go_wp2
        go_ret2
        exact ⟨⟨_, _, rfl, ownsRow_base hown2 hb1.size⟩, below_step hb1 hb1.size hb2⟩
      · unfold isH at hH; unfold isV at hV
        cases h6 : l6B k 1 ((x.wide : Int) - 1)
        · show Calls _ _ _ _ fun e w' => TextsRet _ [] false e w' ∧ _
          go_enter Try.func136, Try.ntmps136
          go_wp2_with fail
          refine (l1Given_any _ _ _ _ _ hl hs hc).mono ?_
          rw [hg]; rintro e w1 ⟨rfl, hb1⟩
          have hc1 := hc.below hb1
          go_wp2_with fail
          refine (HRM.out _ _ _ hc1).mono ?_
          rintro e w2 ⟨rfl, rfl⟩
          go_wp2_with fail
          refine (l6In_any _ _ _ _).mono ?_
          rw [h6]; rintro e w3 ⟨rfl, rfl⟩
          go_wp2_with fail
          refine (l1None_any _).mono ?_
          rintro e w4 ⟨⟨ro, rc, rfl, hown2⟩, hb2⟩
          go_wp2
          go_ret2
          exact ⟨⟨_, _, rfl, ownsRow_base hown2 hb1.size⟩, below_step hb1 hb1.size hb2⟩
        · have hk : 1 ≤ k ∧ k ≤ (x.wide : Int) - 1 := by unfold l6B at h6; exact of_decide_eq_true h6
          obtain ⟨n, rfl⟩ : ∃ n : Nat, k = (n : Int) := ⟨k.toNat, by omega⟩
          simp only [Int.toNat_natCast]
          have HLN := Lib.hid (show (putB p x.row (x.col + n) x.high (x.wide - n) (UInt8.ofNat (97 + 25))).length = p.length by unfold putB; rw [matB_len])
          have HSZ := Lib.hid (show ∀ s ∈ putB p x.row (x.col + n) x.high (x.wide - n) (UInt8.ofNat (97 + 25)), s.size ≤ 1048576 from fun s hs => by unfold putB at hs; rw [matB_size s hs]; omega)
          have HPU := Lib.hid (fun (ao : Option Addr) (cap : Nat) (w : World) (h : CellsAt w ao (p.map Value.string)) => by
            have := l1Put_any ao cap p (x.row) ((x.col + n)) (x.high) ((x.wide - n)) (UInt8.ofNat (97 + 25)) w p1 p6 pw6 HEV.out (by omega) (by omega) h
            rw [show ((UInt8.ofNat (97 + 25)).toNat : Int) = 122 from rfl, show ((x.col + n : Nat) : Int) = (x.col : Int) + (n : Int) from Int.natCast_add _ _, show ((x.wide - n : Nat) : Int) = (x.wide : Int) - (n : Int) by omega] at this
            exact this)
          have HDN := Lib.hid (fun (ao : Option Addr) (cap : Nat) (w : World) => l1Done_any ao cap p.length (putB p x.row (x.col + n) x.high (x.wide - n) (UInt8.ofNat (97 + 25))) w HLN.out (by rw [HLN.out]; omega) HSZ.out)
          show Calls _ _ _ _ fun e w' => TextsRet _ (orNone (doneB (putB p x.row (x.col + n) x.high (x.wide - n) (UInt8.ofNat (97 + 25)))) (namesB (putB p x.row (x.col + n) x.high (x.wide - n) (UInt8.ofNat (97 + 25))))) (doneB (putB p x.row (x.col + n) x.high (x.wide - n) (UInt8.ofNat (97 + 25)))) e w' ∧ _
          generalize putB p x.row (x.col + n) x.high (x.wide - n) (UInt8.ofNat (97 + 25)) = T at *
          go_enter Try.func136, Try.ntmps136
          go_wp2_with fail
          refine (l1Given_any _ _ _ _ _ hl hs hc).mono ?_
          rw [hg]; rintro e w1 ⟨rfl, hb1⟩
          have hc1 := hc.below hb1
          go_wp2_with fail
          refine (HRM.out _ _ _ hc1).mono ?_
          rintro e w2 ⟨rfl, rfl⟩
          go_wp2_with fail
          refine (l6In_any _ _ _ _).mono ?_
          rw [h6]; rintro e w3 ⟨rfl, rfl⟩
          go_wp2_with fail
          refine (HPU.out _ _ _ hc1).mono ?_
          rintro e w4 ⟨r4, c4, rfl, o4, b4⟩
          have hc4 := owns_cells o4
          go_wp2_with fail
          refine (HDN.out _ _ _ hc4).mono ?_
          rintro e w5 ⟨⟨r5, c5, rfl, o5⟩, b5⟩
          go_wp2
          have z4 := below_step hb1 hb1.size b4
          go_ret2
          exact ⟨⟨_, _, rfl, ownsRow_base o5 z4.size⟩, below_step z4 z4.size b5⟩
    · have hV := isH_not hH
      unfold isH at hH; unfold isV at hV
      cases h6 : l6B k 1 ((x.high : Int) - 1)
      · rw [show isV letter = false from hV]
        show Calls _ _ _ _ fun e w' => TextsRet _ [] false e w' ∧ _
        go_enter Try.func136, Try.ntmps136
        go_wp2_with fail
        refine (l1Given_any _ _ _ _ _ hl hs hc).mono ?_
        rw [hg]; rintro e w1 ⟨rfl, hb1⟩
        have hc1 := hc.below hb1
        go_wp2_with fail
        refine (HRM.out _ _ _ hc1).mono ?_
        rintro e w2 ⟨rfl, rfl⟩
        go_wp2_with fail
        refine (l6In_any _ _ _ _).mono ?_
        rw [h6]; rintro e w3 ⟨rfl, rfl⟩
        go_wp2_with fail
        refine (l1None_any _).mono ?_
        rintro e w4 ⟨⟨ro, rc, rfl, hown2⟩, hb2⟩
        go_wp2
        go_ret2
        exact ⟨⟨_, _, rfl, ownsRow_base hown2 hb1.size⟩, below_step hb1 hb1.size hb2⟩
      · have hk : 1 ≤ k ∧ k ≤ (x.high : Int) - 1 := by unfold l6B at h6; exact of_decide_eq_true h6
        obtain ⟨n, rfl⟩ : ∃ n : Nat, k = (n : Int) := ⟨k.toNat, by omega⟩
        simp only [Int.toNat_natCast]
        have HLN := Lib.hid (show (putB p (x.row + n) x.col (x.high - n) x.wide (UInt8.ofNat (97 + 25))).length = p.length by unfold putB; rw [matB_len])
        have HSZ := Lib.hid (show ∀ s ∈ putB p (x.row + n) x.col (x.high - n) x.wide (UInt8.ofNat (97 + 25)), s.size ≤ 1048576 from fun s hs => by unfold putB at hs; rw [matB_size s hs]; omega)
        have HPU := Lib.hid (fun (ao : Option Addr) (cap : Nat) (w : World) (h : CellsAt w ao (p.map Value.string)) => by
          have := l1Put_any ao cap p ((x.row + n)) (x.col) ((x.high - n)) (x.wide) (UInt8.ofNat (97 + 25)) w p1 p6 pw6 HEV.out (by omega) (by omega) h
          rw [show ((UInt8.ofNat (97 + 25)).toNat : Int) = 122 from rfl, show ((x.row + n : Nat) : Int) = (x.row : Int) + (n : Int) from Int.natCast_add _ _, show ((x.high - n : Nat) : Int) = (x.high : Int) - (n : Int) by omega] at this
          exact this)
        have HDN := Lib.hid (fun (ao : Option Addr) (cap : Nat) (w : World) => l1Done_any ao cap p.length (putB p (x.row + n) x.col (x.high - n) x.wide (UInt8.ofNat (97 + 25))) w HLN.out (by rw [HLN.out]; omega) HSZ.out)
        show Calls _ _ _ _ fun e w' => TextsRet _ (orNone (doneB (putB p (x.row + n) x.col (x.high - n) x.wide (UInt8.ofNat (97 + 25)))) (namesB (putB p (x.row + n) x.col (x.high - n) x.wide (UInt8.ofNat (97 + 25))))) (doneB (putB p (x.row + n) x.col (x.high - n) x.wide (UInt8.ofNat (97 + 25)))) e w' ∧ _
        generalize putB p (x.row + n) x.col (x.high - n) x.wide (UInt8.ofNat (97 + 25)) = T at *
        go_enter Try.func136, Try.ntmps136
        go_wp2_with fail
        refine (l1Given_any _ _ _ _ _ hl hs hc).mono ?_
        rw [hg]; rintro e w1 ⟨rfl, hb1⟩
        have hc1 := hc.below hb1
        go_wp2_with fail
        refine (HRM.out _ _ _ hc1).mono ?_
        rintro e w2 ⟨rfl, rfl⟩
        go_wp2_with fail
        refine (l6In_any _ _ _ _).mono ?_
        rw [h6]; rintro e w3 ⟨rfl, rfl⟩
        go_wp2_with fail
        refine (HPU.out _ _ _ hc1).mono ?_
        rintro e w4 ⟨r4, c4, rfl, o4, b4⟩
        have hc4 := owns_cells o4
        go_wp2_with fail
        refine (HDN.out _ _ _ hc4).mono ?_
        rintro e w5 ⟨⟨r5, c5, rfl, o5⟩, b5⟩
        go_wp2
        have z4 := below_step hb1 hb1.size b4
        go_ret2
        exact ⟨⟨_, _, rfl, ownsRow_base o5 z4.size⟩, below_step z4 z4.size b5⟩

end Go.Proofs.Ytpgcpmfemcfoaaa
