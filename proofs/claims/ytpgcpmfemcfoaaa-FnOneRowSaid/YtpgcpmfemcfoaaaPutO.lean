/-
  Merged texts: PutA ImplM MergeA ImplS SplitA.
-/
import Derived.Test.YtpgcpmfemcfoaaaTurnsO
import Derived.Test.YtpgcpmfemcfoaaaBytesO
import Derived.Test.YtpgcpmfemcfoaaaMathCEO
import Derived.Test.YtpgcpmfemcfoaaaImplKO

/-
  The model writes a letter into some rows and columns. (Walk.)
-/
namespace Go.Proofs.Ytpgcpmfemcfoaaa
open Go.RowKit

/-- whether a cell lies in a box -/
def inB (row col hi wi i j : Nat) : Bool := decide (row ≤ i ∧ i < row + hi ∧ col ≤ j ∧ j < col + wi)
theorem inB_iff {row col hi wi i j : Nat} : inB row col hi wi i j = true ↔ InR row col hi wi i j := by unfold inB InR; exact decide_eq_true_iff

/-- bytes with a letter written into a box -/
def putF (p : List ByteArray) (row col hi wi : Nat) (c : UInt8) (i j : Nat) : UInt8 := if inB row col hi wi i j then c else byteAt p i j
def putB (p : List ByteArray) (row col hi wi : Nat) (c : UInt8) : List ByteArray := matB p.length (wideB p) (putF p row col hi wi c)

theorem matB_at {n m : Nat} {b : Nat → Nat → UInt8} {i : Nat} (h : i < (matB n m b).length) : (matB n m b)[i] = ⟨(rowM m b i).toArray⟩ := by simp [matB]
theorem rowM_at {m : Nat} {b : Nat → Nat → UInt8} {i j : Nat} (h : j < (rowM m b i).length) : (rowM m b i)[j] = b i j := by simp [rowM]
theorem row_ext {p : List ByteArray} (he : Even p) {i : Nat} (hi : i < p.length) : (p.getD i ByteArray.empty).data.toList = rowM (wideB p) (byteAt p) i := by
  have hs := he i hi
  rw [← size_list] at hs
  apply List.ext_getElem
  · rw [rowM_len, hs]
  · intro j h1 h2
    rw [rowM_at]
    unfold byteAt
    generalize (p.getD i ByteArray.empty).data.toList = l at *
    rw [List.getD_eq_getElem?_getD, List.getElem?_eq_getElem h1]
    rfl
theorem text_mat {p : List ByteArray} (he : Even p) : p = matB p.length (wideB p) (byteAt p) := by
  apply List.ext_getElem
  · rw [matB_len]
  · intro i h1 h2
    rw [matB_at, ← row_ext he h1]
    simp [h1]
theorem rowM_congr {m : Nat} {b b' : Nat → Nat → UInt8} {i i' : Nat} (h : ∀ j, j < m → b i j = b' i' j) : rowM m b i = rowM m b' i' := by
  unfold rowM
  exact List.map_congr_left fun j hj => h j (List.mem_range.1 hj)
theorem matB_congr {n m : Nat} {b b' : Nat → Nat → UInt8} (h : ∀ i j, i < n → j < m → b i j = b' i j) : matB n m b = matB n m b' := by
  unfold matB
  refine List.map_congr_left fun i hi => ?_
  rw [rowM_congr fun j hj => h i j (List.mem_range.1 hi) hj]
theorem matB_set {n m : Nat} {b b' : Nat → Nat → UInt8} {i : Nat} (h : ∀ a j, a < n → j < m → a ≠ i → b a j = b' a j) : (matB n m b).set i ⟨(rowM m b' i).toArray⟩ = matB n m b' := by
  apply List.ext_getElem
  · simp [matB]
  · intro a h1 h2
    rw [List.getElem_set, matB_at, matB_at]
    split
    · rename_i he; subst he; rfl
    · rename_i he
      rw [rowM_congr fun j hj => h a j (by rw [matB_len] at h2; exact h2) hj (fun e => he e.symm)]
theorem rowM_set {m : Nat} {b b' : Nat → Nat → UInt8} {i j : Nat} {c : UInt8} (hc : b' i j = c) (h : ∀ a, a < m → a ≠ j → b i a = b' i a) : (rowM m b i).set j c = rowM m b' i := by
  subst hc
  apply List.ext_getElem
  · simp [rowM]
  · intro a h1 h2
    rw [List.getElem_set, rowM_at, rowM_at]
    split
    · rename_i he; subst he; rfl
    · rename_i he
      exact h a (by rw [rowM_len] at h2; exact h2) (fun e => he e.symm)

theorem set_bytes {L : List UInt8} {r : List Value} {k : Nat} {c : UInt8} (hk : k < L.length) : ((L.map byteV ++ r).toArray).setIfInBounds k (byteV c) = ((L.set k c).map byteV ++ r).toArray := by
  apply Array.ext'
  simp [hk, List.map_set]

set_option maxRecDepth 100000 in
set_option maxHeartbeats 2000000 in
theorem l1Put_any (ao : Option Addr) (cap : Nat) (p : List ByteArray) (row col hi wi : Nat) (c : UInt8) (w : World) (h1 : 1 ≤ p.length) (h6 : p.length ≤ 6) (w6 : wideB p ≤ 6) (he : Even p) (hr : row + hi ≤ p.length) (hcw : col + wi ≤ wideB p)
    (hc : CellsAt w ao (p.map Value.string)) :
    Calls Try.prog 128 #[.slice ao p.length cap, .int .i64 row, .int .i64 col, .int .i64 hi, .int .i64 wi, .int .u8 c.toNat] w
      fun e w' => ∃ ro rc, e = .returned (.slice ro p.length rc) ∧ w'.ownsRow w.heap.size 9 1 (.slice ro p.length rc) p.length ((putB p row col hi wi c).map Value.string) ∧ Below w.heap.size w w' := by
  obtain ⟨it, hti, htz, ht1, ht2⟩ := info_parts Try.infoText
  have hr1 : (w.alloc (.cells #[] 9)).ownsRow w.heap.size 9 1 (.slice (some ⟨w.heap.size, 0, none⟩) 0 0) 0 [] := World.ownsRow_made w #[] 0 (Nat.le_refl _) (Nat.zero_le _) rfl
  have hb0 := below_alloc w (.cells #[] 9)
  have hc0 := hc.below hb0
  have HTX := Lib.hid (text_mat he)
  have HE := Lib.hid he; clear he
  have hone : ∀ u ∈ p.map Value.string, u.oneCell' = true := fun u hu => by
    rw [List.mem_map] at hu; obtain ⟨s, _, rfl⟩ := hu; rfl
  have hml : (p.map Value.string).length = p.length := List.length_map _
  have HML := Lib.hid hml; clear hml
  have HONE := Lib.hid hone; clear hone
  have hb1' : p.length ≤ maxLen := by unfold maxLen; omega
  have hb2' : p.length * 16 ≤ 140737488355328 := by omega
  have hpos : 0 < p.length := h1
  clear hc
  obtain ⟨b, hbd⟩ : ∃ b, b = byteAt p := ⟨_, rfl⟩
  have hput : putB p row col hi wi c = matB p.length (wideB p) (fun a j => if inB row col hi wi a j then c else b a j) := by rw [hbd]; rfl
  have HPUT := Lib.hid hput; clear hput
  have HBR := Lib.hid (show ∀ i, i < p.length → (p.getD i ByteArray.empty).data.toList = rowM (wideB p) b i by rw [hbd]; exact fun i hi => row_ext HE.out hi)
  rw [← hbd] at HTX
  clear hbd
  -- the texts when rows up to i are written
  obtain ⟨st, hst⟩ : ∃ st : Nat → Nat → Nat → UInt8, st = fun i a j => if inB row col (i - row) wi a j then c else b a j := ⟨_, rfl⟩
  have HST := Lib.hid hst; clear hst
  go_enter Try.func128, Try.ntmps128
  go_wp2_with (at_builtin; refine wpList_join rfl (.tmp 17) (.tmp 18) 23 rfl w.heap.size 9 it (.string ⟨#[]⟩) 16 Try.underlying23 hti htz ht1 ht2 rfl _ 0 _ _ rfl hr1 _ _ _ p.length (Nat.zero_add _) rfl (p.map Value.string) HML.out hpos hc0 HONE.out hb1' hb2' (by simp) ?_; intro a2 c2 w2 o2 g2)
  rw [List.nil_append] at o2
  obtain ⟨G, cc, hv, hG1, hG2⟩ := ownsRow_some o2 hpos
  simp only [Value.slice.injEq] at hv
  obtain ⟨rfl, _, rfl⟩ := hv
  have hB2 : Below w.heap.size w w2 := hb0.trans (below_of_grownBy g2 (by simp) (fun k hk => by simp only [Value.ownBlock, Option.some.injEq] at hk; omega))
  clear g2 hc0 hr1 hb0
  have o3 : w2.ownsRow w.heap.size 9 1 (.slice (some ⟨G, 0, none⟩) p.length c2) p.length ((matB p.length (wideB p) (st row)).map Value.string) := by
    have : matB p.length (wideB p) (st row) = p := by
      rw [HST.out]
      conv => rhs; rw [HTX.out]
      refine matB_congr fun i j _ _ => ?_
      have : inB row col (row - row) wi i j = false := by unfold inB; rw [decide_eq_false]; omega
      simp only [this]
      rfl
    rw [this]; exact o2
  clear o2
  go_loopw [14] (fun vi wr => ∃ (i : Nat), row ≤ i ∧ i ≤ row + hi ∧ vi = .int .i64 i ∧ wr.ownsRow w.heap.size 9 1 (.slice (some ⟨G, 0, none⟩) p.length c2) p.length ((matB p.length (wideB p) (st i)).map Value.string) ∧ Below w.heap.size w wr) (fun vi _ => row + hi - (intOf vi).toNat)
  case atStart => exact ⟨row, Nat.le_refl _, by omega, rfl, o3, hB2⟩
  case round =>
    clear o3 hB2
    obtain ⟨i, hi1, hi2, rfl, o, hB⟩ := hrel
    by_cases hlt : i < row + hi
    · have hin : i < p.length := by omega
      have hcell := o.cellAt i (by rw [Nat.mul_one]; exact hin)
      obtain ⟨S, hS⟩ : ∃ S : ByteArray, S = ⟨(rowM (wideB p) b i).toArray⟩ := ⟨_, rfl⟩
      have hSl : S.data.toList = rowM (wideB p) b i := by rw [hS]
      have hSs : S.size = wideB p := by rw [← size_list, hSl]; exact rowM_len _ _ _
      have hrowi : ((matB p.length (wideB p) (st i)).map Value.string)[i]? = some (.string S) := by
        rw [List.getElem?_map, List.getElem?_eq_getElem (by rw [matB_len]; exact hin), matB_at, HST.out, hS]
        rw [rowM_congr (b' := b) (i' := i) fun j _ => by
          have : inB row col (i - row) wi i j = false := by unfold inB; rw [decide_eq_false]; omega
          simp only [this]; rfl]
        rfl
      rw [hrowi] at hcell
      have hfz := o.frozenAt i
      have HSL := Lib.hid hSl
      have HSS := Lib.hid hSs
      clear hrowi hS hSl hSs
      go_wp2_with (refine wpList_bytes_of_str rfl 9 22 5 _ rfl Try.underlying9 Try.underlying22 Try.underlying5 S rfl ?_; intro cap3 r3 W3 hcap3 hM3 hsz3 hb3)
      rw [HSL.out] at hM3
      rw [HSS.out] at hcap3 ⊢
      obtain ⟨B, hBe⟩ : ∃ B, wr.heap.size = B := ⟨_, rfl⟩
      have hBG : B ≠ G := by have := (owns_lt o _ rfl).2; show B ≠ G; have h : (⟨G, 0, none⟩ : Addr).block = G := rfl; omega
      have o3 := ownsRow_below o hb3
      have hB3 : Below w.heap.size w W3 := below_step hB hB.size hb3
      have hBw : w.heap.size ≤ B := by have := hB.size; omega
      rw [hBe] at hM3 ⊢
      clear o hB hb3 hcell hfz hsz3 hBe
      go_loopw [16] (fun vk wq => ∃ (k : Nat), col ≤ k ∧ k ≤ col + wi ∧ vk = .int .i64 k ∧ HeldM wq B 5 ((rowM (wideB p) (fun a j => if col ≤ j ∧ j < k then c else b a j) i).map byteV ++ r3).toArray (cap3, cap3 + 1) ∧
        wq.ownsRow w.heap.size 9 1 (.slice (some ⟨G, 0, none⟩) p.length c2) p.length ((matB p.length (wideB p) (st i)).map Value.string) ∧ Below w.heap.size w wq) (fun vk _ => col + wi - (intOf vk).toNat)
      case atStart =>
        refine ⟨col, Nat.le_refl _, by omega, rfl, ?_, o3, hB3⟩
        rw [rowM_congr (b' := b) (i' := i) fun j _ => by rw [if_neg (by omega)]]
        exact hM3
      case round =>
        clear hM3 o3 hB3
        obtain ⟨k, hk1, hk2, rfl, hM, o, hB⟩ := hrel
        have hap : Value.ownBlock (.slice (some ⟨G, 0, none⟩) p.length c2) ≠ some B := by simp only [Value.ownBlock, ne_eq, Option.some.injEq]; exact fun e => hBG e.symm
        by_cases hkl : k < col + wi
        · have hkw : k < wideB p := by omega
          have hfk : wr.frozen? ⟨B, k, none⟩ = false := hM.frozen (by omega)
          have hck := hM.bytes _ _ rfl k (byteV (if col ≤ k ∧ k < k then c else b i k)) (by rw [List.getElem?_map, List.getElem?_eq_getElem (by rw [rowM_len]; exact hkw), rowM_at]; rfl)
          obtain ⟨B', off', he', hck⟩ := hck
          simp only [Option.some.injEq, Addr.mk.injEq, and_true] at he'
          obtain ⟨rfl, rfl⟩ := he'
          rw [Nat.zero_add] at hck
          have hM2 := hM.set k (.int .u8 c.toNat)
          rw [show (Value.int .u8 c.toNat) = byteV c from rfl, set_bytes (by rw [rowM_len]; exact hkw), rowM_set (b' := fun a j => if col ≤ j ∧ j < k + 1 then c else b a j) (by rw [if_pos ⟨by omega, by omega⟩]) (fun a _ ha => by
            by_cases h : col ≤ a ∧ a < k
            · rw [if_pos h, if_pos ⟨h.1, by omega⟩]
            · rw [if_neg h, if_neg (by omega)])] at hM2
          have HM2 := Lib.hid hM2
          have o2 := ownsRow_setCell_other (a := ⟨B, k, none⟩) o hap (.int .u8 c.toNat)
          have hB2 := hB.setCell (p := ⟨B, k, none⟩) hBw (.int .u8 c.toNat)
          clear hM hM2 hB o
          generalize byteV (if col ≤ k ∧ k < k then c else b i k) = old at *
          go_wp2
          go_roundw
          case rel => exact ⟨k + 1, by omega, by omega, by go_num, HM2.out, o2, hB2⟩
          case measure => simp [intOf]; omega
        · obtain rfl : k = col + wi := by omega
          have hcs := hM.bytes _ _ rfl
          have hcell := o.cellAt i (by rw [Nat.mul_one]; exact hin)
          rw [List.getElem?_map, List.getElem?_eq_getElem (by rw [matB_len]; exact hin), matB_at, Option.map_some] at hcell
          have hfz := o.frozenAt i
          have hst2 := (o.stored i (.string ⟨(rowM (wideB p) (fun a j => if col ≤ j ∧ j < col + wi then c else b a j) i).toArray⟩)).1
          have hse : rowM (wideB p) (fun a j => if col ≤ j ∧ j < col + wi then c else b a j) i = rowM (wideB p) (st (i + 1)) i := by
            rw [HST.out]
            refine rowM_congr fun j _ => ?_
            by_cases h : col ≤ j ∧ j < col + wi
            · have : inB row col (i + 1 - row) wi i j = true := by unfold inB; rw [decide_eq_true]; omega
              simp only [this, if_pos h]; rfl
            · have : inB row col (i + 1 - row) wi i j = false := by unfold inB; rw [decide_eq_false]; omega
              simp only [this, if_neg h]; rfl
          have hmm : ((matB p.length (wideB p) (st i)).map Value.string).set i (.string ⟨(rowM (wideB p) (fun a j => if col ≤ j ∧ j < col + wi then c else b a j) i).toArray⟩) = (matB p.length (wideB p) (st (i + 1))).map Value.string := by
            rw [hse, ← matB_set (b := st i) (b' := st (i + 1)) (i := i) (fun a j _ _ ha => by
              rw [HST.out]
              by_cases h : inB row col (i - row) wi a j = true
              · have : inB row col (i + 1 - row) wi a j = true := by rw [inB_iff] at *; unfold InR at *; omega
                simp only [this, h]
              · have : inB row col (i + 1 - row) wi a j = false := by
                  cases hh : inB row col (i + 1 - row) wi a j
                  · rfl
                  · exfalso; rw [inB_iff] at *; unfold InR at *; omega
                simp only [this]
                rw [if_neg h]; rfl)]
            rw [List.map_set]
          rw [hmm] at hst2
          have hB2 := hB.setCell (p := ⟨G, i, none⟩) hG1 (.string ⟨(rowM (wideB p) (fun a j => if col ≤ j ∧ j < col + wi then c else b a j) i).toArray⟩)
          have HRL := Lib.hid (rowM_len (wideB p) (fun a j => if col ≤ j ∧ j < col + wi then c else b a j) i)
          generalize rowM (wideB p) (fun a j => if col ≤ j ∧ j < col + wi then c else b a j) i = L at *
          generalize rowM (wideB p) (st i) i = old at *
          clear hM hB o hse hmm
          go_wp2_with (refine wpList_str_of_bytes _ rfl 22 9 5 _ rfl Try.underlying22 Try.underlying5 Try.underlying9 (some ⟨B, 0, none⟩) _ cap3 rfl L HRL.out hcs ?_)
          go_roundw
          case rel => exact ⟨i + 1, by omega, by omega, by go_num, hst2, hB2⟩
          case measure => simp [intOf]; omega
    · obtain rfl : i = row + hi := by omega
      have HF := Lib.hid (show matB p.length (wideB p) (st (row + hi)) = putB p row col hi wi c by rw [HPUT.out, HST.out]; show matB _ _ (fun a j => if inB row col (row + hi - row) wi a j then c else b a j) = _; rw [Nat.add_sub_cancel_left])
      go_wp2
      go_ret
      exact ⟨_, _, rfl, by rw [← HF.out]; exact o, hB⟩

end Go.Proofs.Ytpgcpmfemcfoaaa

/-
  The program makes two rooms one. (Walks.)
-/
namespace Go.Proofs.Ytpgcpmfemcfoaaa
open Go.RowKit

end Go.Proofs.Ytpgcpmfemcfoaaa

/-
  Two rooms made one: the model's answer and the program's. (Walks.)
-/
namespace Go.Proofs.Ytpgcpmfemcfoaaa
open Go.RowKit

end Go.Proofs.Ytpgcpmfemcfoaaa

/-
  The program cuts a room. (Walks.)
-/
namespace Go.Proofs.Ytpgcpmfemcfoaaa
open Go.RowKit

end Go.Proofs.Ytpgcpmfemcfoaaa

/-
  A room cut in two: the model's answer and the program's. (Walks.)
-/
namespace Go.Proofs.Ytpgcpmfemcfoaaa
open Go.RowKit

end Go.Proofs.Ytpgcpmfemcfoaaa
