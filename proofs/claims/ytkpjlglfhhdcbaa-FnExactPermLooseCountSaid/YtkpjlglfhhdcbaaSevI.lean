
/-
  The program's permutations: how many numbers, the list, backwards. (Walks.)
-/
import Derived.Test.YtkpjlglfhhdcbaaSevN
import Derived.BigRegion
namespace Go.Proofs.Ytkpjlglfhhdcbaa
open Go.RowKit

/-! # the first place of a number -/
def idxI (L : List Int) (v : Int) : Int := if v ∈ L then ((L.idxOf v : Nat) : Int) else -1
theorem idxI_at {L : List Int} {v : Int} {i : Nat} (hi : i < L.length) (h : L.getD i 0 = v) (hb : ∀ j, j < i → L.getD j 0 ≠ v) : idxI L v = i := by
  have hm : v ∈ L := by rw [← h, List.getD_eq_getElem?_getD, List.getElem?_eq_getElem hi]; exact List.getElem_mem hi
  unfold idxI
  rw [if_pos hm]
  have h1 := at_idxOf hm
  have h2 : ¬ L.idxOf v < i := fun hlt => hb _ hlt h1
  have h3 : ¬ i < L.idxOf v := fun hlt => by
    have := List.not_of_lt_findIdx (p := (· == v)) (xs := L) (show i < L.findIdx (· == v) from hlt)
    rw [List.getD_eq_getElem?_getD, List.getElem?_eq_getElem hi] at h
    rw [show L[i] = v from h] at this
    simp at this
  omega
theorem idxI_no {L : List Int} {v : Int} (h : ∀ j, j < L.length → L.getD j 0 ≠ v) : idxI L v = -1 := by
  unfold idxI
  rw [if_neg]
  intro hm
  exact h _ (List.idxOf_lt_length_of_mem hm) (at_idxOf hm)
set_option maxHeartbeats 400000 in
theorem indexI_any (ao : Option Addr) (cap n : Nat) (L : List Int) (v : Int) (w : World) (hn : L.length = n) (hl : L.length ≤ maxLen) (hc : CellsAt w ao (L.map (Value.int .i64))) :
    Calls Try.prog 66 #[.slice ao n cap, .int .i64 v] w fun e w' => e = .returned (.int .i64 (idxI L v)) ∧ w' = w := by
  subst hn
  unfold maxLen at hl
  go_enter Try.func66, Try.ntmps66
  go_wp2
  go_loop [8] (fun vi => ∃ i : Nat, i ≤ L.length ∧ vi = .int .i64 i ∧ ∀ j, j < i → L.getD j 0 ≠ v) (fun vi => L.length - (intOf vi).toNat)
  case atStart => exact ⟨0, Nat.zero_le _, rfl, fun j hj => by omega⟩
  case round =>
    obtain ⟨i, hi, rfl, hno⟩ := hrel
    by_cases hlt : i < L.length
    · obtain ⟨b, off, rfl, hcell⟩ := hc.int i hlt
      have HC := Lib.hid hc; clear hc
      have HNO := Lib.hid hno; clear hno
      obtain ⟨x, hx⟩ : ∃ x, L.getD i 0 = x := ⟨_, rfl⟩
      rw [hx] at hcell
      by_cases he : v = x
      · subst he
        have HF := Lib.hid (idxI_at hlt hx HNO.out)
        clear hx
        go_wp2
        go_ret
        exact ⟨ret_int HF.out.symm, rfl⟩
      · have hne : (v == x) = false := beq_eq_false_iff_ne.2 he
        have HX := Lib.hid hx; clear hx
        have HE := Lib.hid he; clear he
        go_wp2
        go_round
        case rel => exact ⟨i + 1, by omega, by go_num, fun j hj e => by
          by_cases hji : j = i
          · subst hji; rw [HX.out] at e; exact HE.out e.symm
          · exact HNO.out j (by omega) e⟩
        case measure => simp [intOf]; omega
    · obtain rfl : i = L.length := by omega
      have HF := Lib.hid (idxI_no hno)
      clear hno
      go_wp2
      go_ret
      exact ⟨ret_int HF.out.symm, rfl⟩

/-! # how many -/
/-- at most seven numbers from 0 to 6 -/
structure Low (l : List Int) : Prop where
  len : l.length ≤ 7
  low : ∀ x ∈ l, 0 ≤ x ∧ x < 7
theorem Few.lo {l : List Int} (h : Few l) : Low l := ⟨h.len, fun x hx => by have := h.low x hx; have := h.len; omega⟩
theorem Low.at {l : List Int} (h : Low l) {i : Nat} (hi : i < l.length) : 0 ≤ l.getD i 0 ∧ l.getD i 0 < 7 := by
  rw [List.getD_eq_getElem?_getD, List.getElem?_eq_getElem hi]
  exact h.low _ (List.getElem_mem hi)
theorem idx_pad {l : List Int} (h : Low l) (h7 : l.length < 7) : idxI (padL l) 0 = l.length :=
  idxI_at (by rw [padL_len h.len]; exact h7) (padL_ge (Nat.le_refl _)) (fun j hj => by rw [padL_lt hj]; have := h.at hj; omega)
theorem idx_full {l : List Int} (h : Low l) (h7 : l.length = 7) : idxI (padL l) 0 = -1 :=
  idxI_no (fun j hj => by
    rw [padL_len h.len] at hj
    rw [padL_lt (by omega)]; have := h.at (i := j) (by omega); omega)
theorem HeldB.nums {W : World} {B : Nat} {t : TypeId} {L : List Int} (h : HeldB W B t (numC L)) : CellsAt W (some ⟨B, 0, none⟩) (L.map (Value.int .i64)) := fun i u hu => by
  refine ⟨B, 0, rfl, ?_⟩
  rw [Nat.zero_add, h.cell i]
  unfold numC
  rw [List.getElem?_toArray]
  exact hu
set_option maxRecDepth 100000 in
set_option maxHeartbeats 1000000 in
theorem many_any {l : List Int} (h : Low l) (w : World) :
    Calls Try.prog 62 #[.agg (numC (padL l))] w fun e w' => e = .returned (.int .i64 (l.length : Int)) ∧ Below w.heap.size w w' := by
  have hH := HeldB.new w 35 (numC (padL l))
  have HIX := Lib.hid (indexI_any (some ⟨w.heap.size, 0, none⟩) 7 7 (padL l) 0 _ (padL_len h.len) (by rw [padL_len h.len]; decide) hH.nums)
  have hb := below_alloc w (.cells (numC (padL l)) 35)
  clear hH
  have hlen := h.len
  by_cases h7 : l.length < 7
  · rw [idx_pad h h7] at HIX
    generalize numC (padL l) = C at *
    go_enter Try.func62, Try.ntmps62
    go_wp2_with (go_at_call 66; refine HIX.out.mono ?_; rintro e w' ⟨rfl, rfl⟩)
    go_ret
    exact ⟨rfl, hb⟩
  · have h7' : l.length = 7 := by omega
    rw [idx_full h h7', h7'] at *
    generalize numC (padL l) = C at *
    go_enter Try.func62, Try.ntmps62
    go_wp2_with (go_at_call 66; refine HIX.out.mono ?_; rintro e w' ⟨rfl, rfl⟩)
    go_ret
    exact ⟨rfl, hb⟩

/-! # the list -/
theorem info_num7 : (Try.prog.info? 3).map (fun i => (i.zero, i.size, i.bytes)) = some (some (.int .i64 0), 1, 8) := by kernel_rfl
set_option maxRecDepth 100000 in
set_option maxHeartbeats 2000000 in
theorem list_any {l : List Int} (h : Low l) (w : World) :
    Calls Try.prog 47 #[.agg (numC (padL l))] w fun e w' => ∃ g c, e = .returned (.slice (some ⟨g, 0, none⟩) l.length c) ∧ w'.ownsRow w.heap.size 3 1 (.slice (some ⟨g, 0, none⟩) l.length c) l.length (l.map (Value.int .i64)) ∧ Below w.heap.size w w' := by
  obtain ⟨i0, hi, hz0, hz1, hz2⟩ := info_parts info_num7
  have hlen := h.len
  have HM := Lib.hid (fun w => many_any h w)
  have hH := HeldB.new w 35 (numC (padL l))
  have HSZ := Lib.hid (perm_size (padL_len h.len))
  have hce : ∀ i, i < l.length → (numC (padL l))[i]? = some (.int .i64 (l.getD i 0 + 1)) := fun i hi => by rw [numC_at (by rw [padL_len h.len]; omega), padL_lt hi]
  have HCE := Lib.hid hce; clear hce
  have HAT := Lib.hid (fun i (hi : i < l.length) => h.at hi)
  generalize numC (padL l) = C at *
  have hW1 : (w.alloc (.cells C 35)).heap[w.heap.size]? = some (.cells C 35 (0, 0)) := hH
  go_enter Try.func47, Try.ntmps47
  go_wp2_with (first
    | (refine wpList_load_row rfl 35 _ rfl w.heap.size rfl 35 C (0, 0) _ hW1 Try.underlying35 rfl HSZ.out ?_)
    | (go_at_call 62; refine (HM.out _).mono ?_; rintro e w1 ⟨rfl, hb1⟩)
    | (at_make; refine wpList_make_full _ rfl _ _ 22 rfl w1.heap.size 3 i0 (.int .i64 0) 1 Try.underlying22 hi hz0 hz1 .i64 .i64 _ _ l.length rfl rfl rfl rfl ?c2 ?c3 (Nat.le_refl _) ?_; rotate_left 2; intro w2 hown hgrow))
  case c2 => rw [hz2]; omega
  case c3 => unfold maxLen; omega
  have hb2 : Below w.heap.size w w2 := (below_step (below_alloc w (.cells C 35)) (below_size (below_alloc w _)) hb1).trans ((below_of_grownBy hgrow (Nat.le_refl _) (by simp)).mono (below_size ((below_alloc w (.cells C 35)).trans (hb1.mono (by simp)))))
  have hs1 : w.heap.size + 1 ≤ w1.heap.size := by have := below_size hb1; simpa using this
  have hH2 : HeldB w2 w.heap.size 35 C := (hH.below hb1).kept hgrow (by simp)
  have hown1 : w2.ownsRow w1.heap.size 3 1 (.slice (some ⟨w1.heap.size, 0, none⟩) l.length l.length) l.length ((l.take 0).map (Value.int .i64) ++ List.replicate (l.length - 0) (.int .i64 0)) := by
    have h := hown
    rw [show (.int .i64 0 : Value).cells = #[.int .i64 0] from rfl, Nat.mul_one, toList_madeCells_one] at h
    simpa using h
  clear hown hgrow hH hW1 hb1
  go_loopw [10] (fun i wr => ∃ (k : Nat), k ≤ l.length ∧ i = .int .i64 k ∧ Below w.heap.size w wr ∧ HeldB wr w.heap.size 35 C ∧ wr.ownsRow w1.heap.size 3 1 (.slice (some ⟨w1.heap.size, 0, none⟩) l.length l.length) l.length ((l.take k).map (Value.int .i64) ++ List.replicate (l.length - k) (.int .i64 0))) (fun i _ => l.length - (intOf i).toNat)
  case atStart => exact ⟨0, Nat.zero_le _, rfl, hb2, hH2, hown1⟩
  case round =>
    clear hb2 hown1 hH2
    obtain ⟨k, hk, rfl, hb, hH, hown⟩ := hrel
    by_cases hlt : k < l.length
    · have hcx := (hH.cell k).trans (HCE.out k hlt)
      have hlo := HAT.out k hlt
      have hcell := hown.cellAt k (by omega)
      rw [List.getElem?_append_right (by simp; omega), List.getElem?_replicate, if_pos (by simp; omega)] at hcell
      have hfz := hown.frozenAt k
      have hst := (hown.stored k (.int .i64 (l.getD k 0))).1
      rw [fill_set _ _ _ _ _ hlt (by simp; omega), ← List.map_singleton, ← List.map_append, ← take_succ_getD l k _ hlt] at hst
      have hb2 := hb.setCell (p := ⟨w1.heap.size, k, none⟩) (by simp; omega) (.int .i64 (l.getD k 0))
      have hH2 := hH.other (a := ⟨w1.heap.size, k, none⟩) (by simp; omega) (.int .i64 (l.getD k 0))
      have hk7 : (k : Int) < 7 := by omega
      clear hown hb hH
      generalize l.getD k 0 = s at *
      go_wp2
      go_roundw
      case rel => exact ⟨k + 1, by omega, by go_num, hb2, hH2, hst⟩
      case measure => simp [intOf]; omega
    · obtain rfl : k = l.length := by omega
      rw [List.take_length, Nat.sub_self, List.replicate_zero, List.append_nil] at hown
      go_wp2
      go_ret
      exact ⟨_, _, rfl, ownsRow_base hown (by omega), hb⟩

end Go.Proofs.Ytkpjlglfhhdcbaa
