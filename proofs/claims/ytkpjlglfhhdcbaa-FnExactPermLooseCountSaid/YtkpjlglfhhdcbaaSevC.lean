
/-
  Permutations backwards, and the places of their numbers: the model's answers. (Walks.)
-/
import Derived.Test.YtkpjlglfhhdcbaaSevB
import Derived.Test.YtkpjlglfhhdcbaaSevA
namespace Go.Proofs.Ytkpjlglfhhdcbaa
open Go.RowKit

theorem info_numC : (Try.prog.info? 3).map (fun i => (i.zero, i.size, i.bytes)) = some (some (.int .i64 0), 1, 8) := by kernel_rfl
theorem none_made (w : World) : (w.alloc (.cells #[] 3)).ownsRow w.heap.size 3 1 (.slice (some ⟨w.heap.size, 0, none⟩) 0 0) 0 (([] : List Int).map (Value.int .i64)) := World.ownsRow_made w #[] 0 (Nat.le_refl _) (Nat.zero_le _) rfl

/-! # backwards -/
theorem rev_take {l : List Int} {k i : Nat} (h : k + 1 + i = l.length) : l.reverse.take (k + 1) = l.reverse.take k ++ [l.getD i 0] := by
  rw [take_succ_getD _ k 0 (by rw [List.length_reverse]; omega), rev_at (by omega), show l.length - 1 - k = i by omega]
set_option maxRecDepth 100000 in
set_option maxHeartbeats 2000000 in
theorem specPermBack_any (ao : Option Addr) (cap : Nat) (l : List Int) (w : World) (hl : l.length ≤ 1048576) (hc : CellsAt w ao (l.map (Value.int .i64))) :
    Calls Try.prog 22 #[.slice ao l.length cap] w fun e w' => NumsRet w.heap.size (backO l) (isP l) e w' ∧ Below w.heap.size w w' := by
  obtain ⟨it, hti, htz, ht1, ht2⟩ := info_parts info_numC
  have hb0 := below_alloc w (.cells #[] 3)
  have hc0 := hc.below hb0
  have hr0 := none_made w
  have HP := Lib.hid (specPermIn_same ao cap l (w.alloc (.cells #[] 3)) hl hc0)
  cases hp : isP l
  · rw [hp] at HP
    rw [show backO l = [] by unfold backO; rw [orNil_no hp]; rfl]
    go_enter Try.func22, Try.ntmps22
    go_wp2_with (go_at_call 14; refine HP.out.mono ?_; rintro e w1 ⟨rfl, rfl⟩)
    go_ret2
    exact ⟨⟨_, _, rfl, hr0⟩, hb0⟩
  · rw [hp] at HP
    have hf := isP_few hp
    have hbk : backO l = l.reverse := by unfold backO; rw [orNil_yes hp]
    rw [hbk]
    have h7 := hf.len
    clear hf hbk hp
    go_enter Try.func22, Try.ntmps22
    go_wp2_with (go_at_call 14; refine HP.out.mono ?_; rintro e w1 ⟨rfl, rfl⟩)
    go_loopw [4, 5] (fun vo vi wr => ∃ (k : Nat) (ro : Option Addr) (rc : Nat), k ≤ l.length ∧ vi = .int .i64 ((l.length : Int) - 1 - (k : Int)) ∧ vo = .slice ro k rc ∧ wr.ownsRow w.heap.size 3 1 (.slice ro k rc) k ((l.reverse.take k).map (Value.int .i64)) ∧ Below w.heap.size w wr) (fun _ vi _ => (intOf vi + 1).toNat)
    case atStart => exact ⟨0, _, _, Nat.zero_le _, by simp, rfl, hr0, hb0⟩
    case round =>
      clear hr0 hb0 hc0
      obtain ⟨k, ro, rc, hk, rfl, rfl, hrow, hb⟩ := hrel
      by_cases hlt : k < l.length
      · obtain ⟨i, hi⟩ : ∃ i : Nat, k + 1 + i = l.length := ⟨l.length - 1 - k, by omega⟩
        have hie : (l.length : Int) - 1 - (k : Int) = (i : Int) := by omega
        obtain ⟨b, off, rfl, hcell⟩ := (hc.below hb).int i (by omega)
        have HSU := Lib.hid (rev_take hi)
        have HC := Lib.hid hc; clear hc
        have hbs := hb.size
        rw [hie]
        have hil : (i : Int) < (l.length : Int) := by omega
        have hil2 : i < l.length := by omega
        have HI := Lib.hid hi; clear hi
        have HIE := Lib.hid hie; clear hie
        have hb1' : k + 1 ≤ maxLen := by unfold maxLen; omega
        have hb2' : (k + 1) * 8 ≤ 140737488355328 := by omega
        generalize l.getD i 0 = x at *
        go_wp2_with (at_builtin; refine wpList_push _ rfl _ _ 22 rfl w.heap.size 3 it (.int .i64 0) 8 Try.underlying22 hti htz ht1 ht2 rfl ro k rc _ rfl (hrow.alloc _) _ _ _ rfl (cell_new _ _ _) rfl hb1' hb2' (by simp; omega) ?_; intro ro2 rc2 w4 hrow2 hg2 hnew2)
        go_roundw
        case rel => exact ⟨k + 1, ro2, rc2, by omega, by have := HI.out; rw [show ((l.length : Int) - 1 - ((k + 1 : Nat) : Int)) = (i : Int) - 1 by omega], rfl, owns_eq hrow2 (by rw [HSU.out, List.map_append]; rfl), below_push hb hbs hg2 (fun a ha => (owns_lt hrow a ha).1)⟩
        case measure => simp [intOf]; try omega
      · obtain rfl : k = l.length := by omega
        have he : (l.length : Int) - 1 - (l.length : Int) = -1 := by omega
        rw [List.take_of_length_le (by rw [List.length_reverse]; exact Nat.le_refl _)] at hrow
        rw [he]
        clear he
        go_wp2
        go_ret2
        exact ⟨⟨ro, rc, by rw [List.length_reverse]; rfl, by rw [List.length_reverse]; exact hrow⟩, hb⟩

/-! # the places -/
def invN (l : List Int) (k : Nat) : List Int := (List.range l.length).map fun (v : Nat) => if l.idxOf (v : Int) < k then ((l.idxOf (v : Int) : Nat) : Int) else 0
theorem invN_len (l : List Int) (k : Nat) : (invN l k).length = l.length := by simp [invN]
theorem invN_at {l : List Int} {k v : Nat} (h : v < l.length) : (invN l k).getD v 0 = if l.idxOf (v : Int) < k then ((l.idxOf (v : Int) : Nat) : Int) else 0 := by simp [invN, h]
theorem invN_zero (l : List Int) : invN l 0 = List.replicate l.length 0 := by simp [invN, List.map_const']
theorem Few.invN {l : List Int} (h : Few l) : invN l l.length = invL l := by
  refine list_ext (by rw [invN_len, invL_len]) fun v hv => ?_
  rw [invN_len] at hv
  rw [invN_at hv, invL_at hv, if_pos (h.idx hv)]
theorem Few.invN_step {l : List Int} (h : Few l) {k x : Nat} (hk : k < l.length) (hx : l.getD k 0 = x) : (Go.Proofs.Ytkpjlglfhhdcbaa.invN l k).set x (k : Int) = Go.Proofs.Ytkpjlglfhhdcbaa.invN l (k + 1) := by
  have hxl : x < l.length := by have := h.at hk; omega
  refine list_ext (by rw [List.length_set, invN_len, invN_len]) fun v hv => ?_
  rw [List.length_set, invN_len] at hv
  rw [set_getD _ _ _ _ (by rw [invN_len]; exact hxl), invN_at hv, invN_at hv]
  have hi := h.idx hv
  have ha := at_idxOf (h.mem hv)
  by_cases hvx : v = x
  · subst hvx
    have hik : l.idxOf (v : Int) = k := h.inj hi hk (by rw [ha, hx])
    rw [if_pos rfl, if_pos (by omega), hik]
  · rw [if_neg hvx]
    have hne : l.idxOf (v : Int) ≠ k := fun e => by rw [e, hx] at ha; omega
    by_cases hlt : l.idxOf (v : Int) < k
    · rw [if_pos hlt, if_pos (by omega)]
    · rw [if_neg hlt, if_neg (by omega)]

set_option maxRecDepth 100000 in
set_option maxHeartbeats 2000000 in
theorem specPermOther_any (ao : Option Addr) (cap : Nat) (l : List Int) (w : World) (hl : l.length ≤ 1048576) (hc : CellsAt w ao (l.map (Value.int .i64))) :
    Calls Try.prog 26 #[.slice ao l.length cap] w fun e w' => NumsRet w.heap.size (otherO l) (isP l) e w' ∧ Below w.heap.size w w' := by
  obtain ⟨it, hti, htz, ht1, ht2⟩ := info_parts info_numC
  have HP := Lib.hid (specPermIn_same ao cap l w hl hc)
  cases hp : isP l
  · have hb0 := below_alloc w (.cells #[] 3)
    have hr0 := none_made w
    rw [hp] at HP
    rw [show otherO l = [] by unfold otherO; rw [orNil_no hp]; rfl]
    go_enter Try.func26, Try.ntmps26
    go_wp2_with (go_at_call 14; refine HP.out.mono ?_; rintro e w1 ⟨rfl, rfl⟩)
    go_ret2
    exact ⟨⟨_, _, rfl, hr0⟩, hb0⟩
  · rw [hp] at HP
    have hf := isP_few hp
    have HF := Lib.hid hf
    rw [show otherO l = invL l by unfold otherO; rw [orNil_yes hp]]
    have h7 := hf.len
    clear hf hp
    go_enter Try.func26, Try.ntmps26
    go_wp2_with (first
      | (go_at_call 14; refine HP.out.mono ?_; rintro e w1 ⟨rfl, rfl⟩)
      | (at_make; refine wpList_make_full _ rfl _ _ 22 rfl w1.heap.size 3 it (.int .i64 0) 1 Try.underlying22 hti htz ht1 .i64 .i64 _ _ l.length rfl rfl rfl rfl ?c2 ?c3 (Nat.le_refl _) ?_; rotate_left 2; intro w2 hown hgrow))
    case c2 => rw [ht2]; omega
    case c3 => unfold maxLen; omega
    have hb1 : Below w1.heap.size w1 w2 := (Below.refl _ _).grown hgrow (Nat.le_refl _) (by simp)
    have hown1 : w2.ownsRow w1.heap.size 3 1 (.slice (some ⟨w1.heap.size, 0, none⟩) l.length l.length) l.length ((invN l 0).map (Value.int .i64)) := by
      have h := hown
      rw [show (.int .i64 0 : Value).cells = #[.int .i64 0] from rfl, Nat.mul_one, toList_madeCells_one] at h
      rw [invN_zero, List.map_replicate]
      exact h
    clear hown hgrow
    go_loopw [5] (fun vi wr => ∃ (k : Nat), k ≤ l.length ∧ vi = .int .i64 k ∧ Below w1.heap.size w1 wr ∧ wr.ownsRow w1.heap.size 3 1 (.slice (some ⟨w1.heap.size, 0, none⟩) l.length l.length) l.length ((invN l k).map (Value.int .i64))) (fun vi _ => l.length - (intOf vi).toNat)
    case atStart => exact ⟨0, Nat.zero_le _, rfl, hb1, hown1⟩
    case round =>
      clear hb1 hown1
      obtain ⟨k, hk, rfl, hb, hown⟩ := hrel
      by_cases hlt : k < l.length
      · obtain ⟨b, off, rfl, hck⟩ := (hc.below hb).int k hlt
        have hlo := HF.out.at hlt
        obtain ⟨x, hx⟩ : ∃ x : Nat, l.getD k 0 = x := ⟨(l.getD k 0).toNat, by omega⟩
        have HS := Lib.hid (HF.out.invN_step hlt hx)
        have hxl : x < l.length := by omega
        have hxl2 : (x : Int) < (l.length : Int) := by omega
        have hcell := hown.cellAt x (by simp; omega)
        obtain ⟨z, hz⟩ : ∃ z, (invN l k)[x]? = some z := ⟨_, List.getElem?_eq_getElem (by rw [invN_len]; exact hxl)⟩
        rw [List.getElem?_map, hz] at hcell
        simp only [Option.map_some] at hcell
        clear hz
        have hfz := hown.frozenAt x
        have hst := (hown.stored x (.int .i64 (k : Int))).1
        rw [← List.map_set, HS.out] at hst
        have hb2 := hb.setCell (p := ⟨w1.heap.size, x, none⟩) (Nat.le_refl _) (.int .i64 (k : Int))
        rw [hx] at hck
        have HC := Lib.hid hc
        clear hown hb hx hc
        go_wp2
        go_roundw
        case rel => exact ⟨k + 1, by omega, by go_num, hb2, hst⟩
        case measure => simp [intOf]; omega
      · obtain rfl : k = l.length := by omega
        rw [HF.out.invN] at hown
        have HIL := Lib.hid (invL_len l)
        go_wp2
        go_ret2
        exact ⟨⟨_, _, by rw [HIL.out]; rfl, by rw [HIL.out]; exact hown⟩, hb⟩

end Go.Proofs.Ytkpjlglfhhdcbaa
