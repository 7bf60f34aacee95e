
/-
  Lists of numbers among the arguments of a law: opened as cells, and copied.
-/
import Derived.Test.YtlgbefmgpmdolaaLawK
import Derived.Test.YtlgbefmgpmdolaaArgs
import Derived.Test.YtlgbefmgpmdolaaRow
import Derived.Test.YtlgbefmgpmdolaaNums
import Derived.ChangeSlices
namespace Go.Proofs.Ytlgbefmgpmdolaa
open Go.ChangeShapes Go.WideShapes Go.ChangeAt Go.RowKit

theorem infoIntN : (Try.prog.info? 3).map (fun i => (i.zero, i.size, i.bytes)) = some (some (.int .i64 0), 1, 8) := by kernel_rfl
theorem cellsIntN : Try.prog.cellsOf 3 = 1 := by kernel_rfl

/-- an argument that is a list of numbers, as cells -/
theorem open_numbers {H : Type} {enc : TypeId × Value → H} {W : World} {a0 : Option Addr} {len cap : Nat} {d : DataW H} {p : List MemPlace}
    (h : DataW.Trod enc Try.prog W 0 (fun _ => true) true 22 (.slice a0 len cap) d p) : ∃ l : List Int, l.length = len ∧ l.length ≤ maxLen ∧ CellsAt W a0 (l.map (Value.int .i64)) := by
  obtain ⟨fuel, hf⟩ := h
  rcases open_ints Try.underlying22 Try.underlying3 cellsIntN hf with ⟨hcs, _⟩ | ⟨a, len', cap', ss, hcs, _, hl, hm, hz, _, hcell, hsz⟩
  · simp [Value.cells] at hcs
    obtain ⟨rfl, rfl, rfl⟩ := hcs
    exact ⟨[], rfl, Nat.zero_le _, CellsAt.nil _ _⟩
  · simp [Value.cells] at hcs
    obtain ⟨rfl, rfl, rfl⟩ := hcs
    simp only [if_true] at hz
    refine ⟨ss.take len, by simp; omega, by simp; omega, fun i u hu => ?_⟩
    rw [List.getElem?_map, Option.map_eq_some_iff] at hu
    obtain ⟨s, hs, rfl⟩ := hu
    have hi : i < (ss.take len).length := (List.getElem?_eq_some_iff.1 hs).1
    rw [List.length_take] at hi
    have hc := hcell i (by omega)
    obtain ⟨b, off, spot⟩ := a
    have hspot : spot = Option.none := by simpa [Addr.add] using World.cell?_spot (hcell 0 (by omega))
    subst hspot
    refine ⟨b, off, rfl, ?_⟩
    rw [add_plain] at hc
    rw [hc]
    rw [List.getElem?_take, if_pos (by omega)] at hs
    simp [hs]

set_option maxHeartbeats 400000 in
theorem toIntS_any (ao : Option Addr) (cap : Nat) (l : List Int) (w : World) (hl : l.length ≤ 1048576) (ha : CellsAt w ao (l.map (Value.int .i64))) :
    Calls Try.prog 21 #[.slice ao l.length cap] w
      fun e w' => ∃ g c, e = .returned (.slice (some ⟨g, 0, none⟩) l.length c) ∧ w'.ownsRow w.heap.size 3 1 (.slice (some ⟨g, 0, none⟩) l.length c) l.length (l.map (Value.int .i64)) ∧ Below w.heap.size w w' := by
  obtain ⟨i0, hi, hz0, hz1, hz2⟩ := info_parts infoIntN
  go_enter Try.func21, Try.ntmps21
  go_wp2_with (at_make; refine wpList_make_full _ rfl _ _ 22 rfl w.heap.size 3 i0 (.int .i64 0) 1 Try.underlying22 hi hz0 hz1 .i64 .i64 _ _ l.length rfl rfl rfl rfl ?c2 ?c3 (Nat.le_refl _) ?_; rotate_left 2; intro w1 hown hgrow)
  case c2 => rw [hz2]; omega
  case c3 => unfold maxLen; omega
  have hb1 : Below w.heap.size w w1 := (Below.refl _ _).grown hgrow (Nat.le_refl _) (by simp)
  have hown1 : w1.ownsRow w.heap.size 3 1 (.slice (some ⟨w.heap.size, 0, none⟩) l.length l.length) l.length ((l.take 0).map (Value.int .i64) ++ List.replicate (l.length - 0) (.int .i64 0)) := by
    have h := hown
    rw [show (.int .i64 0 : Value).cells = #[.int .i64 0] from rfl, Nat.mul_one, toList_madeCells_one] at h
    simpa using h
  clear hown hgrow
  go_loopw [4] (fun i wr => ∃ (k : Nat), k ≤ l.length ∧ i = .int .i64 k ∧ Below w.heap.size w wr ∧ wr.ownsRow w.heap.size 3 1 (.slice (some ⟨w.heap.size, 0, none⟩) l.length l.length) l.length ((l.take k).map (Value.int .i64) ++ List.replicate (l.length - k) (.int .i64 0))) (fun i _ => l.length - (intOf i).toNat)
  case atStart => exact ⟨0, Nat.zero_le _, rfl, hb1, hown1⟩
  case round =>
    clear hb1 hown1
    obtain ⟨k, hk, rfl, hb, hown⟩ := hrel
    by_cases hlt : k < l.length
    · obtain ⟨b, off, rfl, hck⟩ := (ha.below hb).int k hlt
      have hcell := hown.cellAt k (by omega)
      rw [List.getElem?_append_right (by simp; omega), List.getElem?_replicate, if_pos (by simp; omega)] at hcell
      have hfz := hown.frozenAt k
      have hst := (hown.stored k (.int .i64 (l.getD k 0))).1
      rw [fill_set _ _ _ _ _ hlt (by simp; omega), ← List.map_singleton, ← List.map_append, ← take_succ_getD l k _ hlt] at hst
      have hb2 := hb.setCell (p := ⟨w.heap.size, k, none⟩) (Nat.le_refl _) (.int .i64 (l.getD k 0))
      clear ha hown hb
      generalize l.getD k 0 = s at *
      go_wp2
      go_roundw
      case rel => exact ⟨k + 1, by omega, by go_num, hb2, hst⟩
      case measure => simp [intOf]; omega
    · obtain rfl : k = l.length := by omega
      rw [List.take_length, Nat.sub_self, List.replicate_zero, List.append_nil] at hown
      go_wp2
      go_ret
      exact ⟨_, _, rfl, hown, hb⟩

end Go.Proofs.Ytlgbefmgpmdolaa
