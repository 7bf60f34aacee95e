/-
  The numbers of cells of rooms: the model's answer. (Walk.)
-/
import Derived.Test.YthboiobapmagcaaRoomA
import Derived.Test.YthboiobapmagcaaImplT
namespace Go.Proofs.Ythboiobapmagcaa
open Go.RowKit

/-- the numbers of cells of so many rooms -/
def areasL (p : List ByteArray) (n : Nat) : List Int := (List.range n).map fun r : Nat => cellsB p (r : Int)
def areasOr (p : List ByteArray) : List Int := if planB p then areasL p (roomsB p).toNat else []
theorem areasOr_yes {p : List ByteArray} (h : planB p = true) : areasOr p = areasL p (roomsB p).toNat := by unfold areasOr; rw [h]; rfl
theorem areasOr_no {p : List ByteArray} (h : planB p = false) : areasOr p = [] := by unfold areasOr; rw [h]; rfl
theorem areasL_len (p : List ByteArray) (n : Nat) : (areasL p n).length = n := by simp [areasL]
theorem areasL_succ (p : List ByteArray) (n : Nat) : (areasL p (n + 1)).map (Value.int .i64) = (areasL p n).map (Value.int .i64) ++ [.int .i64 (cellsB p (n : Int))] := by simp [areasL, List.range_succ]

/-- a call hands back numbers of the call's own, and a word whether there are any -/
def NumsRet (base : Nat) (T : List Int) (b : Bool) (e : Ending) (w' : World) : Prop :=
  ∃ ro rc, e = .returned (.tuple #[.slice ro T.length rc, .bool b]) ∧ w'.ownsRow base 3 1 (.slice ro T.length rc) T.length (T.map (Value.int .i64))

set_option maxHeartbeats 1000000 in
theorem specAreas_any (ao : Option Addr) (cap : Nat) (p : List ByteArray) (w : World) (hl : p.length ≤ 1048576) (hs : ∀ s ∈ p, s.size ≤ 1048576) (hc : CellsAt w ao (p.map Value.string)) :
    Calls Try.prog 46 #[.slice ao p.length cap] w fun e w' => NumsRet w.heap.size (areasOr p) (planB p) e w' ∧ Below w.heap.size w w' := by
  obtain ⟨it, hti, htz, ht1, ht2⟩ := info_parts Try.infoNum
  have hb0 := below_alloc w (.cells #[] 3)
  have hc0 := hc.below hb0
  have hr0 : (w.alloc (.cells #[] 3)).ownsRow w.heap.size 3 1 (.slice (some ⟨w.heap.size, 0, none⟩) 0 0) 0 (([] : List Int).map (Value.int .i64)) := World.ownsRow_made w #[] 0 (Nat.le_refl _) (Nat.zero_le _) rfl
  cases hp : planB p
  · rw [areasOr_no hp]
    go_enter Try.func46, Try.ntmps46
    go_wp2_with (go_at_call 18; refine (specPlanIn_any _ _ _ _ hl hs hc0).mono ?_; rw [hp]; rintro e w1 ⟨rfl, hb1⟩)
    go_ret2
    exact ⟨⟨_, _, rfl, ownsRow_below hr0 hb1⟩, below_step hb0 hb0.size hb1⟩
  · rw [areasOr_yes hp]
    have hbd := roomsF_bound p
    obtain ⟨n, hn⟩ : ∃ n : Nat, roomsB p = (n : Int) := ⟨(roomsB p).toNat, by omega⟩
    have hn256 : n ≤ 256 := by omega
    have HRN := Lib.hid hn
    rw [hn, Int.toNat_natCast]
    clear hbd hn
    go_enter Try.func46, Try.ntmps46
    go_wp2_with (go_at_call 18; refine (specPlanIn_any _ _ _ _ hl hs hc0).mono ?_; rw [hp]; rintro e w1 ⟨rfl, hb1⟩)
    have hb2 := below_step hb0 hb0.size hb1
    have hr1 : w1.ownsRow w.heap.size 3 1 (.slice (some ⟨w.heap.size, 0, none⟩) 0 0) 0 ((areasL p 0).map (Value.int .i64)) := ownsRow_below hr0 hb1
    clear hb1 hr0 hb0 hc0
    go_loopw [4, 5] (fun vo vi wr => ∃ (i : Nat) (ro : Option Addr) (rc : Nat), i ≤ n ∧ vi = .int .i64 i ∧ vo = .slice ro i rc ∧ wr.ownsRow w.heap.size 3 1 (.slice ro i rc) i ((areasL p i).map (Value.int .i64)) ∧ Below w.heap.size w wr) (fun _ vi _ => n - (intOf vi).toNat)
    case atStart => exact ⟨0, _, _, Nat.zero_le _, rfl, rfl, hr1, hb2⟩
    case round =>
      clear hr1 hb2
      obtain ⟨i, ro, rc, hi, rfl, rfl, hrow, hb⟩ := hrel
      have hcr := hc.below hb
      have hbs := hb.size
      go_wp2_with fail
      refine (l1Rooms_any _ _ _ _ hl hs hcr).mono ?_
      rw [HRN.out]
      rintro e w2 ⟨rfl, rfl⟩
      by_cases hlt : i < n
      · have hb1' : i + 1 ≤ maxLen := by unfold maxLen; omega
        have hb2' : (i + 1) * 8 ≤ 140737488355328 := by omega
        have HSU := Lib.hid (areasL_succ p i)
        go_wp2_with fail
        refine (l1Cells_any _ _ _ _ _ hl hs hcr).mono ?_
        rintro e w3 ⟨rfl, rfl⟩
        generalize cellsB p (i : Int) = cv at *
        go_wp2_with (at_builtin; refine wpList_push _ rfl (.tmp 17) (.tmp 21) 40 rfl w.heap.size 3 it (.int .i64 0) 8 Try.underlying40 hti htz ht1 ht2 rfl ro i rc _ rfl (hrow.alloc _) _ _ _ rfl (cell_new _ _ _) rfl hb1' hb2' (by simp; omega) ?_; intro ro2 rc2 w4 hrow2 hg2 hnew2)
        go_roundw
        case rel => exact ⟨i + 1, ro2, rc2, by omega, by go_num, rfl, owns_eq hrow2 HSU.out.symm, below_push hb hbs hg2 (fun a ha => (owns_lt hrow a ha).1)⟩
        case measure => simp [intOf]; omega
      · obtain rfl : i = n := by omega
        go_wp2
        go_ret2
        exact ⟨⟨_, _, by rw [areasL_len]; rfl, by rw [areasL_len]; exact hrow⟩, hb⟩

end Go.Proofs.Ythboiobapmagcaa
