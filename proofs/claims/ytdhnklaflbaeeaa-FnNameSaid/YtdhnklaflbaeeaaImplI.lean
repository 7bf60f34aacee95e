
/-
  The program's texts of plans that came out. (Walks.)
-/
import Derived.Test.YtdhnklaflbaeeaaSpecE
namespace Go.Proofs.Ytdhnklaflbaeeaa
open Go.RowKit

theorem owns_none (w : World) (base : Nat) : w.ownsRow base 9 1 (.slice none 0 0) 0 (([] : List ByteArray).map Value.string) := ⟨rfl, .inl ⟨rfl, rfl⟩⟩

set_option maxHeartbeats 400000 in
theorem tellPlan_any (C : Array Value) (b : Bool) (h wd r : Nat) (g : Nat → Nat → Nat) (w : World) (hb : b = true → C = planC h wd r g ∧ h ≤ 6 ∧ wd ≤ 6 ∧ ∀ i j, g i j ≤ 100) :
    Calls Try.prog 84 #[.agg C, .bool b] w fun e w' => TextsRet w.heap.size (orNone b (rowsT h wd g)) b e w' ∧ Below w.heap.size w w' := by
  cases b
  · go_enter Try.func84, Try.ntmps84
    go_wp2
    go_ret2
    exact ⟨⟨_, _, rfl, owns_none _ _⟩, below_alloc _ _⟩
  · obtain ⟨hC, hh, hw, hg⟩ := hb rfl
    rw [orNone_yes rfl]
    have HROWS := Lib.hid (fun w => rows_any h wd r g w hh hw hg)
    rw [← hC] at HROWS
    have HSZ := Lib.hid (show (Try.prog.info? 62).map (·.size) = some C.size by rw [hC]; exact plan_size _ _ _ _)
    clear hC hb hg
    have hG : (w.alloc (.cells C 62)).heap[w.heap.size]? = some (.cells C 62 (0, 0)) := HeldB.new w 62 C
    go_enter Try.func84, Try.ntmps84
    go_wp2_with (first
      | (refine wpList_load_row rfl 62 _ rfl w.heap.size rfl 62 C (0, 0) _ hG Try.underlying62 rfl HSZ.out ?_)
      | (go_at_call 131; refine (HROWS.out _).mono ?_; rintro e w2 ⟨ro, rc, rfl, hown2, hb2⟩))
    go_ret2
    exact ⟨⟨ro, rc, by rw [rowsT_len]; rfl, by rw [rowsT_len]; exact ownsRow_base hown2 (by simp)⟩, (below_alloc w _).trans (hb2.mono (by simp))⟩

theorem names_few (p : List ByteArray) : (orNone (doneB p) (namesB p)).length ≤ 1048576 := by
  cases h : doneB p
  · rw [orNone_no rfl]; exact Nat.zero_le _
  · rw [orNone_yes rfl, namesB_len]
    rw [doneB_name] at h
    have := (nameDraw_dims h).2.1
    omega

/-- the texts of the names that the program gives -/
theorem implPlanName_any (ao : Option Addr) (cap : Nat) (p : List ByteArray) (w : World) (hl : p.length ≤ 1048576) (hs : ∀ s ∈ p, s.size ≤ 1048576) (hc : CellsAt w ao (p.map Value.string)) :
    Calls Try.prog 22 #[.slice ao p.length cap] w fun e w' => TextsRet w.heap.size (orNone (doneB p) (namesB p)) (doneB p) e w' ∧ Below w.heap.size w w' := by
  have hT : orNone (doneB p) (namesB p) = orNone (nameDraw p) (rowsT p.length (wideB p) (gridG p)) := by
    rw [doneB_name]
    cases hn : nameDraw p
    · rfl
    · obtain ⟨a, b, c, d, e⟩ := nameDraw_dims hn
      rw [orNone_yes rfl, orNone_yes rfl, rows_names (gridP_of_name a b.2 c.1 c.2)]
  have hok : nameDraw p = true → nameC p = planC p.length (wideB p) (gridR p) (gridG p) ∧ p.length ≤ 6 ∧ wideB p ≤ 6 ∧ ∀ i j, gridG p i j ≤ 100 := fun hn => by
    obtain ⟨a, b, c, d, e⟩ := nameDraw_dims hn
    exact ⟨nameC_ok hn, b.2, c.2, fun i j => Nat.le_trans (gridG_le hn i j) (by omega)⟩
  have HOK := Lib.hid hok; clear hok
  rw [hT, doneB_name]
  go_enter Try.func22, Try.ntmps22
  go_wp2_with (first
    | (go_at_call 85; refine (namePlan_any _ _ _ _ hl hs hc).mono ?_; rintro e w1 ⟨rfl, hb1⟩)
    | (go_at_call 84; refine (tellPlan_any _ _ _ _ _ _ _ HOK.out).mono ?_; rintro e w2 ⟨⟨ro, rc, rfl, hown2⟩, hb2⟩))
  go_ret2
  exact ⟨⟨ro, rc, rfl, ownsRow_base hown2 hb1.size⟩, below_step hb1 hb1.size hb2⟩

set_option maxHeartbeats 400000 in
/-- a plan is read, changed, and told -/
theorem redraw_any (fid : Nat) (lb : Array Value) (b : Bool) (C : Array Value) (h wd r : Nat) (g : Nat → Nat → Nat) (ao : Option Addr) (cap : Nat) (p : List ByteArray) (w : World) (hl : p.length ≤ 1048576) (hs : ∀ s ∈ p, s.size ≤ 1048576) (hc : CellsAt w ao (p.map Value.string))
    (eg : ∀ args w, (callFunc fid args).run Try.prog w = .ok (.enter fid args) w)
    (hch : readOk p = true → ∀ W, Below w.heap.size w W → Calls Try.prog fid (#[.agg (readC p)] ++ lb) W fun e W' => e = .returned (.tuple #[.agg C, .bool b]) ∧ Below W.heap.size W W')
    (hb : b = true → C = planC h wd r g ∧ h ≤ 6 ∧ wd ≤ 6 ∧ ∀ i j, g i j ≤ 100) :
    Calls Try.prog 86 #[.slice ao p.length cap, .func (.func fid) #[] lb] w fun e w' => TextsRet w.heap.size (orNone (readOk p && b) (rowsT h wd g)) (readOk p && b) e w' ∧ Below w.heap.size w w' := by
  have HSZ := Lib.hid (readC_size p)
  have HS39 := Lib.hid (readC_39 p)
  have HONE := Lib.hid (readC_one p)
  have HB := Lib.hid hb; clear hb
  cases hr : readOk p
  · clear hch
    rw [Bool.false_and]
    go_enter Try.func86, Try.ntmps86
    go_wp2_with (first
      | (go_at_call 77; refine (readPlan_any _ _ _ _ hl hs hc).mono ?_; rw [hr]; rintro e w1 ⟨rfl, hb1⟩)
      | (refine wpList_alloc_zero rfl 62 rfl zeroC zero_plan ?_)
      | (refine wpList_store_new rfl 62 _ _ rfl w1 zeroC (readC p) rfl rfl rfl HSZ.out (by rw [HS39.out]; rfl) HONE.out ?_))
    go_ret2
    exact ⟨⟨_, _, rfl, owns_none _ _⟩, hb1.trans ((below_alloc w1 _).mono hb1.size)⟩
  · have HCH := Lib.hid (hch hr); clear hch
    rw [Bool.true_and]
    go_enter Try.func86, Try.ntmps86
    go_wp2_with (first
      | (go_at_call 77; refine (readPlan_any _ _ _ _ hl hs hc).mono ?_; rw [hr]; rintro e w1 ⟨rfl, hb1⟩)
      | (refine wpList_alloc_zero rfl 62 rfl zeroC zero_plan ?_)
      | (refine wpList_store_new rfl 62 _ _ rfl w1 zeroC (readC p) rfl rfl rfl HSZ.out (by rw [HS39.out]; rfl) HONE.out ?_; have hG : (w1.alloc (.cells (readC p) 62)).heap[w1.heap.size]? = some (.cells (readC p) 62 (0, 0)) := HeldB.new w1 62 (readC p))
      | (refine wpList_load_row rfl 62 _ rfl w1.heap.size rfl 62 (readC p) (0, 0) _ hG Try.underlying62 rfl HSZ.out ?_))
    have hbw := hb1.trans ((below_alloc w1 (.cells (readC p) 62)).mono hb1.size)
    refine (HCH.out _ hbw).mono ?_
    rintro e w2 ⟨rfl, hb2⟩
    go_wp2_with (go_at_call 84; refine (tellPlan_any _ _ _ _ _ _ _ HB.out).mono ?_; rintro e w3 ⟨⟨ro, rc, rfl, hown3⟩, hb3⟩)
    have hb12 := below_step hbw hbw.size hb2
    go_ret2
    exact ⟨⟨ro, rc, rfl, ownsRow_base hown3 hb12.size⟩, below_step hb12 hb12.size hb3⟩

end Go.Proofs.Ytdhnklaflbaeeaa
