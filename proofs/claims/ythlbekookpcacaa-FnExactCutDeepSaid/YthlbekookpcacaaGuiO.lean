
/-
  The program asks whether a plan is cuttable. (Walks.)
-/
import Derived.Test.YthlbekookpcacaaGuiK
import Derived.Test.YthlbekookpcacaaGui2
namespace Go.Proofs.Ythlbekookpcacaa
open Go.RowKit

def noBx : Bx := ⟨0, 0, 0, 0, 0, by omega, by omega, by omega⟩
def bxP (p : List ByteArray) (a : Nat) : Bx := ((scanB p.length (wideB p) (gridG p) (p.length * wideB p))[a]?).getD noBx
theorem bxP_of {p : List ByteArray} (hp : PlanP p) {a : Nat} (ha : a < gridR p) : BoxOf p a (bxP p a) := by
  obtain ⟨x, hx, hb⟩ := hp.boxes.2 a ha
  unfold bxP; rw [hx]; exact hb
theorem boxy_of {p : List ByteArray} (hp : PlanP p) : Boxy p.length (wideB p) (gridG p) (gridR p) (bxP p) :=
  ⟨hp.grid.h6, hp.grid.w6, hp.few, hp.rect.of_same (fun i j i' j' a b c d => by rw [hp.mark i j a b, hp.mark i' j' c d]), fun i j hi hj => gridG_lt hi hj, fun a ha => (bxP_of hp ha).2.1, fun a ha => (bxP_of hp ha).2.2.1, fun a ha => (bxP_of hp ha).2.2.2.1, fun a ha => (bxP_of hp ha).2.2.2.2.1,
    fun a i j ha hi hj => by rw [← hp.mark i j hi hj]; exact (bxP_of hp ha).2.2.2.2.2 i j hi hj⟩
theorem bxsV_range {bx : Nat → Bx} {L : List Bx} (h : ∀ a, a < L.length → ∃ x, L[a]? = some x ∧ bx a = x ∧ x.room = a) : ∀ n, n ≤ L.length → bxsV (L.take n) = plL bx (List.range n)
  | 0, _ => rfl
  | n + 1, hn => by
    obtain ⟨x, hx, hb, hr⟩ := h n (by omega)
    have hxx := (List.getElem?_eq_some_iff.1 hx)
    rw [List.take_add_one, hx, List.range_succ, plL_snoc]
    show bxsV (L.take n ++ [x]) = _
    rw [bxsV_snoc, bxsV_range h n (by omega)]
    congr 1
    unfold bx5 pl1
    rw [hb, hr]
theorem bxsV_plan {p : List ByteArray} (hp : PlanP p) : bxsV (scanB p.length (wideB p) (gridG p) (p.length * wideB p)) = plL (bxP p) (List.range (gridR p)) ∧ (scanB p.length (wideB p) (gridG p) (p.length * wideB p)).length = gridR p := by
  obtain ⟨hl, hb⟩ := hp.boxes
  refine ⟨?_, hl⟩
  have := bxsV_range (bx := bxP p) (L := scanB p.length (wideB p) (gridG p) (p.length * wideB p)) (fun a ha => by
    rw [hl] at ha
    obtain ⟨x, hx, hbx⟩ := hb a ha
    exact ⟨x, hx, by unfold bxP; rw [hx]; rfl, hbx.1⟩) (gridR p) (by omega)
  rwa [List.take_of_length_le (by omega)] at this
theorem allR_clo {p : List ByteArray} (h : planB p = true) : (allR p).Clo (gridG p) p.length (wideB p) :=
  ⟨(allR_fit h).1, fun _ _ i' j' _ h1 h2 _ => by unfold allR Rc.has; simp; exact ⟨h1, h2⟩⟩
theorem allR_rooms {p : List ByteArray} (h : planB p = true) : (allR p).rooms (gridG p) (gridR p) = List.range (gridR p) := by
  unfold Rc.rooms
  rw [List.filter_eq_self]
  intro a ha
  rw [List.mem_range] at ha
  have hp := planP_of h
  have hb := bxP_of hp ha
  have h1 := hb.2.1; have h2 := hb.2.2.1; have h3 := hb.2.2.2.1; have h4 := hb.2.2.2.2.1
  rw [Rc.room_iff]
  refine ⟨(bxP p a).row, (bxP p a).col, ?_, ?_⟩
  · unfold allR Rc.has; simp only; omega
  · exact ((boxy_of hp).cell a _ _ ha (by omega) (by omega)).2 ⟨by omega, by omega, by omega, by omega⟩
theorem planR_le9 (p : List ByteArray) : planR p ≤ 9 := by
  unfold planR; split
  · rename_i h; exact (planP_of h).few
  · omega
/-- what is told of all of a plan -/
def CutRet (p : List ByteArray) (e : Ending) (w' : World) : Prop :=
  ∃ ro m rc, e = .returned (.tuple #[.slice ro m rc, .bool (treeP p).isSome]) ∧ (planB p = true → m = gridR p ∧ CellsAt w' ro (plL (bxP p) (List.range (gridR p))))
theorem whole_any (h wd r : Nat) (g : Nat → Nat → Nat) (hh : h ≤ 6) (hw : wd ≤ 6) (hr9 : r ≤ 9) (w : World) :
    Calls Try.prog 44 #[.agg (planC h wd r g)] w fun e W' => ∃ ro rc, e = .returned (.slice ro (scanB h wd g (h * wd)).length rc) ∧ W'.ownsRow w.heap.size 57 5 (.slice ro (scanB h wd g (h * wd)).length rc) (scanB h wd g (h * wd)).length (bxsV (scanB h wd g (h * wd))) ∧ Below w.heap.size w W' :=
  callsIn_wide.1 (whole_in 6 (Nat.le_refl _) h wd r g hh hw hr9 w)

set_option maxRecDepth 100000 in
set_option maxHeartbeats 4000000 in
theorem readCuttable_any (ao : Option Addr) (cap : Nat) (p : List ByteArray) (w : World) (hl : p.length ≤ 1048576) (hs : ∀ s ∈ p, s.size ≤ 1048576) (hc : CellsAt w ao (p.map Value.string)) :
    Calls Try.prog 34 #[.slice ao p.length cap] w fun e w' => CutRet p e w' ∧ Below w.heap.size w w' := by
  have HRD := Lib.hid (readPlan_any ao cap p w hl hs hc)
  have hN0 : ∀ W, (binOp .eql 41 (.slice none 0 0) (.slice none 0 0)).run Try.prog W = .ok (.bool true) W := fun W => Lib.run_eql_slice_nil_nil W _ _ Try.underlying41
  have hN1 : ∀ a m c W, (binOp .eql 41 (.slice (some a) m c) (.slice none 0 0)).run Try.prog W = .ok (.bool false) W := fun a m c W => Lib.run_eql_slice_some_nil W a m c Try.underlying41
  rw [readC_plan, readOk_eq] at HRD
  have HWH := Lib.hid (fun w => whole_any (planH p) (planW p) (planR p) (planG p) (planH_le p) (planW_le p) (planR_le9 p) w)
  have HSZ := Lib.hid (show (Try.prog.info? 50).map (·.size) = some (planC (planH p) (planW p) (planR p) (planG p)).size by rw [planC_size]; kernel_rfl)
  have HCS := Lib.hid (planC_size (planH p) (planW p) (planR p) (planG p))
  have HONE := Lib.hid (planC_one (planH p) (planW p) (planR p) (planG p))
  unfold CutRet
  cases h : planB p
  · rw [treeP_no h]
    rw [h] at HRD
    generalize planC (planH p) (planW p) (planR p) (planG p) = C at *
    generalize bxsV (scanB (planH p) (planW p) (planG p) (planH p * planW p)) = XV at *
    generalize (scanB (planH p) (planW p) (planG p) (planH p * planW p)).length = XN at *
    clear h hN0 hN1
    go_enter Try.func34, Try.ntmps34
    go_wp2_with fail
    refine HRD.out.mono ?_
    rintro e w1 ⟨rfl, hb1⟩
    have bC := HeldB.new w1 50 C
    go_wp2_with (first
      | (refine wpList_alloc_zero rfl 50 rfl zeroC zero_plan ?_)
      | (refine wpList_store_new rfl 50 _ _ rfl _ zeroC C rfl rfl rfl HSZ.out (by rw [HCS.out]; rfl) HONE.out ?_)
      | (refine wpList_load_row rfl 50 _ rfl w1.heap.size rfl 50 C (0, 0) _ bC Try.underlying50 rfl HSZ.out ?_)
      | (go_at_call 44; refine (HWH.out _).mono ?_; rintro e w2 ⟨ro, rc, rfl, hown, hb2⟩))
    go_ret2
    exact ⟨⟨_, _, _, rfl, fun h => by cases h⟩, below_step (hb1.alloc hb1.size _) (hb1.alloc hb1.size _).size hb2⟩
  · have hp := planP_of h
    have e1 : planH p = p.length := if_pos h
    have e2 : planW p = wideB p := if_pos h
    have e3 : planR p = gridR p := if_pos h
    have e4 : planG p = gridG p := if_pos h
    rw [h] at HRD
    rw [e1, e2, e3, e4] at HWH HRD HSZ HCS HONE
    rw [(bxsV_plan hp).1, (bxsV_plan hp).2] at HWH
    have hC := allR_clo h
    have HST := Lib.hid (fun po cap w hc => stuck_any (boxy_of hp) 12 (allR p) po cap w hC (allR_fit h).2 hc)
    rw [allR_rooms h, List.length_range] at HST
    have hts := Rc.tree_stuck (g := gridG p) (n := 12) (allR_fit h).1 (allR_fit h).2
    rw [treeP_yes h]
    generalize planC p.length (wideB p) (gridR p) (gridG p) = C at *
    have HTS := Lib.hid hts
    clear hts hC h e1 e2 e3 e4
    generalize (allR p).tree (gridG p) 12 = T at *
    generalize (allR p).stuck (gridG p) 12 = K at *
    go_enter Try.func34, Try.ntmps34
    go_wp2_with fail
    refine HRD.out.mono ?_
    rintro e w1 ⟨rfl, hb1⟩
    have bC := HeldB.new w1 50 C
    go_wp2_with (first
      | (refine wpList_alloc_zero rfl 50 rfl zeroC zero_plan ?_)
      | (refine wpList_store_new rfl 50 _ _ rfl _ zeroC C rfl rfl rfl HSZ.out (by rw [HCS.out]; rfl) HONE.out ?_)
      | (refine wpList_load_row rfl 50 _ rfl w1.heap.size rfl 50 C (0, 0) _ bC Try.underlying50 rfl HSZ.out ?_)
      | (go_at_call 44; refine (HWH.out _).mono ?_; rintro e w2 ⟨ro, rc, rfl, hown, hb2⟩; have hcl := ownsK_cells hown))
    refine (HST.out _ _ _ hcl).mono ?_
    rintro e w3 ⟨⟨so, sm, sc, rfl, hs1, hs2⟩, hb3⟩
    have hcl3 := hcl.below hb3
    have hbx := below_step (below_step (hb1.alloc hb1.size (.cells C 50)) (hb1.alloc hb1.size _).size hb2) (below_step (hb1.alloc hb1.size _) (hb1.alloc hb1.size _).size hb2).size hb3
    cases K with
    | none =>
      obtain ⟨rfl, rfl, rfl⟩ := hs1 rfl
      have ht : T.isSome = true := HTS.out.2 rfl
      have HT := Lib.hid ht
      clear hs1 hs2 ht
      go_wp2
      go_ret2
      exact ⟨⟨_, _, _, by rw [HT.out]; rfl, fun _ => ⟨rfl, hcl3⟩⟩, hbx⟩
    | some S =>
      obtain ⟨sa, rfl, rfl, hcs⟩ := hs2 S rfl
      have ht : T.isSome = false := by
        cases hT : T.isSome
        · rfl
        · have := HTS.out.1 hT; cases this
      have HT := Lib.hid ht
      clear hs1 hs2 ht hcs
      go_wp2
      go_ret2
      exact ⟨⟨_, _, _, by rw [HT.out]; rfl, fun _ => ⟨rfl, hcl3⟩⟩, hbx⟩
set_option maxRecDepth 100000 in
theorem implCutIs_any (ao : Option Addr) (cap : Nat) (p : List ByteArray) (w : World) (hl : p.length ≤ 1048576) (hs : ∀ s ∈ p, s.size ≤ 1048576) (hc : CellsAt w ao (p.map Value.string)) :
    Calls Try.prog 13 #[.slice ao p.length cap] w fun e w' => e = .returned (.bool (treeP p).isSome) ∧ Below w.heap.size w w' := by
  have HR := Lib.hid (readCuttable_any ao cap p w hl hs hc)
  go_enter Try.func13, Try.ntmps13
  go_wp2_with (go_at_call 34; refine HR.out.mono ?_; rintro e w1 ⟨⟨ro, m, rc, rfl, -⟩, hb1⟩)
  go_ret
  exact ⟨rfl, hb1⟩

end Go.Proofs.Ythlbekookpcacaa
