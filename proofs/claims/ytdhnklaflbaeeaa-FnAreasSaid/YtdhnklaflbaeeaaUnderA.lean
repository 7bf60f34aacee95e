
/-
  Plans below each other: the model's answer and the program's. (Walks.)
-/
import Derived.Test.YtdhnklaflbaeeaaLaterA
import Derived.Test.YtdhnklaflbaeeaaBytes
import Derived.Test.YtdhnklaflbaeeaaImplO
import Derived.Test.YtdhnklaflbaeeaaWideA
namespace Go.Proofs.Ytdhnklaflbaeeaa
open Go.RowKit

def underT (p q : List ByteArray) : List ByteArray := rowsT (p.length + q.length) (wideB p) (undM p.length (markN p) (markN q))
def underOk (p q : List ByteArray) : Bool := planB p && (planB q && (decide (wideB p = wideB q) && doneB (underT p q)))

theorem rowsT_append (h h' wd : Nat) (g g2 : Nat → Nat → Nat) : rowsT h wd g ++ rowsT h' wd g2 = rowsT (h + h') wd (fun i j => if i < h then g i j else g2 (i - h) j) := by
  unfold rowsT
  rw [List.range_add, List.map_append, List.map_map]
  congr 1
  · refine List.map_congr_left fun i hi => ?_
    rw [List.mem_range] at hi
    congr 2
    unfold rowT
    exact List.map_congr_left fun j _ => by show _ = UInt8.ofNat (97 + if i < h then g i j else g2 (i - h) j); rw [if_pos hi]
  · refine List.map_congr_left fun i _ => ?_
    show _ = (⟨_⟩ : ByteArray)
    congr 2
    unfold rowT
    exact List.map_congr_left fun j _ => by show _ = UInt8.ofNat (97 + if h + i < h then g (h + i) j else g2 (h + i - h) j); rw [if_neg (by omega), Nat.add_sub_cancel_left]

theorem under_text {p q : List ByteArray} (hp : GridP p) (he : wideB p = wideB q) : p ++ laterB q = underT p q := by
  conv => lhs; rw [text_of hp]
  unfold laterB underT
  rw [← he, rowsT_append]
  rfl

theorem under_math {p q : List ByteArray} (h : planB p = true) (h' : planB q = true) (he : wideB p = wideB q) :
    doneB (underT p q) = drawOk (p.length + q.length : Nat) (wideB p) (undM p.length (gridG p) (gridG q)) ∧
    orNone (doneB (underT p q)) (namesB (underT p q)) = orNone (drawOk (p.length + q.length : Nat) (wideB p) (undM p.length (gridG p) (gridG q))) (rowsT (p.length + q.length) (wideB p) (renG (p.length + q.length) (wideB p) (undM p.length (gridG p) (gridG q)))) := by
  have hp := planP_of h
  have hq := planP_of h'
  have h1 := hp.grid.h1
  refine same_rows (by omega) hp.grid.w1 (fun i j hi hj => ?_) (sameG_of_eq fun i j hi hj => ?_)
  · unfold undM
    split
    · exact markN_lt p i j
    · have := hq.lt (i := i - p.length) (j := j) (by omega) (by omega)
      have := hq.few
      omega
  · unfold undM
    split
    · exact hp.mark i j (by omega) hj
    · rw [hq.mark (i - p.length) j (by omega) (by omega)]

theorem under_few (p q : List ByteArray) : (orNone (underOk p q) (namesB (underT p q))).length ≤ 1048576 := by
  cases h : underOk p q
  · rw [orNone_no rfl]; exact Nat.zero_le _
  · unfold underOk at h
    simp only [Bool.and_eq_true] at h
    have := names_few (underT p q)
    rw [h.2.2.2] at this
    exact this

set_option maxHeartbeats 1000000 in
theorem specUnder_any (ao bo : Option Addr) (cap capb : Nat) (p q : List ByteArray) (w : World) (hl : p.length ≤ 1048576) (hs : ∀ s ∈ p, s.size ≤ 1048576) (hl' : q.length ≤ 1048576) (hs' : ∀ s ∈ q, s.size ≤ 1048576) (hc : CellsAt w ao (p.map Value.string)) (hc' : CellsAt w bo (q.map Value.string)) :
    Calls Try.prog 53 #[.slice ao p.length cap, .slice bo q.length capb] w fun e w' => TextsRet w.heap.size (orNone (underOk p q) (namesB (underT p q))) (underOk p q) e w' ∧ Below w.heap.size w w' := by
  have HP := Lib.hid (fun (d : Nat) (os : Array Obj) => Calls.regrown_of (specPlanIn_any ao cap p (Sort.grow (redrawn w d) os) hl hs (hc.below (below_regrown w d os))))
  have HQ := Lib.hid (fun (d : Nat) (os : Array Obj) => Calls.regrown_of (specPlanIn_any bo capb q (Sort.grow (redrawn w d) os) hl' hs' (hc'.below (below_regrown w d os))))
  have HC := Lib.hid hc
  have HC' := Lib.hid hc'
  clear hc hc'
  cases hp : planB p
  · have hw : underOk p q = false := by unfold underOk; rw [hp]; rfl
    rw [orNone_no hw, hw]
    rw [hp] at HP
    go_enter Try.func53, Try.ntmps53
    go_wp2
    refine wp_region_quiet_below (by kernel_rfl) (by kernel_rfl) ?_
    repeat (first | go_big_quiet_step (with_reducible exact HP.out _ _) | quiet_step (with_reducible exact HP.out _ _))
    refine wpQuiet_nil ?_
    rintro _ ⟨r, rfl⟩
    have hb1 := below_regrown w r.d r.os
    go_wp2_with (go_at_call 98; refine (l1None_any _).mono ?_; rintro e w2 ⟨⟨ro, rc, rfl, hown2⟩, hb2⟩)
    go_ret2
    exact ⟨⟨_, _, rfl, ownsRow_base hown2 hb1.size⟩, below_step hb1 hb1.size hb2⟩
  · cases hq : planB q
    · have hw : underOk p q = false := by unfold underOk; rw [hq, Bool.false_and, Bool.and_false]
      rw [orNone_no hw, hw]
      rw [hp] at HP
      rw [hq] at HQ
      go_enter Try.func53, Try.ntmps53
      go_wp2
      refine wp_region_quiet_below (by kernel_rfl) (by kernel_rfl) ?_
      repeat (first | go_big_quiet_step (with_reducible first | exact HP.out _ _ | exact HQ.out _ _) | quiet_step (with_reducible first | exact HP.out _ _ | exact HQ.out _ _))
      refine wpQuiet_nil ?_
      rintro _ ⟨r, rfl⟩
      have hb1 := below_regrown w r.d r.os
      go_wp2_with (go_at_call 98; refine (l1None_any _).mono ?_; rintro e w2 ⟨⟨ro, rc, rfl, hown2⟩, hb2⟩)
      go_ret2
      exact ⟨⟨_, _, rfl, ownsRow_base hown2 hb1.size⟩, below_step hb1 hb1.size hb2⟩
    · have hgp := (planP_of hp).grid
      have hgq := (planP_of hq).grid
      rw [hp] at HP
      rw [hq] at HQ
      obtain ⟨b1, o1, rfl, k1⟩ := HC.out.str 0 hgp.h1
      obtain ⟨b2, o2, rfl, k2⟩ := HC'.out.str 0 hgq.h1
      rw [Nat.add_zero] at k1 k2
      have hs1 : (p.getD 0 ByteArray.empty).size = wideB p := rfl
      have hs2 : (q.getD 0 ByteArray.empty).size = wideB q := rfl
      generalize p.getD 0 ByteArray.empty = p0 at *
      generalize q.getD 0 ByteArray.empty = q0 at *
      have cA : ∀ r : Regrown, (Sort.grow (redrawn w r.d) r.os).cell? ⟨b1, o1, none⟩ = some (.string p0) := fun r => cell_regrown k1 r.d r.os
      have cB : ∀ r : Regrown, (Sort.grow (redrawn w r.d) r.os).cell? ⟨b2, o2, none⟩ = some (.string q0) := fun r => cell_regrown k2 r.d r.os
      have p1 := hgp.h1; have p6 := hgp.h6; have q1 := hgq.h1; have q6 := hgq.h6; have pw := hgp.w6
      have hpp : 0 < p.length := p1
      have hqq : 0 < q.length := q1
      cases he : decide (wideB p = wideB q)
      · have hw : underOk p q = false := by unfold underOk; rw [he, Bool.false_and, Bool.and_false, Bool.and_false]
        rw [orNone_no hw, hw]
        have hbe : ((p0.size : Int) != (q0.size : Int)) = true := by rw [bne_iff_ne]; have := of_decide_eq_false he; omega
        have hbe2 : ((p0.size : Int) == (q0.size : Int)) = false := beq_eq_false_iff_ne.2 (by have := of_decide_eq_false he; omega)
        clear hs1 hs2 he hw hgp hgq
        go_enter Try.func53, Try.ntmps53
        go_wp2
        refine wp_region_quiet_below (by kernel_rfl) (by kernel_rfl) ?_
        repeat (first | go_big_quiet_step (with_reducible first | exact HP.out _ _ | exact HQ.out _ _) | quiet_step (with_reducible first | exact HP.out _ _ | exact HQ.out _ _))
        refine wpQuiet_nil ?_
        rintro _ ⟨r, rfl⟩
        have hb1 := below_regrown w r.d r.os
        go_wp2_with (go_at_call 98; refine (l1None_any _).mono ?_; rintro e w2 ⟨⟨ro, rc, rfl, hown2⟩, hb2⟩)
        go_ret2
        exact ⟨⟨_, _, rfl, ownsRow_base hown2 hb1.size⟩, below_step hb1 hb1.size hb2⟩
      · have hwe := of_decide_eq_true he
        have hw : underOk p q = doneB (underT p q) := by unfold underOk; rw [hp, hq, he]; rfl
        rw [hw]
        have hbe : ((p0.size : Int) != (q0.size : Int)) = false := by rw [bne_eq_false_iff_eq]; omega
        have hbe2 : ((p0.size : Int) == (q0.size : Int)) = true := beq_iff_eq.2 (by omega)
        obtain ⟨it, hti, htz, ht1, ht2⟩ := info_parts Try.infoText
        have HLA := Lib.hid (fun (cap : Nat) (W : World) (h : CellsAt W (some ⟨b2, o2, none⟩) (q.map Value.string)) => l1Later_any (some ⟨b2, o2, none⟩) cap q W hgq (fun i j hi hj => by have := (planP_of hq).lt hi hj; have := (planP_of hq).few; omega) h)
        have HTE := Lib.hid (under_text (q := q) hgp hwe)
        have HLQ := Lib.hid (show (laterB q).length = q.length by unfold laterB; rw [rowsT_len])
        have hTl : (underT p q).length = p.length + q.length := by unfold underT; rw [rowsT_len]
        have hTs : ∀ s ∈ underT p q, s.size ≤ 1048576 := fun s hs => by
          unfold underT at hs
          rw [rowsT_mat] at hs
          rw [matB_size s hs]; omega
        have HDN := Lib.hid (fun (ao : Option Addr) (cap : Nat) (w : World) => l1Done_any ao cap (p.length + q.length) (underT p q) w hTl (by rw [hTl]; omega) hTs)
        have honeS : ∀ (l : List ByteArray), ∀ u ∈ l.map Value.string, u.oneCell' = true := fun l u hu => by
          rw [List.mem_map] at hu; obtain ⟨s, _, rfl⟩ := hu; rfl
        have HONE := Lib.hid honeS
        have hb1' : p.length ≤ maxLen := by unfold maxLen; omega
        have hb2' : p.length * 16 ≤ 140737488355328 := by omega
        have hb3' : p.length + q.length ≤ maxLen := by unfold maxLen; omega
        have hb4' : (p.length + q.length) * 16 ≤ 140737488355328 := by omega
        clear hs1 hs2 he hw hgp hgq hTl hTs honeS hwe
        go_enter Try.func53, Try.ntmps53
        go_wp2
        refine wp_region_quiet_below (by kernel_rfl) (by kernel_rfl) ?_
        repeat (first | go_big_quiet_step (with_reducible first | exact HP.out _ _ | exact HQ.out _ _) | quiet_step (with_reducible first | exact HP.out _ _ | exact HQ.out _ _))
        refine wpQuiet_nil ?_
        rintro _ ⟨r, rfl⟩
        have hb1 := below_regrown w r.d r.os
        have hcp := HC.out.below hb1
        have hcq := HC'.out.below hb1
        generalize Sort.grow (redrawn w r.d) r.os = w1 at *
        have hr1 : (w1.alloc (.cells #[] 9)).ownsRow w1.heap.size 9 1 (.slice (some ⟨w1.heap.size, 0, none⟩) 0 0) 0 [] := World.ownsRow_made w1 #[] 0 (Nat.le_refl _) (Nat.zero_le _) rfl
        have hb0 := below_alloc w1 (.cells #[] 9)
        have hcp2 := hcp.below hb0
        have hcq2 := hcq.below hb0
        clear cA cB
        go_wp2_with (at_builtin; refine wpList_join rfl (.tmp 28) (.tmp 29) 23 rfl w1.heap.size 9 it (.string ⟨#[]⟩) 16 Try.underlying23 hti htz ht1 ht2 rfl _ 0 _ _ rfl hr1 _ _ _ p.length (Nat.zero_add _) rfl (p.map Value.string) (List.length_map _) hpp hcp2 (HONE.out _) hb1' hb2' (by simp) ?_; intro a2 c2 w2 ow2 g2)
        rw [List.nil_append] at ow2
        have hB2 : Below w1.heap.size w1 w2 := hb0.trans (below_of_grownBy g2 (by simp) (fun k hk => by simp only [Value.ownBlock, Option.some.injEq] at hk; omega))
        have hcq3 := hcq.below hB2
        clear g2 hr1 hb0 hcp2 hcq2
        refine (HLA.out _ _ hcq3).mono ?_
        rintro e w3 ⟨r3, c3, rfl, o3, b3⟩
        have ow3 := ownsRow_below ow2 b3
        have hc3 := owns_cells o3
        have hB3 := below_step hB2 hB2.size b3
        have hB3s := hB3.size
        clear ow2 o3
        go_wp2_with (at_builtin; refine wpList_join rfl (.tmp 30) (.tmp 32) 23 rfl w1.heap.size 9 it (.string ⟨#[]⟩) 16 Try.underlying23 hti htz ht1 ht2 rfl a2 p.length c2 _ rfl ow3 _ _ _ (p.length + q.length) rfl rfl ((laterB q).map Value.string) (by rw [List.length_map]; exact HLQ.out) hqq hc3 (HONE.out _) hb3' hb4' hB3s ?_; intro a4 c4 w4 ow4 g4)
        rw [← List.map_append, HTE.out] at ow4
        have hc4 := owns_cells ow4
        have hB4 : Below w1.heap.size w1 w4 := hB3.trans (below_of_grownBy g4 hB3s (fun k hk => by
          cases a2 with
          | none => simp [Value.ownBlock] at hk
          | some b => simp only [Value.ownBlock, Option.some.injEq] at hk; subst hk; exact (owns_lt ow3 b rfl).1))
        refine (HDN.out _ _ _ hc4).mono ?_
        rintro e w5 ⟨⟨r5, c5, rfl, o5⟩, b5⟩
        go_wp2
        have z4 := below_step hb1 hb1.size hB4
        go_ret2
        exact ⟨⟨_, _, rfl, ownsRow_base o5 z4.size⟩, below_step z4 z4.size b5⟩

theorem implUnder_any (ao bo : Option Addr) (cap capb : Nat) (p q : List ByteArray) (w : World) (hl : p.length ≤ 1048576) (hs : ∀ s ∈ p, s.size ≤ 1048576) (hl' : q.length ≤ 1048576) (hs' : ∀ s ∈ q, s.size ≤ 1048576) (hc : CellsAt w ao (p.map Value.string)) (hc' : CellsAt w bo (q.map Value.string)) :
    Calls Try.prog 52 #[.slice ao p.length cap, .slice bo q.length capb] w fun e w' => TextsRet w.heap.size (orNone (underOk p q) (namesB (underT p q))) (underOk p q) e w' ∧ Below w.heap.size w w' := by
  have hT : underOk p q = (readOk p && (readOk q && (decide (wideB p = wideB q) && drawOk (p.length + q.length : Nat) (wideB p : Nat) (undM p.length (gridG p) (gridG q))))) ∧
      orNone (underOk p q) (namesB (underT p q)) = orNone (readOk p && (readOk q && (decide (wideB p = wideB q) && drawOk (p.length + q.length : Nat) (wideB p : Nat) (undM p.length (gridG p) (gridG q))))) (rowsT (p.length + q.length) (wideB p) (renG (p.length + q.length) (wideB p) (undM p.length (gridG p) (gridG q)))) := by
    rw [readOk_eq, readOk_eq]
    unfold underOk
    cases hp : planB p
    · exact ⟨rfl, rfl⟩
    · cases hq : planB q
      · exact ⟨rfl, rfl⟩
      · cases he : decide (wideB p = wideB q)
        · exact ⟨rfl, rfl⟩
        · have := under_math hp hq (of_decide_eq_true he)
          simp only [Bool.true_and]
          exact this
  have HR := Lib.hid (join_any 112 (decide (wideB p = wideB q) && drawOk (p.length + q.length : Nat) (wideB p : Nat) (undM p.length (gridG p) (gridG q)))
    (ifC (decide (wideB p = wideB q)) (drawC (p.length + q.length : Nat) (wideB p : Nat) (undM p.length (gridG p) (gridG q)))) (p.length + q.length) (wideB p) (markF (p.length + q.length) (wideB p) (undM p.length (gridG p) (gridG q))).length
    (renG (p.length + q.length) (wideB p) (undM p.length (gridG p) (gridG q))) ao cap p bo capb q w hl hs hc hl' hs' hc' Try.call112 (ifC_39 _ (drawC_39 _ _ _)) (ifC_one _ (drawC_one _ _ _))
    (fun hr hr' W => by
      have hd := read_dims hr
      have hd' := read_dims hr'
      have := under_any p.length (wideB p) (gridR p) q.length (wideB q) (gridR q) (gridG p) (gridG q) W hd.1 hd.2.1 hd'.1 hd.2.2 hd'.2.2
      rw [← readC_ok hr, ← readC_ok hr'] at this
      exact this)
    (fun hb => by
      rw [Bool.and_eq_true] at hb
      rw [ifC_yes hb.1]
      exact drawC_ok hb.2))
  rw [hT.1] at *
  rw [hT.2]
  clear hT
  generalize (readOk p && (readOk q && (decide (wideB p = wideB q) && drawOk (p.length + q.length : Nat) (wideB p : Nat) (undM p.length (gridG p) (gridG q))))) = b at *
  go_enter Try.func52, Try.ntmps52
  go_wp2_with (go_at_call 110; refine (HR.out).mono ?_; rintro e w1 ⟨⟨ro, rc, rfl, hown1⟩, hb1⟩)
  go_ret2
  exact ⟨⟨ro, rc, rfl, hown1⟩, hb1⟩

end Go.Proofs.Ytdhnklaflbaeeaa
