
/-
  Plans beside each other: the model's answer and the program's. (Walks.)
-/
import Derived.Test.YtdhnklaflbaeeaaUnderA
import Derived.Deep.RegionHeld3
import Derived.Deep.AppendLies
namespace Go.Proofs.Ytdhnklaflbaeeaa
open Go.RowKit

def besideT (p q : List ByteArray) : List ByteArray := rowsT p.length (wideB p + wideB q) (besM (wideB p) (markN p) (markN q))
def besideOk (p q : List ByteArray) : Bool := planB p && (planB q && (decide (p.length = q.length) && doneB (besideT p q)))

theorem rowT_append (wd wd' i : Nat) (g g2 : Nat → Nat → Nat) : rowT wd g i ++ rowT wd' g2 i = rowT (wd + wd') (fun i j => if j < wd then g i j else g2 i (j - wd)) i := by
  unfold rowT
  rw [List.range_add, List.map_append, List.map_map]
  congr 1
  · refine List.map_congr_left fun j hj => ?_
    rw [List.mem_range] at hj
    show _ = UInt8.ofNat (97 + if j < wd then g i j else g2 i (j - wd))
    rw [if_pos hj]
  · refine List.map_congr_left fun j _ => ?_
    show _ = UInt8.ofNat (97 + if wd + j < wd then g i (wd + j) else g2 i (wd + j - wd))
    rw [if_neg (by omega), Nat.add_sub_cancel_left]
theorem beside_math {p q : List ByteArray} (h : planB p = true) (h' : planB q = true) (he : p.length = q.length) :
    doneB (besideT p q) = drawOk p.length (wideB p + wideB q : Nat) (besM (wideB p) (gridG p) (gridG q)) ∧
    orNone (doneB (besideT p q)) (namesB (besideT p q)) = orNone (drawOk p.length (wideB p + wideB q : Nat) (besM (wideB p) (gridG p) (gridG q))) (rowsT p.length (wideB p + wideB q) (renG p.length (wideB p + wideB q) (besM (wideB p) (gridG p) (gridG q)))) := by
  have hp := planP_of h
  have hq := planP_of h'
  have h1 := hp.grid.w1
  refine same_rows hp.grid.h1 (by omega) (fun i j hi hj => ?_) (sameG_of_eq fun i j hi hj => ?_)
  · unfold besM
    split
    · exact markN_lt p i j
    · have := hq.lt (i := i) (j := j - wideB p) (by omega) (by omega)
      have := hq.few
      omega
  · unfold besM
    split
    · exact hp.mark i j hi (by omega)
    · rw [hq.mark i (j - wideB p) (by omega) (by omega)]

theorem beside_few (p q : List ByteArray) : (orNone (besideOk p q) (namesB (besideT p q))).length ≤ 1048576 := by
  cases h : besideOk p q
  · rw [orNone_no rfl]; exact Nat.zero_le _
  · unfold besideOk at h
    simp only [Bool.and_eq_true] at h
    have := names_few (besideT p q)
    rw [h.2.2.2] at this
    exact this

set_option maxRecDepth 100000 in
set_option maxHeartbeats 3200000 in
theorem specBeside_any (ao bo : Option Addr) (cap capb : Nat) (p q : List ByteArray) (w : World) (hl : p.length ≤ 1048576) (hs : ∀ s ∈ p, s.size ≤ 1048576) (hl' : q.length ≤ 1048576) (hs' : ∀ s ∈ q, s.size ≤ 1048576) (hc : CellsAt w ao (p.map Value.string)) (hc' : CellsAt w bo (q.map Value.string)) :
    Calls Try.prog 50 #[.slice ao p.length cap, .slice bo q.length capb] w fun e w' => TextsRet w.heap.size (orNone (besideOk p q) (namesB (besideT p q))) (besideOk p q) e w' ∧ Below w.heap.size w w' := by
  cases hp : planB p
  · have hw : besideOk p q = false := by unfold besideOk; rw [hp]; rfl
    rw [orNone_no hw, hw]
    go_enter Try.func50, Try.ntmps50
    go_wp2_with fail
    refine (specPlanIn_any _ _ _ _ hl hs hc).mono ?_
    rw [hp]; rintro e w1 ⟨rfl, hb1⟩
    go_wp2_with (go_at_call 98; refine (l1None_any _).mono ?_; rintro e w2 ⟨⟨ro, rc, rfl, hown2⟩, hb2⟩)
    go_ret2
    exact ⟨⟨_, _, rfl, ownsRow_base hown2 hb1.size⟩, below_step hb1 hb1.size hb2⟩
  · cases hq : planB q
    · have hw : besideOk p q = false := by unfold besideOk; rw [hq, Bool.false_and, Bool.and_false]
      rw [orNone_no hw, hw]
      go_enter Try.func50, Try.ntmps50
      go_wp2_with fail
      refine (specPlanIn_any _ _ _ _ hl hs hc).mono ?_
      rw [hp]; rintro e w1 ⟨rfl, hb1⟩
      go_wp2_with fail
      refine (specPlanIn_any _ _ _ _ hl' hs' (hc'.below hb1)).mono ?_
      rw [hq]; rintro e w2 ⟨rfl, hb2⟩
      have z2 := below_step hb1 hb1.size hb2
      go_wp2_with (go_at_call 98; refine (l1None_any _).mono ?_; rintro e w3 ⟨⟨ro, rc, rfl, hown3⟩, hb3⟩)
      go_ret2
      exact ⟨⟨_, _, rfl, ownsRow_base hown3 z2.size⟩, below_step z2 z2.size hb3⟩
    · cases he : decide (p.length = q.length)
      · have hw : besideOk p q = false := by unfold besideOk; rw [he, Bool.false_and, Bool.and_false, Bool.and_false]
        rw [orNone_no hw, hw]
        have hbe : ((p.length : Int) != (q.length : Int)) = true := by rw [bne_iff_ne]; have := of_decide_eq_false he; omega
        have hbe2 : ((p.length : Int) == (q.length : Int)) = false := beq_eq_false_iff_ne.2 (by have := of_decide_eq_false he; omega)
        clear he hw
        go_enter Try.func50, Try.ntmps50
        go_wp2_with fail
        refine (specPlanIn_any _ _ _ _ hl hs hc).mono ?_
        rw [hp]; rintro e w1 ⟨rfl, hb1⟩
        go_wp2_with fail
        refine (specPlanIn_any _ _ _ _ hl' hs' (hc'.below hb1)).mono ?_
        rw [hq]; rintro e w2 ⟨rfl, hb2⟩
        have z2 := below_step hb1 hb1.size hb2
        go_wp2_with (go_at_call 98; refine (l1None_any _).mono ?_; rintro e w3 ⟨⟨ro, rc, rfl, hown3⟩, hb3⟩)
        go_ret2
        exact ⟨⟨_, _, rfl, ownsRow_base hown3 z2.size⟩, below_step z2 z2.size hb3⟩
      · have hle := of_decide_eq_true he
        have hw : besideOk p q = doneB (besideT p q) := by unfold besideOk; rw [hp, hq, he]; rfl
        rw [hw]
        have hgp := (planP_of hp).grid
        have hgq := (planP_of hq).grid
        have p1 := hgp.h1; have p6 := hgp.h6; have q1 := hgq.h1; have q6 := hgq.h6; have pw := hgp.w6; have qw := hgq.w6
        have hbe : ((p.length : Int) != (q.length : Int)) = false := by rw [bne_eq_false_iff_eq]; omega
        have hbe2 : ((p.length : Int) == (q.length : Int)) = true := beq_iff_eq.2 (by omega)
        have HLE := Lib.hid hle
        obtain ⟨it, hti, htz, ht1, ht2⟩ := info_parts Try.infoText
        have HLA := Lib.hid (fun (W : World) (h : CellsAt W bo (q.map Value.string)) => l1Later_any bo capb q W hgq (fun i j hi hj => by have := (planP_of hq).lt hi hj; have := (planP_of hq).few; omega) h)
        have hTl : (besideT p q).length = p.length := by unfold besideT; rw [rowsT_len]
        have hTs : ∀ s ∈ besideT p q, s.size ≤ 1048576 := fun s hs => by
          unfold besideT at hs
          rw [rowsT_mat] at hs
          rw [matB_size s hs]; omega
        have HDN := Lib.hid (fun (ao : Option Addr) (cap : Nat) (w : World) => l1Done_any ao cap p.length (besideT p q) w hTl (by rw [hTl]; omega) hTs)
        have hrow : ∀ i, i < p.length → p.getD i ByteArray.empty = ⟨(rowT (wideB p) (markN p) i).toArray⟩ := fun i hi => by
          conv => lhs; rw [text_of hgp]
          rw [rowsT_row hi]
        have HROW := Lib.hid hrow
        have hlat : ∀ i, i < q.length → (laterB q).getD i ByteArray.empty = ⟨(rowT (wideB q) (fun i j => 9 + markN q i j) i).toArray⟩ := fun i hi => by
          unfold laterB; rw [rowsT_row hi]
        have HLAT := Lib.hid hlat
        have HLQ := Lib.hid (show (laterB q).length = q.length by unfold laterB; rw [rowsT_len])
        obtain ⟨b1, o1, rfl, k0⟩ := hc.str 0 p1
        have hb1w : b1 < w.heap.size := World.block_lt_of_cell? _ _ k0
        clear k0
        have HC := Lib.hid hc
        have HC' := Lib.hid hc'
        clear he hw hgp hgq hTl hTs hle hrow hlat hc'
        go_enter Try.func50, Try.ntmps50
        go_wp2_with fail
        refine (specPlanIn_any _ _ _ _ hl hs hc).mono ?_
        rw [hp]; rintro e w1 ⟨rfl, hb1⟩
        go_wp2_with fail
        refine (specPlanIn_any _ _ _ _ hl' hs' (HC'.out.below hb1)).mono ?_
        rw [hq]; rintro e w2 ⟨rfl, hb2⟩
        have z2 := below_step hb1 hb1.size hb2
        have hb0 := below_alloc w2 (.cells #[] 9)
        have hcp2 := HC.out.below z2
        have hcq2 := (HC'.out.below z2).below hb0
        have hr1 : (w2.alloc (.cells #[] 9)).ownsRow w2.heap.size 9 1 (.slice (some ⟨w2.heap.size, 0, none⟩) 0 0) 0 [] := World.ownsRow_made w2 #[] 0 (Nat.le_refl _) (Nat.zero_le _) rfl
        clear hb1 hb2 hc
        go_wp2_with fail
        refine (HLA.out _ hcq2).mono ?_
        rintro e w3 ⟨rm, cm, rfl, om, bm⟩
        have or3 := ownsRow_below hr1 bm
        have hB3 := below_step hb0 hb0.size bm
        have HCM := owns_cells om
        obtain ⟨M, cM, hv, hM1, hM2⟩ := ownsRow_some om (show 0 < q.length by omega)
        simp only [Value.slice.injEq] at hv
        obtain ⟨rfl, _, rfl⟩ := hv
        rw [World.size_alloc] at hM1
        have hcp3 := hcp2.below hB3
        have hMg : w2.heap.size ≠ M := by omega
        clear om bm hcq2 hr1 hb0 hcp2
        obtain ⟨bes, hbes⟩ : ∃ bes, bes = besM (wideB p) (markN p) (markN q) := ⟨_, rfl⟩
        obtain ⟨WW, hWW⟩ : ∃ WW, WW = wideB p + wideB q := ⟨_, rfl⟩
        have HTX := Lib.hid (show besideT p q = rowsT p.length WW bes by rw [hWW, hbes]; rfl)
        have HRT := Lib.hid (show ∀ i, rowT (wideB p) (markN p) i ++ rowT (wideB q) (fun i j => 9 + markN q i j) i = rowT WW bes i by rw [hWW, hbes]; exact fun i => rowT_append _ _ _ _ _)
        have HRS := Lib.hid (show ∀ i, rowsT (i + 1) WW bes = rowsT i WW bes ++ [⟨(rowT WW bes i).toArray⟩] from fun i => rowsT_succ i WW bes)
        clear hbes hWW
        have or4 : w3.ownsRow w2.heap.size 9 1 (.slice (some ⟨w2.heap.size, 0, none⟩) 0 0) 0 ((rowsT 0 WW bes).map Value.string) := or3
        have hw23 := hB3.size
        clear or3
        have hb1B : b1 < w2.heap.size := Nat.lt_of_lt_of_le hb1w z2.size
        have HZ2 := Lib.hid z2
        clear z2 hb1w
        generalize hBe : w2.heap.size = B2 at *
        have HBE := Lib.hid hBe; clear hBe
        go_wp2
        go_loopw [6, 8] (fun vo vi wr => ∃ (i g rc : Nat), i ≤ p.length ∧ vi = .int .i64 i ∧ vo = .slice (some ⟨g, 0, none⟩) i rc ∧ wr.ownsRow B2 9 1 (.slice (some ⟨g, 0, none⟩) i rc) i ((rowsT i WW bes).map Value.string) ∧ g ≠ M ∧ M < wr.heap.size ∧ CellsAt wr (some ⟨M, 0, none⟩) ((laterB q).map Value.string) ∧ CellsAt wr (some ⟨b1, o1, none⟩) (p.map Value.string) ∧ Below B2 w2 wr) (fun _ vi _ => p.length - (intOf vi).toNat)
        case atStart => exact ⟨0, B2, 0, Nat.zero_le _, rfl, rfl, or4, hMg, hM2, HCM, hcp3, hB3⟩
        case round =>
          clear or4 hMg hM2 HCM hcp3 hB3
          obtain ⟨i, g, rc, hi, rfl, rfl, hown, hgM, hMs, hcm, hcp, hB⟩ := hrel
          by_cases hlt : i < p.length
          · have hiq : i < q.length := by have := HLE.out; omega
            obtain ⟨b1', o1', he1, kp⟩ := hcp.str i hlt
            simp only [Option.some.injEq, Addr.mk.injEq, and_true] at he1
            obtain ⟨rfl, rfl⟩ := he1
            obtain ⟨b2, o2, he2, km⟩ := hcm.str i (by rw [HLQ.out]; exact hiq)
            simp only [Option.some.injEq, Addr.mk.injEq, and_true] at he2
            obtain ⟨rfl, rfl⟩ := he2
            rw [Nat.zero_add] at km
            have hgl := (owns_lt hown _ rfl)
            have hg1 : B2 ≤ g := hgl.1
            have hg2 : g < wr.heap.size := hgl.2
            have hb1g : g ≠ b1 := by omega
            have hps : (p.getD i ByteArray.empty).size ≤ 6 := by rw [HROW.out i hlt, ← size_list]; show (rowT (wideB p) (markN p) i).length ≤ 6; rw [rowT_len]; exact pw
            have hms : ((laterB q).getD i ByteArray.empty).size ≤ 6 := by rw [HLAT.out i hiq, ← size_list]; show (rowT (wideB q) (fun i j => 9 + markN q i j) i).length ≤ 6; rw [rowT_len]; exact qw
            have hjoin : p.getD i ByteArray.empty ++ (laterB q).getD i ByteArray.empty = ⟨(rowT WW bes i).toArray⟩ := by rw [HROW.out i hlt, HLAT.out i hiq, str_append, HRT.out i]
            have HJ := Lib.hid hjoin; clear hjoin
            have HCM := Lib.hid hcm; have HCP := Lib.hid hcp
            have hi0 : (0 : Int) ≤ (i : Int) := Int.natCast_nonneg _
            have hi1 : (i : Int) < (p.length : Int) := by omega
            have hi2 : (i : Int) < (q.length : Int) := by omega
            have hb1' : i + 1 ≤ maxLen := by unfold maxLen; omega
            have hb2' : (i + 1) * 16 ≤ 140737488355328 := by omega
            generalize p.getD i ByteArray.empty = Pi at *
            generalize (laterB q).getD i ByteArray.empty = Mi at *
            have hcat : (9223372036854775807 < Pi.size + Mi.size) = False := by simp only [eq_iff_iff, iff_false]; omega
            clear hgl hcm hcp hps hms
            go_wp2
            go_region_held3 (fun w' => w'.cell? ⟨b1, o1 + i, none⟩ = some (.string Pi) ∧ w'.cell? ⟨M, i, none⟩ = some (.string Mi))
              (first
                | go_keep
                | (go_split_ands
                   refine ⟨?_, ?_⟩
                   · (rw [hgrow.cell_far _ (by simp; omega) (by simp [Value.ownBlock]; omega)]; assumption)
                   · (rw [hgrow.cell_far _ (by simp; omega) (by simp [Value.ownBlock]; omega)]; assumption)))
              ((refine step_append_lies _ (by rfl) _ _ _ (by rfl) B2 9 it (.string ⟨#[]⟩) 1 16 Try.underlying23 hti htz ht1 ht2 rfl (by omega) (.slice (some ⟨g, 0, none⟩) i rc) i _ (by rfl) ((hown.alloc _).drew)
                  ⟨wr.heap.size, 0, none⟩ 1 1 [.string (Pi ++ Mi)] (by rfl) (by rfl) (World.news_of_block (cs := #[.string (Pi ++ Mi)]) (t := 9) (fr := (0, 0)) (heap_alloc_new wr _)) (by simp [Value.oneCell'])
                  (by omega) hb1' hb2' (by simp; omega) (wr.heap.size + 1) (by simp) ?_; intro gg cap w4 hown4 hgrow hat hlt4))
            have hBs : B2 ≤ wr.heap.size := by rw [← HBE.out]; exact hB.size
            have hBa := hB.alloc hBs (.cells #[Value.string (Pi ++ Mi)] 9)
            have hBd : Below B2 w2 (wr.alloc (.cells #[Value.string (Pi ++ Mi)] 9)).drew := hBa.trans (below_drewN _ _ 1)
            have hB4 : Below B2 w2 w4 := hBd.trans (below_of_grownBy hgrow (by show B2 ≤ (wr.alloc _).heap.size; rw [World.size_alloc]; omega) (fun k hk => by simp only [Value.ownBlock, Option.some.injEq] at hk; omega))
            have hcm4 : CellsAt w4 (some ⟨M, 0, none⟩) ((laterB q).map Value.string) := (show CellsAt (wr.alloc (.cells #[Value.string (Pi ++ Mi)] 9)).drew _ _ from (HCM.out.below (below_alloc wr (.cells #[Value.string (Pi ++ Mi)] 9))).drewN 1).grown hgrow (fun a ha => by
              simp only [Option.some.injEq] at ha; subst ha; simp only [Value.ownBlock, ne_eq, Option.some.injEq]; omega)
            have hcp4 : CellsAt w4 (some ⟨b1, o1, none⟩) (p.map Value.string) := (show CellsAt (wr.alloc (.cells #[Value.string (Pi ++ Mi)] 9)).drew _ _ from (HCP.out.below (below_alloc wr (.cells #[Value.string (Pi ++ Mi)] 9))).drewN 1).grown hgrow (fun a ha => by
              simp only [Option.some.injEq] at ha; subst ha; simp only [Value.ownBlock, ne_eq, Option.some.injEq]; omega)
            have hM4 : M < w4.heap.size := Nat.lt_of_lt_of_le (by show M < (wr.alloc _).heap.size; rw [World.size_alloc]; omega) hgrow.size
            have hgg : gg ≠ M := by
              rcases hat with h | h
              · simp only [Value.ownBlock, Option.some.injEq] at h; omega
              · omega
            have hst : (rowsT i WW bes).map Value.string ++ [Value.string (Pi ++ Mi)] = (rowsT (i + 1) WW bes).map Value.string := by rw [HRS.out i, List.map_append, HJ.out]; rfl
            have hown5 := owns_eq hown4 hst
            clear hst hown4 hgrow hat hB hBa hBd hown
            go_wp2
            go_roundw
            case rel => exact ⟨i + 1, gg, cap, by omega, by go_num, rfl, hown5, hgg, hM4, hcm4, hcp4, hB4⟩
            case measure => simp [intOf]; omega
          · obtain rfl : i = p.length := by omega
            have hcT := owns_cells hown
            rw [← HTX.out] at hcT
            go_wp2_with fail
            refine (HDN.out _ _ _ hcT).mono ?_
            rintro e w5 ⟨⟨r5, c5, rfl, o5⟩, b5⟩
            go_wp2
            go_ret2
            have z2 := HZ2.out
            have z4 : Below w.heap.size w wr := z2.trans (hB.mono (by rw [← HBE.out]; exact z2.size))
            exact ⟨⟨_, _, rfl, ownsRow_base o5 z4.size⟩, below_step z4 z4.size b5⟩

theorem implBeside_any (ao bo : Option Addr) (cap capb : Nat) (p q : List ByteArray) (w : World) (hl : p.length ≤ 1048576) (hs : ∀ s ∈ p, s.size ≤ 1048576) (hl' : q.length ≤ 1048576) (hs' : ∀ s ∈ q, s.size ≤ 1048576) (hc : CellsAt w ao (p.map Value.string)) (hc' : CellsAt w bo (q.map Value.string)) :
    Calls Try.prog 49 #[.slice ao p.length cap, .slice bo q.length capb] w fun e w' => TextsRet w.heap.size (orNone (besideOk p q) (namesB (besideT p q))) (besideOk p q) e w' ∧ Below w.heap.size w w' := by
  have hT : besideOk p q = (readOk p && (readOk q && (decide (p.length = q.length) && drawOk p.length (wideB p + wideB q : Nat) (besM (wideB p) (gridG p) (gridG q))))) ∧
      orNone (besideOk p q) (namesB (besideT p q)) = orNone (readOk p && (readOk q && (decide (p.length = q.length) && drawOk p.length (wideB p + wideB q : Nat) (besM (wideB p) (gridG p) (gridG q))))) (rowsT p.length (wideB p + wideB q) (renG p.length (wideB p + wideB q) (besM (wideB p) (gridG p) (gridG q)))) := by
    rw [readOk_eq, readOk_eq]
    unfold besideOk
    cases hp : planB p
    · exact ⟨rfl, rfl⟩
    · cases hq : planB q
      · exact ⟨rfl, rfl⟩
      · cases he : decide (p.length = q.length)
        · exact ⟨rfl, rfl⟩
        · have := beside_math hp hq (of_decide_eq_true he)
          simp only [Bool.true_and]
          exact this
  have HR := Lib.hid (join_any 111 (decide (p.length = q.length) && drawOk p.length (wideB p + wideB q : Nat) (besM (wideB p) (gridG p) (gridG q)))
    (ifC (decide (p.length = q.length)) (drawC p.length (wideB p + wideB q : Nat) (besM (wideB p) (gridG p) (gridG q)))) p.length (wideB p + wideB q) (markF p.length (wideB p + wideB q) (besM (wideB p) (gridG p) (gridG q))).length
    (renG p.length (wideB p + wideB q) (besM (wideB p) (gridG p) (gridG q))) ao cap p bo capb q w hl hs hc hl' hs' hc' Try.call111 (ifC_39 _ (drawC_39 _ _ _)) (ifC_one _ (drawC_one _ _ _))
    (fun hr hr' W => by
      have hd := read_dims hr
      have hd' := read_dims hr'
      have := beside_any p.length (wideB p) (gridR p) q.length (wideB q) (gridR q) (gridG p) (gridG q) W hd.1 hd.2.1 hd'.2.1 hd.2.2 hd'.2.2
      rw [← readC_ok hr, ← readC_ok hr'] at this
      exact this)
    (fun hb => by
      rw [Bool.and_eq_true] at hb
      rw [ifC_yes hb.1]
      exact drawC_ok hb.2))
  rw [hT.1] at *
  rw [hT.2]
  clear hT
  generalize (readOk p && (readOk q && (decide (p.length = q.length) && drawOk p.length (wideB p + wideB q : Nat) (besM (wideB p) (gridG p) (gridG q))))) = b at *
  go_enter Try.func49, Try.ntmps49
  go_wp2_with (go_at_call 110; refine (HR.out).mono ?_; rintro e w1 ⟨⟨ro, rc, rfl, hown1⟩, hb1⟩)
  go_ret2
  exact ⟨⟨ro, rc, rfl, hown1⟩, hb1⟩

end Go.Proofs.Ytdhnklaflbaeeaa
