
/-
  For every slice of bytes the law FnMerge returns true, and the slice reads behind the call as it read before. No condition.
-/
import Derived.Test.YtjdlapcikpmdgaaNearb
import Derived.Test.YtjdlapcikpmdgaaPut
import Derived.Test.YtjdlapcikpmdgaaEuler
import Derived.Test.YtjdlapcikpmdgaaDrawM
import Derived.Test.YtjdlapcikpmdgaaDraw
import Derived.Test.YtjdlapcikpmdgaaLaws

/-
  Rooms merged are neighbours; rooms of both sides of a wall. (Plain mathematics.)
-/
namespace Go.Proofs.Ytjdlapcikpmdgaa
open Go.RowKit

/-- two rooms whose cells fill some rows and columns are neighbours -/
theorem rect_near {p : List ByteArray} (h : planB p = true) {a b r c hi wi : Nat} (hrh : r + hi ≤ p.length) (hcw : c + wi ≤ wideB p) (hall : ∀ i j, i < hi → j < wi → gridG p (r + i) (c + j) = a ∨ gridG p (r + i) (c + j) = b) (hab : a ≠ b)
    {ia ja ib jb : Nat} (ha1 : ia < hi) (ha2 : ja < wi) (hae : gridG p (r + ia) (c + ja) = a) (hb1 : ib < hi) (hb2 : jb < wi) (hbe : gridG p (r + ib) (c + jb) = b) : 0 < besN p (a : Int) (b : Int) := by
  refine Classical.byContradiction fun hno => ?_
  have hz : ¬ 0 < besN p (b : Int) (a : Int) := by rw [besN_symm h]; exact hno
  have go : ∀ x y : Nat, (x = a ∨ x = b) → (y = a ∨ y = b) → (x ≠ y → 0 < besN p (x : Int) (y : Int)) → (x = a ↔ y = a) := fun x y hx hy hn => by
    rcases hx with rfl | rfl <;> rcases hy with rfl | rfl
    · exact Iff.rfl
    · exact absurd (hn hab) hno
    · exact absurd (hn (Ne.symm hab)) hz
    · exact Iff.rfl
  have := grid_conn (h := hi) (wd := wi) (P := fun i j => gridG p (r + i) (c + j) = a)
    (fun i j h1 h2 => go _ _ (hall i j h1 (by omega)) (hall i (j + 1) h1 h2) (fun hne => near_row h (i := r + i) (j := c + j) (by omega) (by omega) hne))
    (fun i j h1 h2 => go _ _ (hall i j (by omega) h2) (hall (i + 1) j h1 h2) (fun hne => near_col h (i := r + i) (j := c + j) (by omega) (by omega) hne)) ha1 ha2 hae ib jb hb1 hb2
  exact hab (this.symm.trans hbe)

/-- what the law of merged rooms asks -/
theorem mergeL_math {p : List ByteArray} {a b : Int} (h : mergeOk p a b = true) : planB p = true ∧ planB (mergeT p a b) = true ∧ roomsOr (mergeT p a b) + 1 = roomsOr p ∧ mergeOk p b a = true ∧ mergeT p b a = mergeT p a b ∧ nearIs p a b = true := by
  have h0 := h
  unfold mergeOk at h
  rw [Bool.and_eq_true, Bool.and_eq_true, Bool.and_eq_true] at h
  obtain ⟨ga, gb, hne, hdo⟩ := h
  have ra := ga; have rb := gb
  rw [given_isRm, Bool.and_eq_true, isRm_iff] at ra rb
  obtain ⟨hp, ra1, ra2⟩ := ra
  obtain ⟨_, rb1, rb2⟩ := rb
  obtain ⟨k, rfl⟩ : ∃ k : Nat, a = (k : Int) := ⟨a.toNat, by omega⟩
  obtain ⟨m, rfl⟩ : ∃ m : Nat, b = (m : Int) := ⟨b.toNat, by omega⟩
  have hkm : k ≠ m := fun e => by subst e; simp at hne
  have hk : k < gridR p := by omega
  have hm : m < gridR p := by omega
  have hP := planP_of hp
  rw [Int.toNat_natCast] at hdo
  obtain ⟨m1, m2⟩ := merge_math hp hk hm
  obtain ⟨n1, n2⟩ := merge_math hp hm hk
  have hdr : drawOk p.length (wideB p) (mergeM (gridG p) k m) = true := by rw [← m1]; exact hdo
  have key : ∀ i j, mergeM (gridG p) m k i j = (if mergeM (gridG p) k m i j = k then m else mergeM (gridG p) k m i j) ∧ mergeM (gridG p) k m i j ≠ m := fun i j => by
    unfold mergeM
    by_cases c1 : gridG p i j = k
    · have c2 : ¬ gridG p i j = m := by omega
      rw [if_pos c1, if_neg c2, if_pos c1]; exact ⟨rfl, c2⟩
    · by_cases c2 : gridG p i j = m
      · rw [if_neg c1, if_pos c2, if_pos rfl]; exact ⟨c2, hkm⟩
      · rw [if_neg c1, if_neg c2, if_neg c1]; exact ⟨rfl, c2⟩
  have hsame : SameG p.length (wideB p) (mergeM (gridG p) k m) (mergeM (gridG p) m k) := fun i j i' j' _ _ _ _ => by
    obtain ⟨e1, n1'⟩ := key i j
    obtain ⟨e2, n2'⟩ := key i' j'
    rw [e1, e2]
    generalize mergeM (gridG p) k m i j = x at *
    generalize mergeM (gridG p) k m i' j' = y at *
    split <;> split <;> constructor <;> intro e <;> omega
  have hdr2 : drawOk p.length (wideB p) (mergeM (gridG p) m k) = true := by rw [drawOk_pattern hsame]; exact hdr
  have r26 : ∀ x y : Nat, x < gridR p → y < gridR p → ∀ i j, i < p.length → j < wideB p → mergeM (gridG p) x y i j < 26 := fun x y hx _ i j hi hj => by
    have := gridG_26 hp hi hj; have := hP.few
    unfold mergeM; split <;> omega
  have x1 := is_rows hdr (r26 k m hk hm)
  have x2 := is_rows hdr2 (r26 m k hm hk)
  have t1 : mergeT p (k : Int) (m : Int) = rowsT p.length (wideB p) (renG p.length (wideB p) (mergeM (gridG p) k m)) := by
    unfold mergeT; rw [Int.toNat_natCast]
    rw [m1, hdr, orNone_yes rfl, orNone_yes rfl] at m2; exact m2
  have t2 : mergeT p (m : Int) (k : Int) = rowsT p.length (wideB p) (renG p.length (wideB p) (mergeM (gridG p) m k)) := by
    unfold mergeT; rw [Int.toNat_natCast]
    rw [n1, hdr2, orNone_yes rfl, orNone_yes rfl] at n2; exact n2
  rw [← t1] at x1
  rw [← t2] at x2
  -- cells of both rooms
  obtain ⟨_, hbox⟩ := hP.boxes
  obtain ⟨xa, _, _, a1, a2, a3, a4, a5⟩ := hbox k hk
  obtain ⟨xb, _, _, b1, b2, b3, b4, b5⟩ := hbox m hm
  have ca : gridG p xa.row xa.col = k := by rw [← hP.mark _ _ (by omega) (by omega)]; exact (a5 _ _ (by omega) (by omega)).2 (by unfold InR; omega)
  have cb : gridG p xb.row xb.col = m := by rw [← hP.mark _ _ (by omega) (by omega)]; exact (b5 _ _ (by omega) (by omega)).2 (by unfold InR; omega)
  refine ⟨hp, x1.plan, ?_, ?_, ?_, ?_⟩
  · rw [x1.rooms, (Is.self hp).rooms]
    have hn : (m :: markF p.length (wideB p) (mergeM (gridG p) k m)).Nodup := by
      rw [List.nodup_cons]
      refine ⟨fun hmm => ?_, markF_nodup _ _ _⟩
      obtain ⟨i, j, hi, hj, e⟩ := mem_markF.1 hmm
      unfold mergeM at e
      split at e
      · exact hkm e
      · rename_i hc; exact hc e
    have hl : (markF p.length (wideB p) (gridG p)).length = (m :: markF p.length (wideB p) (mergeM (gridG p) k m)).length := by
      refine ((List.perm_ext_iff_of_nodup (markF_nodup _ _ _) hn).2 fun v => ?_).length_eq
      rw [mem_markF, List.mem_cons, mem_markF]
      constructor
      · rintro ⟨i, j, hi, hj, e⟩
        by_cases hv : v = m
        · exact .inl hv
        · exact .inr ⟨i, j, hi, hj, by rw [mergeM_no (by omega)]; exact e⟩
      · rintro (rfl | ⟨i, j, hi, hj, e⟩)
        · exact ⟨xb.row, xb.col, by omega, by omega, cb⟩
        · by_cases hc : gridG p i j = m
          · rw [mergeM_yes hc] at e; exact ⟨xa.row, xa.col, by omega, by omega, by rw [ca]; exact e⟩
          · rw [mergeM_no hc] at e; exact ⟨i, j, hi, hj, e⟩
    rw [hl, List.length_cons]
    omega
  · unfold mergeOk
    rw [ga, gb, Int.toNat_natCast, n1, hdr2]
    have : ((m : Int) == (k : Int)) = false := by rw [beq_eq_false_iff_ne]; omega
    rw [this]; rfl
  · exact x2.eq x1 (fun i j i' j' q1 q2 q3 q4 => (hsame i j i' j' q1 q2 q3 q4).symm)
  · have hnear : 0 < besN p (k : Int) (m : Int) := by
      have hq := x1.plan
      have hQ := planP_of hq
      have hql := x1.len; have hqw := x1.wide
      obtain ⟨_, qbox⟩ := hQ.boxes
      have hs := x1.same
      have hr : gridG (mergeT p (k : Int) (m : Int)) xa.row xa.col < gridR (mergeT p (k : Int) (m : Int)) := grid_room hq (by rw [hql]; omega) (by rw [hqw]; omega)
      obtain ⟨z, _, _, z1, z2, z3, z4, z5⟩ := qbox _ hr
      have zin : ∀ i j, i < p.length → j < wideB p → (InR z.row z.col z.high z.wide i j ↔ gridG p i j = k ∨ gridG p i j = m) := fun i j hi hj => by
        rw [← z5 i j (by rw [hql]; exact hi) (by rw [hqw]; exact hj), hQ.mark i j (by rw [hql]; exact hi) (by rw [hqw]; exact hj)]
        rw [hs xa.row xa.col i j (by omega) (by omega) hi hj]
        have e1 : mergeM (gridG p) k m xa.row xa.col = k := by rw [mergeM_no (by rw [ca]; exact hkm), ca]
        rw [e1]
        unfold mergeM
        by_cases hc : gridG p i j = m
        · rw [if_pos hc]; simp [hc]
        · rw [if_neg hc]; simp [hc]
      rw [hql] at z3
      rw [hqw] at z4
      have za := (zin xa.row xa.col (by omega) (by omega)).2 (.inl ca)
      have zb := (zin xb.row xb.col (by omega) (by omega)).2 (.inr cb)
      unfold InR at za zb
      refine rect_near hp (r := z.row) (c := z.col) (hi := z.high) (wi := z.wide) z3 z4 (fun i j hi hj => (zin _ _ (by omega) (by omega)).1 (by unfold InR; omega)) hkm (ia := xa.row - z.row) (ja := xa.col - z.col) (ib := xb.row - z.row) (jb := xb.col - z.col) (by omega) (by omega) ?_ (by omega) (by omega) ?_
      · rw [show z.row + (xa.row - z.row) = xa.row by omega, show z.col + (xa.col - z.col) = xa.col by omega]; exact ca
      · rw [show z.row + (xb.row - z.row) = xb.row by omega, show z.col + (xb.col - z.col) = xb.col by omega]; exact cb
    unfold nearIs
    rw [ga, gb]
    simpa using hnear

end Go.Proofs.Ytjdlapcikpmdgaa

namespace Go.Proofs.Ytjdlapcikpmdgaa
open Go.ChangeShapes Go.WideShapes Go.ChangeAt Go.RowKit

set_option maxRecDepth 100000 in
set_option maxHeartbeats 4000000 in
theorem fnMerge_all (aC : Option Addr) (kC : Nat) (lC : List UInt8) (w : World) (mC : lC.length ≤ maxLen) (zC : lC.length ≤ kC) (cC : CellsAt w aC (lC.map byteV)) :
    Calls Try.prog 3 #[.slice aC lC.length kC] w fun e w' => e = .returned (.bool true) ∧ Below w.heap.size w w' := by
  have mC2 := mC
  clear mC2
  by_cases dC : lC.length ≤ 1048576
  · have hdC : decide (1048576 < (lC.length : Int)) = false := by rw [decide_eq_false_iff_not]; omega
    go_enter Try.func3, Try.ntmps3
    go_wp2_with fail
    refine (drawPlanMerge_any _ _ _ _ zC dC cC).mono ?_
    rintro e w1 ⟨⟨roP, rcP, lP, nA, nB, hsm, rfl, c_P⟩, hb⟩
    have hB := hb
    clear hb
    have LP : lP.length ≤ 1048576 := by have := hsm.2.1; omega
    have SP : ∀ s ∈ lP, s.size ≤ 1048576 := fun s h => by have := hsm.2.2 s h; omega
    cases hp : mergeOk lP nA nB
    · -- no merging
      have HI := Lib.hid (fun w c => implMerge_any roP rcP lP nA nB w LP SP c)
      have HS := Lib.hid (fun w c => specMerge_any roP rcP lP nA nB w LP SP c)
      rw [hp, orNone_no rfl] at HI HS
      clear hp
      go_wp2_with fail
      refine (HI.out _ c_P).mono ?_
      rintro e w2 ⟨⟨roO, rcO, rfl, ow⟩, hb⟩
      replace c_P := c_P.below hb
      replace hB := below_step hB hB.size hb
      clear hb
      have c_O := owns_cells ow
      clear ow
      go_wp2_with fail
      refine (HS.out _ c_P).mono ?_
      rintro e w3 ⟨⟨roW, rcW, rfl, ow⟩, hb⟩
      replace c_P := c_P.below hb
      replace c_O := c_O.below hb
      replace hB := below_step hB hB.size hb
      clear hb
      have c_W := owns_cells ow
      clear ow
      go_wp2_with fail
      refine (sameTexts_any _ _ _ _ _ _ [] [] _ rfl rfl (Nat.zero_le _) c_O c_W).mono ?_
      rw [eqS_self]
      rintro e w4 ⟨rfl, hq⟩
      have hb := quiet_below hq
      clear hq
      replace c_P := c_P.below hb
      replace c_O := c_O.below hb
      replace c_W := c_W.below hb
      replace hB := below_step hB hB.size hb
      clear hb
      go_wp2_with fail
      refine (sameTexts_any _ _ _ _ _ _ [] [] _ rfl rfl (Nat.zero_le _) c_O c_W).mono ?_
      rw [eqS_self]
      rintro e w5 ⟨rfl, hq⟩
      have hb := quiet_below hq
      clear hq
      replace c_P := c_P.below hb
      replace c_O := c_O.below hb
      replace c_W := c_W.below hb
      replace hB := below_step hB hB.size hb
      clear hb
      go_wp2
      go_ret
      exact ⟨rfl, hB⟩
    · -- two rooms that may be one
      have HI := Lib.hid (fun w c => implMerge_any roP rcP lP nA nB w LP SP c)
      have HS := Lib.hid (fun w c => specMerge_any roP rcP lP nA nB w LP SP c)
      have HX := Lib.hid (fun w c => implMerge_any roP rcP lP nB nA w LP SP c)
      have HR := Lib.hid (fun w c => implPlanRooms_any roP rcP lP w LP SP c)
      have HN := Lib.hid (fun w c => implNearIs_any roP rcP lP nA nB w LP SP c)
      obtain ⟨pP, pO, m3, m4, m5, m6⟩ := mergeL_math hp
      have LO := plan_small pO
      obtain ⟨r1, r2⟩ := roomsB_fewM lP
      rw [← roomsOr_yes pP] at r1 r2
      have HQ := Lib.hid (fun ro rc w c => implPlanRooms_any ro rc (mergeT lP nA nB) w LO.1 LO.2 c)
      rw [hp, orNone_yes rfl] at HI HS
      rw [m4, m5, orNone_yes rfl] at HX
      rw [pP] at HR
      rw [pO] at HQ
      rw [m6] at HN
      have LO1 := LO.1
      clear hp pP pO m4 m5 m6 LO
      generalize roomsOr (mergeT lP nA nB) = N at *
      generalize mergeT lP nA nB = O at *
      generalize roomsOr lP = R at *
      obtain rfl : N = R - 1 := by omega
      clear m3
      go_wp2_with fail
      refine (HI.out _ c_P).mono ?_
      rintro e w6 ⟨⟨roO, rcO, rfl, ow⟩, hb⟩
      replace c_P := c_P.below hb
      replace hB := below_step hB hB.size hb
      clear hb
      have c_O := owns_cells ow
      clear ow
      go_wp2_with fail
      refine (HS.out _ c_P).mono ?_
      rintro e w7 ⟨⟨roW, rcW, rfl, ow⟩, hb⟩
      replace c_P := c_P.below hb
      replace c_O := c_O.below hb
      replace hB := below_step hB hB.size hb
      clear hb
      have c_W := owns_cells ow
      clear ow
      go_wp2_with fail
      refine (sameTexts_any _ _ _ _ _ _ O O _ rfl rfl (by unfold maxLen; omega) c_O c_W).mono ?_
      rw [eqS_self]
      rintro e w8 ⟨rfl, hq⟩
      have hb := quiet_below hq
      clear hq
      replace c_P := c_P.below hb
      replace c_O := c_O.below hb
      replace c_W := c_W.below hb
      replace hB := below_step hB hB.size hb
      clear hb
      go_wp2_with fail
      refine (HR.out _ c_P).mono ?_
      rintro e w9 ⟨rfl, hb⟩
      replace c_P := c_P.below hb
      replace c_O := c_O.below hb
      replace c_W := c_W.below hb
      replace hB := below_step hB hB.size hb
      clear hb
      go_wp2_with fail
      refine (HQ.out _ _ _ c_O).mono ?_
      rintro e w10 ⟨rfl, hb⟩
      replace c_P := c_P.below hb
      replace c_O := c_O.below hb
      replace c_W := c_W.below hb
      replace hB := below_step hB hB.size hb
      clear hb
      go_wp2_with fail
      refine (HX.out _ c_P).mono ?_
      rintro e w11 ⟨⟨roX, rcX, rfl, ow⟩, hb⟩
      replace c_P := c_P.below hb
      replace c_O := c_O.below hb
      replace c_W := c_W.below hb
      replace hB := below_step hB hB.size hb
      clear hb
      have c_X := owns_cells ow
      clear ow
      go_wp2_with fail
      refine (sameTexts_any _ _ _ _ _ _ O O _ rfl rfl (by unfold maxLen; omega) c_X c_O).mono ?_
      rw [eqS_self]
      rintro e w12 ⟨rfl, hq⟩
      have hb := quiet_below hq
      clear hq
      replace c_P := c_P.below hb
      replace c_O := c_O.below hb
      replace c_W := c_W.below hb
      replace c_X := c_X.below hb
      replace hB := below_step hB hB.size hb
      clear hb
      go_wp2_with fail
      refine (HN.out _ c_P).mono ?_
      rintro e w13 ⟨rfl, hb⟩
      replace c_P := c_P.below hb
      replace c_O := c_O.below hb
      replace c_W := c_W.below hb
      replace c_X := c_X.below hb
      replace hB := below_step hB hB.size hb
      clear hb
      go_wp2
      go_ret
      exact ⟨rfl, hB⟩
  · have hdC : decide (1048576 < (lC.length : Int)) = true := by rw [decide_eq_true_eq]; omega
    go_enter Try.func3, Try.ntmps3
    go_wp2
    go_ret
    exact ⟨rfl, Below.refl _ _⟩

set_option maxRecDepth 100000 in
theorem fnMerge_lifted (os : Os) (started : os.Started) (H : Type) (enc : TypeId × Value → H) :
    ReturnsInHanded {} Try.checked os 3 .any (Rows.fnMergeSpec.pre6 enc Try.prog Try.f3 Rows.fnMergeRow.domain false) (Rows.fnMergeSpec.post enc Try.prog Try.f3 false true false false) := by
  refine returnsInHanded_of_change (C := Try.checked) Try.own started (by kernel_rfl) Try.func3
    (ChangeSpec.witness6 (enc := enc) (C := Try.checked) false ⟨#[], #[.slice none 0 0], []⟩ 8 (by kernel_rfl) (by kernel_rfl) (by kernel_rfl) (by kernel_rfl)) ?_
  intro W base args ds gs before hval0 hW _ _
  have hval : ∀ (j : Nat) t v, Try.f3.params[j]? = some t → args[j]? = some v → Value.okWide Try.prog W .any base t v := hval0
  have hW' := hW
  obtain ⟨p, q, hA0, hV, rfl, _, _⟩ := hW
  have hA : DataW.TrodAll enc Try.prog W 0 (fun _ => true) true Try.f3.params.toList args.toList ds p := hA0
  rw [Try.params3] at hA hval
  obtain ⟨v0, d0, rfl, rfl, h0⟩ := trodAll_one hA
  obtain ⟨rfl, rfl⟩ := trodVars_none hV
  obtain ⟨aC, eC, kC, rfl⟩ := okWide_slice Try.underlying22 (hval 0 22 v0 rfl rfl)
  clear hA0 hval0
  simp only [List.append_nil] at hW'
  have hlt0 : ∀ x ∈ p, x.block < W.heap.size := fun x hx => by simpa using hW'.lt x (by simp [hx])
  obtain ⟨lC, rfl, mC, zC, cC⟩ := open_bytes h0
  refine (fnMerge_all aC kC lC W mC zC cC).mono fun e W' ⟨he, hb⟩ => ?_
  subst he
  refine ⟨_, rfl, _, _, _, [], _, [], hW', trodAll_mk1 (shut_bool Try.underlying4 _), trodAll_mk1 (Below.trod Try.laidOut (by kernel_rfl) (of_decide_eq_true (by kernel_rfl)) h0 hb hlt0), rfl, hb.frame _, fun h => by cases h⟩

theorem fnMerge_holds : Rows.FnMergeSaid :=
  OpenClaim.holds_of_wide 3 Try.f3 rfl rfl rfl rfl rfl rfl rfl ⟨rfl, rfl, rfl, rfl, rfl⟩ rfl rfl rfl rfl rfl (by kernel_rfl) Try.func3 (by kernel_rfl)
    (of_decide_eq_true (by kernel_rfl)) (by unfold Func.isWrapper; first | (rw [if_pos (by decide +kernel)]; kernel_rfl) | (rw [if_neg (by decide +kernel)]; exact ⟨rfl, rfl⟩))
    (fun os started H enc _ => fnMerge_lifted os started H enc)

end Go.Proofs.Ytjdlapcikpmdgaa
