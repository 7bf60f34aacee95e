
/-
  For every slice of bytes the law FnNearOf returns true, and the slice reads behind the call as it read before. No condition.
-/
import Derived.Test.YtjcbfijliacicaaNearL
import Derived.Test.YtjcbfijliacicaaDrawN
import Derived.Test.YtjcbfijliacicaaDraw
import Derived.Test.YtjcbfijliacicaaLaws
namespace Go.Proofs.Ytjcbfijliacicaa
open Go.ChangeShapes Go.WideShapes Go.ChangeAt Go.RowKit

/-- what the law of neighbours asks of a room -/
theorem of_math {p : List ByteArray} {a : Int} (h : givenB p a = true) : planB p = true ∧ roomsOr p = (gridR p : Nat) ∧ gridR p ≤ 9 ∧ (nearL p a).length ≤ 9 ∧ ((nearL p a).length = 0 ↔ gridR p = 1) ∧
    (∀ i, i < (nearL p a).length → ((nearL p a).getD i 0 == a) = false ∧ nearIs p a ((nearL p a).getD i 0) = true) ∧ (∀ j i, j < i → i < (nearL p a).length → (nearL p a).getD j 0 < (nearL p a).getD i 0) := by
  have h0 := h
  rw [given_isRm, Bool.and_eq_true, isRm_iff] at h
  obtain ⟨hp, h1, h2⟩ := h
  have hP := planP_of hp
  obtain ⟨k, rfl⟩ : ∃ k : Nat, a = (k : Int) := ⟨a.toNat, by omega⟩
  have hL : nearL p (k : Int) = ofL p (k : Int) (gridR p) := by unfold nearL; rw [h0]; rfl
  rw [hL]
  have hle := ofL_le p (k : Int) (gridR p)
  have h9 := hP.few
  refine ⟨hp, by rw [roomsOr_yes hp, hP.rooms], h9, by omega, ofL_none hp (by omega), fun i hi => ?_, fun j i hj hi => ?_⟩
  · obtain ⟨b, e, hb, hn⟩ := ofL_mem (getD_mem 0 hi)
    rw [e]
    have gb : givenB p (b : Int) = true := by rw [given_isRm, hp, Bool.true_and, isRm_iff]; omega
    refine ⟨?_, by unfold nearIs; rw [h0, gb]; simpa using hn⟩
    rw [beq_eq_false_iff_ne]
    intro e2
    unfold besN at hn
    rw [if_pos e2.symm] at hn
    omega
  · have := List.pairwise_iff_getElem.1 (ofL_asc p (k : Int) (gridR p)) j i (by omega) hi hj
    rw [List.getD_eq_getElem?_getD, List.getD_eq_getElem?_getD, List.getElem?_eq_getElem (by omega), List.getElem?_eq_getElem hi]
    exact this

set_option maxRecDepth 100000 in
set_option maxHeartbeats 4000000 in
theorem fnNearOf_all (aC : Option Addr) (kC : Nat) (lC : List UInt8) (w : World) (mC : lC.length ≤ maxLen) (zC : lC.length ≤ kC) (cC : CellsAt w aC (lC.map byteV)) :
    Calls Try.prog 7 #[.slice aC lC.length kC] w fun e w' => e = .returned (.bool true) ∧ Below w.heap.size w w' := by
  have mC2 := mC
  clear mC2
  by_cases dC : lC.length ≤ 1048576
  · have hdC : decide (1048576 < (lC.length : Int)) = false := by rw [decide_eq_false_iff_not]; omega
    go_enter Try.func7, Try.ntmps7
    go_wp2_with fail
    refine (drawNearOf_any _ _ _ _ zC dC cC).mono ?_
    rintro e w1 ⟨⟨roP, rcP, lP, nA, hsm, rfl, c_P⟩, hb⟩
    have hB := hb
    clear hb
    have LP : lP.length ≤ 1048576 := by have := hsm.2.1; omega
    have SP : ∀ s ∈ lP, s.size ≤ 1048576 := fun s h => by have := hsm.2.2 s h; omega
    cases hd : givenB lP nA
    · -- no room
      have HI := Lib.hid (fun w c => implNearOf_any roP rcP lP nA w LP SP c)
      have HS := Lib.hid (fun w c => specNearOf_any roP rcP lP nA w LP SP c)
      rw [hd, show nearL lP nA = [] by unfold nearL; rw [hd]; rfl] at HI HS
      go_wp2_with fail
      refine (HI.out _ c_P).mono ?_
      rintro e w2 ⟨⟨roO, rcO, rfl, ow⟩, hb⟩
      replace c_P := c_P.below hb
      replace hB := below_step hB hB.size hb
      clear hb
      have c_O := owns_cells ow
      clear ow
      go_wp2_with fail
      refine (HS.out _ c_P).mono ?_
      rintro e w3 ⟨⟨roW, rcW, rfl, ow⟩, hb⟩
      replace c_P := c_P.below hb
      replace c_O := c_O.below hb
      replace hB := below_step hB hB.size hb
      clear hb
      have c_W := owns_cells ow
      clear ow
      go_wp2_with fail
      refine (sameInts_any _ _ _ _ _ _ [] [] _ rfl rfl (Nat.zero_le _) c_O c_W).mono ?_
      rw [eqI_self]
      rintro e w4 ⟨rfl, hq⟩
      have hb := quiet_below hq
      clear hq
      replace c_P := c_P.below hb
      replace c_O := c_O.below hb
      replace c_W := c_W.below hb
      replace hB := below_step hB hB.size hb
      clear hb
      go_wp2_with fail
      refine (sameInts_any _ _ _ _ _ _ [] [] _ rfl rfl (Nat.zero_le _) c_O c_W).mono ?_
      rw [eqI_self]
      rintro e w5 ⟨rfl, hq⟩
      have hb := quiet_below hq
      clear hq
      replace c_P := c_P.below hb
      replace c_O := c_O.below hb
      replace c_W := c_W.below hb
      replace hB := below_step hB hB.size hb
      clear hb
      go_wp2
      go_ret
      exact ⟨rfl, hB⟩
    · -- a room
      obtain ⟨hp, hR, hR9, hlen, hnone, hmem, hasc⟩ := of_math hd
      have HI := Lib.hid (fun w c => implNearOf_any roP rcP lP nA w LP SP c)
      have HS := Lib.hid (fun w c => specNearOf_any roP rcP lP nA w LP SP c)
      have HR := Lib.hid (fun w c => implPlanRooms_any roP rcP lP w LP SP c)
      have HN := Lib.hid (fun (b : Int) w c => implNearIs_any roP rcP lP nA b w LP SP c)
      rw [hd] at HI HS
      rw [hp, hR] at HR
      clear hp hR hd
      generalize nearL lP nA = L at *
      generalize gridR lP = R at *
      have HM := Lib.hid hmem
      have HA := Lib.hid hasc
      clear hmem hasc
      go_wp2_with fail
      refine (HI.out _ c_P).mono ?_
      rintro e w6 ⟨⟨roO, rcO, rfl, ow⟩, hb⟩
      replace c_P := c_P.below hb
      replace hB := below_step hB hB.size hb
      clear hb
      have c_O := owns_cells ow
      clear ow
      go_wp2_with fail
      refine (HS.out _ c_P).mono ?_
      rintro e w7 ⟨⟨roW, rcW, rfl, ow⟩, hb⟩
      replace c_P := c_P.below hb
      replace c_O := c_O.below hb
      replace hB := below_step hB hB.size hb
      clear hb
      have c_W := owns_cells ow
      clear ow
      go_wp2_with fail
      refine (sameInts_any _ _ _ _ _ _ L L _ rfl rfl (by unfold maxLen; omega) c_O c_W).mono ?_
      rw [eqI_self]
      rintro e w8 ⟨rfl, hq⟩
      have hb := quiet_below hq
      clear hq
      replace c_P := c_P.below hb
      replace c_O := c_O.below hb
      replace c_W := c_W.below hb
      replace hB := below_step hB hB.size hb
      clear hb
      go_wp2_with fail
      refine (HR.out _ c_P).mono ?_
      rintro e w9 ⟨rfl, hb⟩
      replace c_P := c_P.below hb
      replace c_O := c_O.below hb
      replace c_W := c_W.below hb
      replace hB := below_step hB hB.size hb
      clear hb
      have CP := Lib.hid c_P; have CO := Lib.hid c_O; have HB9 := Lib.hid hB
      clear c_P c_O c_W hB
      obtain ⟨WK, hWK⟩ : ∃ WK, WK = w9 := ⟨_, rfl⟩
      clear hWK WK
      go_wp2
      go_loopw [11] (fun vi wr => ∃ i : Nat, i ≤ L.length ∧ vi = .int .i64 i ∧ Below w9.heap.size w9 wr) (fun vi _ => L.length - (intOf vi).toNat)
      case atStart => exact ⟨0, Nat.zero_le _, rfl, Below.refl _ _⟩
      case round =>
        obtain ⟨i, hi, rfl, hq⟩ := hrel
        by_cases hlt : i < L.length
        · have hlt' : decide ((i : Int) < (L.length : Int)) = true := by rw [decide_eq_true_eq]; omega
          obtain ⟨b, off, rfl, hck⟩ := (CO.out.below hq).int i hlt
          obtain ⟨mne, mis⟩ := HM.out i hlt
          have HCL := Lib.hid (fun (d : Nat) (os : Array Obj) => Calls.regrown_of (HN.out (L.getD i 0) (Sort.grow (redrawn wr d) os) ((CP.out.below hq).below (below_regrown wr d os))))
          rw [mis] at HCL
          by_cases hi0 : 0 < i
          · have hi0' : decide ((0 : Int) < (i : Int)) = true := by rw [decide_eq_true_eq]; omega
            obtain ⟨j, hj⟩ : ∃ j, i = j + 1 := ⟨i - 1, by omega⟩
            have hi1 : (i : Int) - 1 = (j : Int) := by omega
            have hjl : j < L.length := by omega
            have hjl2 : (j : Int) < (L.length : Int) := by omega
            have hj0 : (0 : Int) ≤ (j : Int) := by omega
            obtain ⟨b2, off2, he, hck2⟩ := (CO.out.below hq).int j hjl
            simp only [Option.some.injEq, Addr.mk.injEq, and_true] at he
            obtain ⟨rfl, rfl⟩ := he
            have hle : decide (L.getD i 0 ≤ L.getD j 0) = false := by have := HA.out j i (by omega) hlt; rw [decide_eq_false_iff_not]; omega
            have hlen2 : ¬ (L.getD i 0 ≤ L.getD j 0) := by simpa using hle
            generalize L.getD j 0 = Y at *
            generalize hX : L.getD i 0 = X at *
            clear hX
            have HJ := Lib.hid hj; clear hj
            have q1 : ∀ r : Regrown, (Sort.grow (redrawn wr r.d) r.os).cell? _ = some (.int .i64 X) := fun r => cell_regrown hck r.d r.os
            have q2 : ∀ r : Regrown, (Sort.grow (redrawn wr r.d) r.os).cell? _ = some (.int .i64 Y) := fun r => cell_regrown hck2 r.d r.os
            go_wp2
            refine wp_region_quiet_below (by kernel_rfl) (by kernel_rfl) ?_
            repeat (first | go_big_quiet_step (with_reducible exact HCL.out _ _) | quiet_step (with_reducible exact HCL.out _ _))
            refine wpQuiet_nil ?_
            rintro _ ⟨r, rfl⟩
            have hb7 := below_regrown wr r.d r.os
            generalize Sort.grow (redrawn wr r.d) r.os = W7 at *
            have hq7 := below_step hq hq.size hb7
            go_wp2
            go_roundw
            case rel => exact ⟨i + 1, by omega, by go_num, hq7⟩
            case measure => simp [intOf]; omega
          · obtain rfl : i = 0 := by omega
            generalize hX : L.getD 0 0 = X at *
            clear hX
            rw [Nat.add_zero] at hck
            have q1 : ∀ r : Regrown, (Sort.grow (redrawn wr r.d) r.os).cell? _ = some (.int .i64 X) := fun r => cell_regrown hck r.d r.os
            go_wp2
            refine wp_region_quiet_below (by kernel_rfl) (by kernel_rfl) ?_
            repeat (first | go_big_quiet_step (with_reducible exact HCL.out _ _) | quiet_step (with_reducible exact HCL.out _ _))
            refine wpQuiet_nil ?_
            rintro _ ⟨r, rfl⟩
            have hb7 := below_regrown wr r.d r.os
            generalize Sort.grow (redrawn wr r.d) r.os = W7 at *
            have hq7 := below_step hq hq.size hb7
            go_wp2
            go_roundw
            case rel => exact ⟨1, by omega, by go_num, hq7⟩
            case measure => simp [intOf]; omega
        · obtain rfl : i = L.length := by omega
          have hlt' : decide ((L.length : Int) < (L.length : Int)) = false := by rw [decide_eq_false_iff_not]; omega
          have hfin : (((L.length : Int) == 0) == ((R : Int) == 1)) = true := by rw [beq_iff_eq, Bool.eq_iff_iff, beq_iff_eq, beq_iff_eq]; omega
          go_wp2
          go_ret
          exact ⟨rfl, below_step HB9.out HB9.out.size hq⟩
  · have hdC : decide (1048576 < (lC.length : Int)) = true := by rw [decide_eq_true_eq]; omega
    go_enter Try.func7, Try.ntmps7
    go_wp2
    go_ret
    exact ⟨rfl, Below.refl _ _⟩

set_option maxRecDepth 100000 in
theorem fnNearOf_lifted (os : Os) (started : os.Started) (H : Type) (enc : TypeId × Value → H) :
    ReturnsInHanded {} Try.checked os 7 .any (Rows.fnNearOfSpec.pre6 enc Try.prog Try.f7 Rows.fnNearOfRow.domain false) (Rows.fnNearOfSpec.post enc Try.prog Try.f7 false true false false) := by
  refine returnsInHanded_of_change (C := Try.checked) Try.own started (by kernel_rfl) Try.func7
    (ChangeSpec.witness6 (enc := enc) (C := Try.checked) false ⟨#[], #[.slice none 0 0], []⟩ 8 (by kernel_rfl) (by kernel_rfl) (by kernel_rfl) (by kernel_rfl)) ?_
  intro W base args ds gs before hval0 hW _ _
  have hval : ∀ (j : Nat) t v, Try.f7.params[j]? = some t → args[j]? = some v → Value.okWide Try.prog W .any base t v := hval0
  have hW' := hW
  obtain ⟨p, q, hA0, hV, rfl, _, _⟩ := hW
  have hA : DataW.TrodAll enc Try.prog W 0 (fun _ => true) true Try.f7.params.toList args.toList ds p := hA0
  rw [Try.params7] at hA hval
  obtain ⟨v0, d0, rfl, rfl, h0⟩ := trodAll_one hA
  obtain ⟨rfl, rfl⟩ := trodVars_none hV
  obtain ⟨aC, eC, kC, rfl⟩ := okWide_slice Try.underlying22 (hval 0 22 v0 rfl rfl)
  clear hA0 hval0
  simp only [List.append_nil] at hW'
  have hlt0 : ∀ x ∈ p, x.block < W.heap.size := fun x hx => by simpa using hW'.lt x (by simp [hx])
  obtain ⟨lC, rfl, mC, zC, cC⟩ := open_bytes h0
  refine (fnNearOf_all aC kC lC W mC zC cC).mono fun e W' ⟨he, hb⟩ => ?_
  subst he
  refine ⟨_, rfl, _, _, _, [], _, [], hW', trodAll_mk1 (shut_bool Try.underlying4 _), trodAll_mk1 (Below.trod Try.laidOut (by kernel_rfl) (of_decide_eq_true (by kernel_rfl)) h0 hb hlt0), rfl, hb.frame _, fun h => by cases h⟩

theorem fnNearOf_holds : Rows.FnNearOfSaid :=
  OpenClaim.holds_of_wide 7 Try.f7 rfl rfl rfl rfl rfl rfl rfl ⟨rfl, rfl, rfl, rfl, rfl⟩ rfl rfl rfl rfl rfl (by kernel_rfl) Try.func7 (by kernel_rfl)
    (of_decide_eq_true (by kernel_rfl)) (by unfold Func.isWrapper; first | (rw [if_pos (by decide +kernel)]; kernel_rfl) | (rw [if_neg (by decide +kernel)]; exact ⟨rfl, rfl⟩))
    (fun os started H enc _ => fnNearOf_lifted os started H enc)

end Go.Proofs.Ytjcbfijliacicaa
