
/-
  For every two whole numbers and three lists of whole numbers the law FnExactSheetValue returns true, and the lists read behind the call as they read before. No condition.
-/
import Derived.Test.YtclnbggeoknekaaShQ
import Derived.Test.YtclnbggeoknekaaShP
import Derived.Test.YtclnbggeoknekaaNumA
import Derived.Test.YtclnbggeoknekaaFive
import Derived.Test.YtclnbggeoknekaaArgs
import Derived.Test.YtclnbggeoknekaaLawK
namespace Go.Proofs.Ytclnbggeoknekaa
open Go.ChangeShapes Go.WideShapes Go.ChangeAt Go.RowKit

set_option maxHeartbeats 4000000 in
theorem sheetValue_law (nW : Int) (nH : Int) (aP : Option Addr) (kP : Nat) (lP : List Int) (aQ : Option Addr) (kQ : Nat) (lQ : List Int) (aR : Option Addr) (kR : Nat) (lR : List Int) (v0 : Int) (b1 : Bool) (w : World) (_mP : lP.length ≤ maxLen) (cP : CellsAt w aP (lP.map (Value.int .i64))) (_mQ : lQ.length ≤ maxLen) (cQ : CellsAt w aQ (lQ.map (Value.int .i64))) (_mR : lR.length ≤ maxLen) (cR : CellsAt w aR (lR.map (Value.int .i64))) 
    (HS : lP.length ≤ 1048576 → lQ.length ≤ 1048576 → lR.length ≤ 1048576 → ∀ (aP : Option Addr) (kP : Nat) (aQ : Option Addr) (kQ : Nat) (aR : Option Addr) (kR : Nat) (W : World), CellsAt W aP (lP.map (Value.int .i64)) → CellsAt W aQ (lQ.map (Value.int .i64)) → CellsAt W aR (lR.map (Value.int .i64)) → Calls Try.prog 19 #[.int .i64 nW, .int .i64 nH, .slice aP lP.length kP, .slice aQ lQ.length kQ, .slice aR lR.length kR] W fun e w' => e = .returned (.tuple #[.int .i64 v0, .bool b1]) ∧ Below W.heap.size W w')
    (HI : lP.length ≤ 1048576 → lQ.length ≤ 1048576 → lR.length ≤ 1048576 → ∀ (aP : Option Addr) (kP : Nat) (aQ : Option Addr) (kQ : Nat) (aR : Option Addr) (kR : Nat) (W : World), CellsAt W aP (lP.map (Value.int .i64)) → CellsAt W aQ (lQ.map (Value.int .i64)) → CellsAt W aR (lR.map (Value.int .i64)) → Calls Try.prog 21 #[.int .i64 nW, .int .i64 nH, .slice aP lP.length kP, .slice aQ lQ.length kQ, .slice aR lR.length kR] W fun e w' => e = .returned (.tuple #[.int .i64 v0, .bool b1]) ∧ Below W.heap.size W w') :
    Calls Try.prog 8 #[.int .i64 nW, .int .i64 nH, .slice aP lP.length kP, .slice aQ lQ.length kQ, .slice aR lR.length kR] w fun e w' => e = .returned (.bool true) ∧ Below w.heap.size w w' := by
  by_cases dP : lP.length ≤ 1048576
  · -- small
    have hdP : decide (1048576 < (lP.length : Int)) = false := by rw [decide_eq_false_iff_not]; omega
    by_cases dQ : lQ.length ≤ 1048576
    · -- small
      have hdQ : decide (1048576 < (lQ.length : Int)) = false := by rw [decide_eq_false_iff_not]; omega
      by_cases dR : lR.length ≤ 1048576
      · -- small
        have hdR : decide (1048576 < (lR.length : Int)) = false := by rw [decide_eq_false_iff_not]; omega
        have HS := Lib.hid (HS dP dQ dR)
        have HI := Lib.hid (HI dP dQ dR)
        have HLP := Lib.hid (show lP.length ≤ maxLen by unfold maxLen; omega)
        have HXP := Lib.hid (eqI_self lP)
        have HLQ := Lib.hid (show lQ.length ≤ maxLen by unfold maxLen; omega)
        have HXQ := Lib.hid (eqI_self lQ)
        have HLR := Lib.hid (show lR.length ≤ maxLen by unfold maxLen; omega)
        have HXR := Lib.hid (eqI_self lR)
        have hB := Below.refl w.heap.size w
        go_enter Try.func8, Try.ntmps8
        have c0P := cP
        have c0Q := cQ
        have c0R := cR
        go_wp2_with fail
        refine (toIntS_any _ _ _ _ dP cP).mono ?_
        rintro e w1 ⟨g_yP, k_yP, rfl, o, hb⟩
        replace cP := cP.below hb
        replace cQ := cQ.below hb
        replace cR := cR.below hb
        replace hB := below_step hB hB.size hb
        have o_yP := o; clear o
        clear hb
        go_wp2_with fail
        refine (toIntS_any _ _ _ _ dQ cQ).mono ?_
        rintro e w2 ⟨g_yQ, k_yQ, rfl, o, hb⟩
        have ap_yP_yQ := apart_base o_yP o
        replace cP := cP.below hb
        replace cQ := cQ.below hb
        replace cR := cR.below hb
        replace o_yP := ownsRow_below o_yP hb
        replace hB := below_step hB hB.size hb
        have o_yQ := o; clear o
        clear hb
        go_wp2_with fail
        refine (toIntS_any _ _ _ _ dR cR).mono ?_
        rintro e w3 ⟨g_yR, k_yR, rfl, o, hb⟩
        have ap_yP_yR := apart_base o_yP o
        have ap_yQ_yR := apart_base o_yQ o
        replace cP := cP.below hb
        replace cQ := cQ.below hb
        replace cR := cR.below hb
        replace o_yP := ownsRow_below o_yP hb
        replace o_yQ := ownsRow_below o_yQ hb
        replace hB := below_step hB hB.size hb
        have o_yR := o; clear o
        clear hb
        go_wp2_with fail
        refine (HS.out _ _ _ _ _ _ _ (owns_cells o_yP) (owns_cells o_yQ) (owns_cells o_yR)).mono ?_
        rintro e w4 ⟨rfl, hb⟩
        replace cP := cP.below hb
        replace cQ := cQ.below hb
        replace cR := cR.below hb
        replace o_yP := ownsRow_below o_yP hb
        replace o_yQ := ownsRow_below o_yQ hb
        replace o_yR := ownsRow_below o_yR hb
        replace hB := below_step hB hB.size hb
        clear hb
        clear o_yP
        clear ap_yP_yQ
        clear ap_yP_yR
        clear o_yQ
        clear ap_yQ_yR
        clear o_yR
        have hbase_xP := hB.size
        go_wp2_with fail
        refine (toIntS_any _ _ _ _ dP cP).mono ?_
        rintro e w5 ⟨g_xP, k_xP, rfl, o, hb⟩
        replace cP := cP.below hb
        replace cQ := cQ.below hb
        replace cR := cR.below hb
        replace hB := below_step hB hB.size hb
        have o_xP := o; clear o
        clear hb
        have hbase_xQ := hB.size
        go_wp2_with fail
        refine (toIntS_any _ _ _ _ dQ cQ).mono ?_
        rintro e w6 ⟨g_xQ, k_xQ, rfl, o, hb⟩
        have ap_xP_xQ := apart_base o_xP o
        replace cP := cP.below hb
        replace cQ := cQ.below hb
        replace cR := cR.below hb
        replace o_xP := ownsRow_below o_xP hb
        replace hB := below_step hB hB.size hb
        have o_xQ := o; clear o
        clear hb
        have hbase_xR := hB.size
        go_wp2_with fail
        refine (toIntS_any _ _ _ _ dR cR).mono ?_
        rintro e w7 ⟨g_xR, k_xR, rfl, o, hb⟩
        have ap_xP_xR := apart_base o_xP o
        have ap_xQ_xR := apart_base o_xQ o
        replace cP := cP.below hb
        replace cQ := cQ.below hb
        replace cR := cR.below hb
        replace o_xP := ownsRow_below o_xP hb
        replace o_xQ := ownsRow_below o_xQ hb
        replace hB := below_step hB hB.size hb
        have o_xR := o; clear o
        clear hb
        go_wp2_with fail
        refine (HI.out _ _ _ _ _ _ _ (owns_cells o_xP) (owns_cells o_xQ) (owns_cells o_xR)).mono ?_
        rintro e w8 ⟨rfl, hb⟩
        replace cP := cP.below hb
        replace cQ := cQ.below hb
        replace cR := cR.below hb
        replace o_xP := ownsRow_below o_xP hb
        replace o_xQ := ownsRow_below o_xQ hb
        replace o_xR := ownsRow_below o_xR hb
        replace hB := below_step hB hB.size hb
        clear hb
        go_wp2_with fail
        refine (toIntS_any _ _ _ _ dP cP).mono ?_
        rintro e w9 ⟨g_zP, k_zP, rfl, o, hb⟩
        have ap_xP_zP := apart_base o_xP o
        have ap_xQ_zP := apart_base o_xQ o
        have ap_xR_zP := apart_base o_xR o
        replace cP := cP.below hb
        replace cQ := cQ.below hb
        replace cR := cR.below hb
        replace o_xP := ownsRow_below o_xP hb
        replace o_xQ := ownsRow_below o_xQ hb
        replace o_xR := ownsRow_below o_xR hb
        replace hB := below_step hB hB.size hb
        have o_zP := o; clear o
        clear hb
        go_wp2_with fail
        refine (eqIntS_any _ _ _ _ _ _ lP lP _ rfl rfl HLP.out (owns_cells o_xP) (owns_cells o_zP)).mono ?_
        rw [HXP.out]; rintro e w10 ⟨rfl, hq⟩
        have hb := quiet_below hq; clear hq
        replace cP := cP.below hb
        replace cQ := cQ.below hb
        replace cR := cR.below hb
        replace o_xP := ownsRow_below o_xP hb
        replace o_xQ := ownsRow_below o_xQ hb
        replace o_xR := ownsRow_below o_xR hb
        replace o_zP := ownsRow_below o_zP hb
        replace hB := below_step hB hB.size hb
        clear hb
        clear o_zP
        clear ap_xR_zP
        clear ap_xQ_zP
        clear ap_xP_zP
        go_wp2_with fail
        refine (toIntS_any _ _ _ _ dQ cQ).mono ?_
        rintro e w11 ⟨g_zQ, k_zQ, rfl, o, hb⟩
        have ap_xP_zQ := apart_base o_xP o
        have ap_xQ_zQ := apart_base o_xQ o
        have ap_xR_zQ := apart_base o_xR o
        replace cP := cP.below hb
        replace cQ := cQ.below hb
        replace cR := cR.below hb
        replace o_xP := ownsRow_below o_xP hb
        replace o_xQ := ownsRow_below o_xQ hb
        replace o_xR := ownsRow_below o_xR hb
        replace hB := below_step hB hB.size hb
        have o_zQ := o; clear o
        clear hb
        go_wp2_with fail
        refine (eqIntS_any _ _ _ _ _ _ lQ lQ _ rfl rfl HLQ.out (owns_cells o_xQ) (owns_cells o_zQ)).mono ?_
        rw [HXQ.out]; rintro e w12 ⟨rfl, hq⟩
        have hb := quiet_below hq; clear hq
        replace cP := cP.below hb
        replace cQ := cQ.below hb
        replace cR := cR.below hb
        replace o_xP := ownsRow_below o_xP hb
        replace o_xQ := ownsRow_below o_xQ hb
        replace o_xR := ownsRow_below o_xR hb
        replace o_zQ := ownsRow_below o_zQ hb
        replace hB := below_step hB hB.size hb
        clear hb
        clear o_zQ
        clear ap_xR_zQ
        clear ap_xQ_zQ
        clear ap_xP_zQ
        go_wp2_with fail
        refine (toIntS_any _ _ _ _ dR cR).mono ?_
        rintro e w13 ⟨g_zR, k_zR, rfl, o, hb⟩
        have ap_xP_zR := apart_base o_xP o
        have ap_xQ_zR := apart_base o_xQ o
        have ap_xR_zR := apart_base o_xR o
        replace cP := cP.below hb
        replace cQ := cQ.below hb
        replace cR := cR.below hb
        replace o_xP := ownsRow_below o_xP hb
        replace o_xQ := ownsRow_below o_xQ hb
        replace o_xR := ownsRow_below o_xR hb
        replace hB := below_step hB hB.size hb
        have o_zR := o; clear o
        clear hb
        go_wp2_with fail
        refine (eqIntS_any _ _ _ _ _ _ lR lR _ rfl rfl HLR.out (owns_cells o_xR) (owns_cells o_zR)).mono ?_
        rw [HXR.out]; rintro e w14 ⟨rfl, hq⟩
        have hb := quiet_below hq; clear hq
        replace cP := cP.below hb
        replace cQ := cQ.below hb
        replace cR := cR.below hb
        replace o_xP := ownsRow_below o_xP hb
        replace o_xQ := ownsRow_below o_xQ hb
        replace o_xR := ownsRow_below o_xR hb
        replace o_zR := ownsRow_below o_zR hb
        replace hB := below_step hB hB.size hb
        clear hb
        clear o_zR
        clear ap_xR_zR
        clear ap_xP_zR
        clear ap_xQ_zR
        go_wp2
        go_ret
        exact ⟨rfl, hB⟩
      · have hdR : decide (1048576 < (lR.length : Int)) = true := by rw [decide_eq_true_eq]; omega
        go_enter Try.func8, Try.ntmps8
        go_wp2
        go_ret
        exact ⟨rfl, Below.refl _ _⟩
    · have hdQ : decide (1048576 < (lQ.length : Int)) = true := by rw [decide_eq_true_eq]; omega
      go_enter Try.func8, Try.ntmps8
      go_wp2
      go_ret
      exact ⟨rfl, Below.refl _ _⟩
  · have hdP : decide (1048576 < (lP.length : Int)) = true := by rw [decide_eq_true_eq]; omega
    go_enter Try.func8, Try.ntmps8
    go_wp2
    go_ret
    exact ⟨rfl, Below.refl _ _⟩


theorem sheetValue_all (nW : Int) (nH : Int) (aP : Option Addr) (kP : Nat) (lP : List Int) (aQ : Option Addr) (kQ : Nat) (lQ : List Int) (aR : Option Addr) (kR : Nat) (lR : List Int) (w : World) (_mP : lP.length ≤ maxLen) (cP : CellsAt w aP (lP.map (Value.int .i64))) (_mQ : lQ.length ≤ maxLen) (cQ : CellsAt w aQ (lQ.map (Value.int .i64))) (_mR : lR.length ≤ maxLen) (cR : CellsAt w aR (lR.map (Value.int .i64))) :
    Calls Try.prog 8 #[.int .i64 nW, .int .i64 nH, .slice aP lP.length kP, .slice aQ lQ.length kQ, .slice aR lR.length kR] w fun e w' => e = .returned (.bool true) ∧ Below w.heap.size w w' :=
  sheetValue_law nW nH aP kP lP aQ kQ lQ aR kR lR (valO nW nH lP lQ lR) (shB nW nH && kindsB lP lQ lR) w _mP cP _mQ cQ _mR cR (fun hl _ _ _ _ _ _ _ _ _ hc hd he => specSheetValue_any _ _ _ _ _ _ _ _ _ _ _ _ hl hc hd he) (fun hl _ _ _ _ _ _ _ _ _ hc hd he => implSheetValue_any _ _ _ _ _ _ _ _ _ _ _ _ hl hc hd he)

set_option maxRecDepth 100000 in
theorem sheetValue_lifted (os : Os) (started : os.Started) (H : Type) (enc : TypeId × Value → H) :
    ReturnsInHanded {} Try.checked os 8 .any (Rows.fnExactSheetValueSpec.pre6 enc Try.prog Try.f8 Rows.fnExactSheetValueRow.domain false) (Rows.fnExactSheetValueSpec.post enc Try.prog Try.f8 false true false false) := by
  refine returnsInHanded_of_change (C := Try.checked) Try.own started (by kernel_rfl) Try.func8
    (ChangeSpec.witness6 (enc := enc) (C := Try.checked) false ⟨#[], #[.int .i64 0, .int .i64 0, .slice none 0 0, .slice none 0 0, .slice none 0 0], []⟩ 8 (by kernel_rfl) (by kernel_rfl) (by kernel_rfl) (by kernel_rfl)) ?_
  intro W base args ds gs before hval0 hW _ _
  have hval : ∀ (j : Nat) t v, Try.f8.params[j]? = some t → args[j]? = some v → Value.okWide Try.prog W .any base t v := hval0
  have hW' := hW
  obtain ⟨p, q, hA0, hV, rfl, _, _⟩ := hW
  have hA : DataW.TrodAll enc Try.prog W 0 (fun _ => true) true Try.f8.params.toList args.toList ds p := hA0
  rw [Try.params8] at hA hval
  obtain ⟨v0, v1, v2, v3, v4, d0, d1, d2, d3, d4, p0, p1, p2, p3, p4, rfl, rfl, rfl, h0, h1, h2, h3, h4⟩ := trodAll_five hA
  obtain ⟨rfl, rfl⟩ := trodVars_none hV
  obtain ⟨nW, rfl, rfl, rfl, wW⟩ := open_int Try.underlying3 (hval 0 3 v0 rfl rfl) h0
  obtain ⟨nH, rfl, rfl, rfl, wH⟩ := open_int Try.underlying3 (hval 1 3 v1 rfl rfl) h1
  obtain ⟨aP, eP, kP, rfl⟩ := okWide_slice Try.underlying27 (hval 2 27 v2 rfl rfl)
  obtain ⟨aQ, eQ, kQ, rfl⟩ := okWide_slice Try.underlying27 (hval 3 27 v3 rfl rfl)
  obtain ⟨aR, eR, kR, rfl⟩ := okWide_slice Try.underlying27 (hval 4 27 v4 rfl rfl)
  clear hA0 hval0
  simp only [List.append_nil, List.nil_append] at hW'
  have hlt2 : ∀ x ∈ p2, x.block < W.heap.size := fun x hx => by simpa using hW'.lt x (by simp [hx])
  have hlt3 : ∀ x ∈ p3, x.block < W.heap.size := fun x hx => by simpa using hW'.lt x (by simp [hx])
  have hlt4 : ∀ x ∈ p4, x.block < W.heap.size := fun x hx => by simpa using hW'.lt x (by simp [hx])
  obtain ⟨lP, rfl, mP, cP⟩ := open_numbers h2
  obtain ⟨lQ, rfl, mQ, cQ⟩ := open_numbers h3
  obtain ⟨lR, rfl, mR, cR⟩ := open_numbers h4
  refine (sheetValue_all nW nH aP kP lP aQ kQ lQ aR kR lR W mP cP mQ cQ mR cR).mono fun e W' ⟨he, hb⟩ => ?_
  subst he
  refine ⟨_, rfl, _, _, _, [], _, [], hW', trodAll_mk1 (shut_bool Try.underlying4 _), trodAll_mk5 (shut_int Try.underlying3 wW) (shut_int Try.underlying3 wH) (Below.trod Try.laidOut (by kernel_rfl) (of_decide_eq_true (by kernel_rfl)) h2 hb hlt2) (Below.trod Try.laidOut (by kernel_rfl) (of_decide_eq_true (by kernel_rfl)) h3 hb hlt3) (Below.trod Try.laidOut (by kernel_rfl) (of_decide_eq_true (by kernel_rfl)) h4 hb hlt4), rfl, hb.frame _, fun h => by cases h⟩

theorem sheetValue_holds : Rows.FnExactSheetValueSaid :=
  OpenClaim.holds_of_wide 8 Try.f8 rfl rfl rfl rfl rfl rfl rfl ⟨rfl, rfl, rfl, rfl, rfl⟩ rfl rfl rfl rfl rfl (by kernel_rfl) Try.func8 (by kernel_rfl)
    (of_decide_eq_true (by kernel_rfl)) (by unfold Func.isWrapper; first | (rw [if_pos (by decide +kernel)]; kernel_rfl) | (rw [if_neg (by decide +kernel)]; exact ⟨rfl, rfl⟩))
    (fun os started H enc _ => sheetValue_lifted os started H enc)

end Go.Proofs.Ytclnbggeoknekaa
