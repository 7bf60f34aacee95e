
/-
  For every two lists of whole numbers the law FnExactPermUnder returns true, and the lists read behind the call as they read before. No condition.
-/
import Derived.Test.YtkpjlglfhhdcbaaSevX
import Derived.Test.YtkpjlglfhhdcbaaSevY
import Derived.Test.YtkpjlglfhhdcbaaNumA
import Derived.Test.YtkpjlglfhhdcbaaArgs
import Derived.Test.YtkpjlglfhhdcbaaLawK
namespace Go.Proofs.Ytkpjlglfhhdcbaa
open Go.ChangeShapes Go.WideShapes Go.ChangeAt Go.RowKit

set_option maxHeartbeats 4000000 in
theorem permUnder_law (aP : Option Addr) (kP : Nat) (lP : List Int) (aQ : Option Addr) (kQ : Nat) (lQ : List Int) (T0 : List Int) (b1 : Bool) (w : World) (_mP : lP.length ≤ maxLen) (cP : CellsAt w aP (lP.map (Value.int .i64))) (_mQ : lQ.length ≤ maxLen) (cQ : CellsAt w aQ (lQ.map (Value.int .i64))) (hT0 : T0.length ≤ 1048576)
    (HS : lP.length ≤ 1048576 → lQ.length ≤ 1048576 → ∀ (aP : Option Addr) (kP : Nat) (aQ : Option Addr) (kQ : Nat) (W : World), CellsAt W aP (lP.map (Value.int .i64)) → CellsAt W aQ (lQ.map (Value.int .i64)) → Calls Try.prog 30 #[.slice aP lP.length kP, .slice aQ lQ.length kQ] W fun e w' => NumsRet W.heap.size T0 b1 e w' ∧ Below W.heap.size W w')
    (HI : lP.length ≤ 1048576 → lQ.length ≤ 1048576 → ∀ (aP : Option Addr) (kP : Nat) (aQ : Option Addr) (kQ : Nat) (W : World), CellsAt W aP (lP.map (Value.int .i64)) → CellsAt W aQ (lQ.map (Value.int .i64)) → Calls Try.prog 31 #[.slice aP lP.length kP, .slice aQ lQ.length kQ] W fun e w' => NumsRet W.heap.size T0 b1 e w' ∧ Below W.heap.size W w') :
    Calls Try.prog 9 #[.slice aP lP.length kP, .slice aQ lQ.length kQ] w fun e w' => e = .returned (.bool true) ∧ Below w.heap.size w w' := by
  by_cases dP : lP.length ≤ 1048576
  · -- small
    have hdP : decide (1048576 < (lP.length : Int)) = false := by rw [decide_eq_false_iff_not]; omega
    by_cases dQ : lQ.length ≤ 1048576
    · -- small
      have hdQ : decide (1048576 < (lQ.length : Int)) = false := by rw [decide_eq_false_iff_not]; omega
      have HS := Lib.hid (HS dP dQ)
      have HI := Lib.hid (HI dP dQ)
      have HT0 := Lib.hid (show T0.length ≤ maxLen by unfold maxLen; omega)
      have HE0 := Lib.hid (eqI_self T0)
      have HLP := Lib.hid (show lP.length ≤ maxLen by unfold maxLen; omega)
      have HXP := Lib.hid (eqI_self lP)
      have HLQ := Lib.hid (show lQ.length ≤ maxLen by unfold maxLen; omega)
      have HXQ := Lib.hid (eqI_self lQ)
      have hq0 : decide (((1 + T0.length : Nat) : Int) < 0) = false := by rw [decide_eq_false_iff_not]; omega
      have hk0 : decide (((1 + lP.length + lQ.length : Nat) : Int) < 0) = false := by rw [decide_eq_false_iff_not]; omega
      have hB := Below.refl w.heap.size w
      go_enter Try.func9, Try.ntmps9
      have c0P := cP
      have c0Q := cQ
      go_wp2_with fail
      refine (toIntS_any _ _ _ _ dP cP).mono ?_
      rintro e w1 ⟨g_yP, k_yP, rfl, o, hb⟩
      replace cP := cP.below hb
      replace cQ := cQ.below hb
      replace hB := below_step hB hB.size hb
      have o_yP := o; clear o
      clear hb
      go_wp2_with fail
      refine (toIntS_any _ _ _ _ dQ cQ).mono ?_
      rintro e w2 ⟨g_yQ, k_yQ, rfl, o, hb⟩
      have ap_yP_yQ := apart_base o_yP o
      replace cP := cP.below hb
      replace cQ := cQ.below hb
      replace o_yP := ownsRow_below o_yP hb
      replace hB := below_step hB hB.size hb
      have o_yQ := o; clear o
      clear hb
      go_wp2_with fail
      refine (HS.out _ _ _ _ _ (owns_cells o_yP) (owns_cells o_yQ)).mono ?_
      rintro e w3 ⟨⟨wr0, wq0, rfl, ow0⟩, hb⟩
      have ap_yP_w0 := apart_base o_yP ow0
      have ap_yQ_w0 := apart_base o_yQ ow0
      replace cP := cP.below hb
      replace cQ := cQ.below hb
      replace o_yP := ownsRow_below o_yP hb
      replace o_yQ := ownsRow_below o_yQ hb
      replace hB := below_step hB hB.size hb
      have o_w0 := ow0; clear ow0
      clear hb
      clear o_yP
      clear ap_yP_yQ
      clear ap_yP_w0
      clear o_yQ
      clear ap_yQ_w0
      have hbase_xP := hB.size
      go_wp2_with fail
      refine (toIntS_any _ _ _ _ dP cP).mono ?_
      rintro e w4 ⟨g_xP, k_xP, rfl, o, hb⟩
      have ap_w0_xP := apart_base o_w0 o
      replace cP := cP.below hb
      replace cQ := cQ.below hb
      replace o_w0 := ownsRow_below o_w0 hb
      replace hB := below_step hB hB.size hb
      have o_xP := o; clear o
      clear hb
      have hbase_xQ := hB.size
      go_wp2_with fail
      refine (toIntS_any _ _ _ _ dQ cQ).mono ?_
      rintro e w5 ⟨g_xQ, k_xQ, rfl, o, hb⟩
      have ap_w0_xQ := apart_base o_w0 o
      have ap_xP_xQ := apart_base o_xP o
      replace cP := cP.below hb
      replace cQ := cQ.below hb
      replace o_w0 := ownsRow_below o_w0 hb
      replace o_xP := ownsRow_below o_xP hb
      replace hB := below_step hB hB.size hb
      have o_xQ := o; clear o
      clear hb
      have hbase_g0 := hB.size
      go_wp2_with fail
      refine (HI.out _ _ _ _ _ (owns_cells o_xP) (owns_cells o_xQ)).mono ?_
      rintro e w6 ⟨⟨gr0, gq0, rfl, og0⟩, hb⟩
      have ap_w0_g0 := apart_base o_w0 og0
      have ap_xP_g0 := apart_base o_xP og0
      have ap_xQ_g0 := apart_base o_xQ og0
      replace cP := cP.below hb
      replace cQ := cQ.below hb
      replace o_w0 := ownsRow_below o_w0 hb
      replace o_xP := ownsRow_below o_xP hb
      replace o_xQ := ownsRow_below o_xQ hb
      replace hB := below_step hB hB.size hb
      have o_g0 := og0; clear og0
      clear hb
      go_wp2_with fail
      refine (eqIntS_any _ _ _ _ _ _ T0 T0 _ rfl rfl HT0.out (owns_cells o_g0) (owns_cells o_w0)).mono ?_
      rw [HE0.out]; rintro e w7 ⟨rfl, hq⟩
      have hb := quiet_below hq; clear hq
      replace cP := cP.below hb
      replace cQ := cQ.below hb
      replace o_w0 := ownsRow_below o_w0 hb
      replace o_xP := ownsRow_below o_xP hb
      replace o_xQ := ownsRow_below o_xQ hb
      replace o_g0 := ownsRow_below o_g0 hb
      replace hB := below_step hB hB.size hb
      clear hb
      go_wp2_with fail
      refine (toIntS_any _ _ _ _ dP cP).mono ?_
      rintro e w8 ⟨g_zP, k_zP, rfl, o, hb⟩
      have ap_w0_zP := apart_base o_w0 o
      have ap_xP_zP := apart_base o_xP o
      have ap_xQ_zP := apart_base o_xQ o
      have ap_g0_zP := apart_base o_g0 o
      replace cP := cP.below hb
      replace cQ := cQ.below hb
      replace o_w0 := ownsRow_below o_w0 hb
      replace o_xP := ownsRow_below o_xP hb
      replace o_xQ := ownsRow_below o_xQ hb
      replace o_g0 := ownsRow_below o_g0 hb
      replace hB := below_step hB hB.size hb
      have o_zP := o; clear o
      clear hb
      go_wp2_with fail
      refine (eqIntS_any _ _ _ _ _ _ lP lP _ rfl rfl HLP.out (owns_cells o_xP) (owns_cells o_zP)).mono ?_
      rw [HXP.out]; rintro e w9 ⟨rfl, hq⟩
      have hb := quiet_below hq; clear hq
      replace cP := cP.below hb
      replace cQ := cQ.below hb
      replace o_w0 := ownsRow_below o_w0 hb
      replace o_xP := ownsRow_below o_xP hb
      replace o_xQ := ownsRow_below o_xQ hb
      replace o_g0 := ownsRow_below o_g0 hb
      replace o_zP := ownsRow_below o_zP hb
      replace hB := below_step hB hB.size hb
      clear hb
      clear o_zP
      clear ap_w0_zP
      clear ap_xP_zP
      clear ap_xQ_zP
      clear ap_g0_zP
      go_wp2_with fail
      refine (toIntS_any _ _ _ _ dQ cQ).mono ?_
      rintro e w10 ⟨g_zQ, k_zQ, rfl, o, hb⟩
      have ap_w0_zQ := apart_base o_w0 o
      have ap_xP_zQ := apart_base o_xP o
      have ap_xQ_zQ := apart_base o_xQ o
      have ap_g0_zQ := apart_base o_g0 o
      replace cP := cP.below hb
      replace cQ := cQ.below hb
      replace o_w0 := ownsRow_below o_w0 hb
      replace o_xP := ownsRow_below o_xP hb
      replace o_xQ := ownsRow_below o_xQ hb
      replace o_g0 := ownsRow_below o_g0 hb
      replace hB := below_step hB hB.size hb
      have o_zQ := o; clear o
      clear hb
      go_wp2_with fail
      refine (eqIntS_any _ _ _ _ _ _ lQ lQ _ rfl rfl HLQ.out (owns_cells o_xQ) (owns_cells o_zQ)).mono ?_
      rw [HXQ.out]; rintro e w11 ⟨rfl, hq⟩
      have hb := quiet_below hq; clear hq
      replace cP := cP.below hb
      replace cQ := cQ.below hb
      replace o_w0 := ownsRow_below o_w0 hb
      replace o_xP := ownsRow_below o_xP hb
      replace o_xQ := ownsRow_below o_xQ hb
      replace o_g0 := ownsRow_below o_g0 hb
      replace o_zQ := ownsRow_below o_zQ hb
      replace hB := below_step hB hB.size hb
      clear hb
      clear o_zQ
      clear ap_xQ_zQ
      clear ap_g0_zQ
      clear ap_w0_zQ
      clear ap_xP_zQ
      go_wp2_with fail
      refine (markIntS_any _ _ (1) _ lP _ (by omega) (by omega) (o_xP)).mono ?_
      rintro e w12 ⟨rfl, o, hg⟩
      have hB2 := below_mark hB o_xP (B := w.heap.size) hbase_xP hg hB.size
      replace cP := c0P.below hB2
      replace cQ := c0Q.below hB2
      replace o_w0 := owns_kept o_w0 hg ap_w0_xP
      replace o_xQ := owns_kept o_xQ hg ap_xP_xQ.symm
      replace o_g0 := owns_kept o_g0 hg ap_xP_g0.symm
      replace o_xP := o; clear o
      replace hB := hB2; clear hB2 hg
      go_wp2_with fail
      refine (markIntS_any _ _ (1 + lP.length) _ lQ _ (by omega) (by omega) (o_xQ)).mono ?_
      rintro e w13 ⟨rfl, o, hg⟩
      have hB2 := below_mark hB o_xQ (B := w.heap.size) hbase_xQ hg hB.size
      replace cP := c0P.below hB2
      replace cQ := c0Q.below hB2
      replace o_w0 := owns_kept o_w0 hg ap_w0_xQ
      replace o_xP := owns_kept o_xP hg ap_xP_xQ
      replace o_g0 := owns_kept o_g0 hg ap_xQ_g0.symm
      replace o_xQ := o; clear o
      replace hB := hB2; clear hB2 hg
      clear o_xP
      clear ap_w0_xP
      clear ap_xP_xQ
      clear ap_xP_g0
      clear o_xQ
      clear ap_xQ_g0
      clear ap_w0_xQ
      go_wp2_with fail
      refine (eqIntS_any _ _ _ _ _ _ T0 T0 _ rfl rfl HT0.out (owns_cells o_g0) (owns_cells o_w0)).mono ?_
      rw [HE0.out]; rintro e w14 ⟨rfl, hq⟩
      have hb := quiet_below hq; clear hq
      replace cP := cP.below hb
      replace cQ := cQ.below hb
      replace o_w0 := ownsRow_below o_w0 hb
      replace o_g0 := ownsRow_below o_g0 hb
      replace hB := below_step hB hB.size hb
      clear hb
      go_wp2_with fail
      refine (markIntS_any _ _ (1) _ T0 _ (by omega) (by omega) (o_g0)).mono ?_
      rintro e w15 ⟨rfl, o, hg⟩
      have hB2 := below_mark hB o_g0 (B := w.heap.size) hbase_g0 hg hB.size
      replace cP := c0P.below hB2
      replace cQ := c0Q.below hB2
      replace o_w0 := owns_kept o_w0 hg ap_w0_g0
      replace o_g0 := o; clear o
      replace hB := hB2; clear hB2 hg
      go_wp2_with fail
      refine (heldIntS_any _ _ (1) T0.length _ (by omega) (by omega) (owns_cells o_g0)).mono ?_
      rintro e w16 ⟨rfl, hb⟩
      replace cP := cP.below hb
      replace cQ := cQ.below hb
      replace o_w0 := ownsRow_below o_w0 hb
      replace o_g0 := ownsRow_below o_g0 hb
      replace hB := below_step hB hB.size hb
      clear hb
      go_wp2_with fail
      refine (toIntS_any _ _ _ _ dP cP).mono ?_
      rintro e w17 ⟨g_yP, k_yP, rfl, o, hb⟩
      have ap_w0_yP := apart_base o_w0 o
      have ap_g0_yP := apart_base o_g0 o
      replace cP := cP.below hb
      replace cQ := cQ.below hb
      replace o_w0 := ownsRow_below o_w0 hb
      replace o_g0 := ownsRow_below o_g0 hb
      replace hB := below_step hB hB.size hb
      have o_yP := o; clear o
      clear hb
      go_wp2_with fail
      refine (toIntS_any _ _ _ _ dQ cQ).mono ?_
      rintro e w18 ⟨g_yQ, k_yQ, rfl, o, hb⟩
      have ap_w0_yQ := apart_base o_w0 o
      have ap_g0_yQ := apart_base o_g0 o
      have ap_yP_yQ := apart_base o_yP o
      replace cP := cP.below hb
      replace cQ := cQ.below hb
      replace o_w0 := ownsRow_below o_w0 hb
      replace o_g0 := ownsRow_below o_g0 hb
      replace o_yP := ownsRow_below o_yP hb
      replace hB := below_step hB hB.size hb
      have o_yQ := o; clear o
      clear hb
      go_wp2_with fail
      refine (HI.out _ _ _ _ _ (owns_cells o_yP) (owns_cells o_yQ)).mono ?_
      rintro e w19 ⟨⟨hr0, hq0, rfl, oh0⟩, hb⟩
      have ap_w0_h0 := apart_base o_w0 oh0
      have ap_g0_h0 := apart_base o_g0 oh0
      have ap_yP_h0 := apart_base o_yP oh0
      have ap_yQ_h0 := apart_base o_yQ oh0
      replace cP := cP.below hb
      replace cQ := cQ.below hb
      replace o_w0 := ownsRow_below o_w0 hb
      replace o_g0 := ownsRow_below o_g0 hb
      replace o_yP := ownsRow_below o_yP hb
      replace o_yQ := ownsRow_below o_yQ hb
      replace hB := below_step hB hB.size hb
      have o_h0 := oh0; clear oh0
      clear hb
      clear o_yP
      clear ap_yP_yQ
      clear ap_g0_yP
      clear ap_w0_yP
      clear ap_yP_h0
      clear o_yQ
      clear ap_g0_yQ
      clear ap_yQ_h0
      clear ap_w0_yQ
      go_wp2_with fail
      refine (eqIntS_any _ _ _ _ _ _ T0 T0 _ rfl rfl HT0.out (owns_cells o_h0) (owns_cells o_w0)).mono ?_
      rw [HE0.out]; rintro e w20 ⟨rfl, hq⟩
      have hb := quiet_below hq; clear hq
      replace cP := cP.below hb
      replace cQ := cQ.below hb
      replace o_w0 := ownsRow_below o_w0 hb
      replace o_g0 := ownsRow_below o_g0 hb
      replace o_h0 := ownsRow_below o_h0 hb
      replace hB := below_step hB hB.size hb
      clear hb
      go_wp2_with fail
      refine (heldIntS_any _ _ (1) T0.length _ (by omega) (by omega) (owns_cells o_g0)).mono ?_
      rintro e w21 ⟨rfl, hb⟩
      replace cP := cP.below hb
      replace cQ := cQ.below hb
      replace o_w0 := ownsRow_below o_w0 hb
      replace o_g0 := ownsRow_below o_g0 hb
      replace o_h0 := ownsRow_below o_h0 hb
      replace hB := below_step hB hB.size hb
      clear hb
      go_wp2
      go_ret
      exact ⟨rfl, hB⟩
    · have hdQ : decide (1048576 < (lQ.length : Int)) = true := by rw [decide_eq_true_eq]; omega
      go_enter Try.func9, Try.ntmps9
      go_wp2
      go_ret
      exact ⟨rfl, Below.refl _ _⟩
  · have hdP : decide (1048576 < (lP.length : Int)) = true := by rw [decide_eq_true_eq]; omega
    go_enter Try.func9, Try.ntmps9
    go_wp2
    go_ret
    exact ⟨rfl, Below.refl _ _⟩


theorem permUnder_all (aP : Option Addr) (kP : Nat) (lP : List Int) (aQ : Option Addr) (kQ : Nat) (lQ : List Int) (w : World) (_mP : lP.length ≤ maxLen) (cP : CellsAt w aP (lP.map (Value.int .i64))) (_mQ : lQ.length ≤ maxLen) (cQ : CellsAt w aQ (lQ.map (Value.int .i64))) :
    Calls Try.prog 9 #[.slice aP lP.length kP, .slice aQ lQ.length kQ] w fun e w' => e = .returned (.bool true) ∧ Below w.heap.size w w' :=
  permUnder_law aP kP lP aQ kQ lQ (underO lP lQ) (bothP lP lQ) w _mP cP _mQ cQ (underO_few lP lQ) (fun hl hm _ _ _ _ _ hc hd => specPermUnder_any _ _ _ _ _ _ _ hl hm hc hd) (fun hl hm _ _ _ _ _ hc hd => implPermUnder_any _ _ _ _ _ _ _ hl hm hc hd)

set_option maxRecDepth 100000 in
theorem permUnder_lifted (os : Os) (started : os.Started) (H : Type) (enc : TypeId × Value → H) :
    ReturnsInHanded {} Try.checked os 9 .any (Rows.fnExactPermUnderSpec.pre6 enc Try.prog Try.f9 Rows.fnExactPermUnderRow.domain false) (Rows.fnExactPermUnderSpec.post enc Try.prog Try.f9 false true false false) := by
  refine returnsInHanded_of_change (C := Try.checked) Try.own started (by kernel_rfl) Try.func9
    (ChangeSpec.witness6 (enc := enc) (C := Try.checked) false ⟨#[], #[.slice none 0 0, .slice none 0 0], []⟩ 8 (by kernel_rfl) (by kernel_rfl) (by kernel_rfl) (by kernel_rfl)) ?_
  intro W base args ds gs before hval0 hW _ _
  have hval : ∀ (j : Nat) t v, Try.f9.params[j]? = some t → args[j]? = some v → Value.okWide Try.prog W .any base t v := hval0
  have hW' := hW
  obtain ⟨p, q, hA0, hV, rfl, _, _⟩ := hW
  have hA : DataW.TrodAll enc Try.prog W 0 (fun _ => true) true Try.f9.params.toList args.toList ds p := hA0
  rw [Try.params9] at hA hval
  obtain ⟨v0, v1, d0, d1, p0, p1, rfl, rfl, rfl, h0, h1⟩ := trodAll_two hA
  obtain ⟨rfl, rfl⟩ := trodVars_none hV
  obtain ⟨aP, eP, kP, rfl⟩ := okWide_slice Try.underlying22 (hval 0 22 v0 rfl rfl)
  obtain ⟨aQ, eQ, kQ, rfl⟩ := okWide_slice Try.underlying22 (hval 1 22 v1 rfl rfl)
  clear hA0 hval0
  simp only [List.append_nil] at hW'
  have hlt0 : ∀ x ∈ p0, x.block < W.heap.size := fun x hx => by simpa using hW'.lt x (by simp [hx])
  have hlt1 : ∀ x ∈ p1, x.block < W.heap.size := fun x hx => by simpa using hW'.lt x (by simp [hx])
  obtain ⟨lP, rfl, mP, cP⟩ := open_numbers h0
  obtain ⟨lQ, rfl, mQ, cQ⟩ := open_numbers h1
  refine (permUnder_all aP kP lP aQ kQ lQ W mP cP mQ cQ).mono fun e W' ⟨he, hb⟩ => ?_
  subst he
  refine ⟨_, rfl, _, _, _, [], _, [], hW', trodAll_mk1 (shut_bool Try.underlying4 _), trodAll_mk2 (Below.trod Try.laidOut (by kernel_rfl) (of_decide_eq_true (by kernel_rfl)) h0 hb hlt0) (Below.trod Try.laidOut (by kernel_rfl) (of_decide_eq_true (by kernel_rfl)) h1 hb hlt1), rfl, hb.frame _, fun h => by cases h⟩

theorem permUnder_holds : Rows.FnExactPermUnderSaid :=
  OpenClaim.holds_of_wide 9 Try.f9 rfl rfl rfl rfl rfl rfl rfl ⟨rfl, rfl, rfl, rfl, rfl⟩ rfl rfl rfl rfl rfl (by kernel_rfl) Try.func9 (by kernel_rfl)
    (of_decide_eq_true (by kernel_rfl)) (by unfold Func.isWrapper; first | (rw [if_pos (by decide +kernel)]; kernel_rfl) | (rw [if_neg (by decide +kernel)]; exact ⟨rfl, rfl⟩))
    (fun os started H enc _ => permUnder_lifted os started H enc)

end Go.Proofs.Ytkpjlglfhhdcbaa
