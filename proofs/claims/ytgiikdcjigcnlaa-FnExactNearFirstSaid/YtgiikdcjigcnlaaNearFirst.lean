
/-
  For every list of texts the law FnExactNearFirst returns true, and the list reads behind the call as it read before. No condition.
-/
import Derived.Test.YtgiikdcjigcnlaaColW
import Derived.Test.YtgiikdcjigcnlaaArgs
import Derived.Test.YtgiikdcjigcnlaaLaws
namespace Go.Proofs.Ytgiikdcjigcnlaa
open Go.ChangeShapes Go.WideShapes Go.ChangeAt Go.RowKit

set_option maxHeartbeats 4000000 in
theorem nearFirst_law (aP : Option Addr) (kP : Nat) (lP : List ByteArray) (T0 : List Int) (b1 : Bool) (w : World) (mP : lP.length ≤ maxLen) (zP : ∀ s ∈ lP, s.size ≤ maxLen) (cP : CellsAt w aP (lP.map Value.string)) (hT0 : T0.length ≤ 1048576)
    (HS : lP.length ≤ 1048576 → (∀ s ∈ lP, s.size ≤ 1048576) → ∀ (aP : Option Addr) (kP : Nat) (W : World), CellsAt W aP (lP.map Value.string) → Calls Try.prog 16 #[.slice aP lP.length kP] W fun e w' => NumsRet W.heap.size T0 b1 e w' ∧ Below W.heap.size W w')
    (HI : lP.length ≤ 1048576 → (∀ s ∈ lP, s.size ≤ 1048576) → ∀ (aP : Option Addr) (kP : Nat) (W : World), CellsAt W aP (lP.map Value.string) → Calls Try.prog 17 #[.slice aP lP.length kP] W fun e w' => NumsRet W.heap.size T0 b1 e w' ∧ Below W.heap.size W w') :
    Calls Try.prog 6 #[.slice aP lP.length kP] w fun e w' => e = .returned (.bool true) ∧ Below w.heap.size w w' := by
  obtain ⟨yP, hyP⟩ : ∃ y, szAll lP 1048576 = y := ⟨_, rfl⟩
  by_cases uP : yP < 0
  · have hd : decide (yP < 0) = true := decide_eq_true uP
    go_enter Try.func6, Try.ntmps6
    go_wp2_with fail
    refine (szStringS_any _ _ _ _ _ mP (by omega) (by omega) zP cP).mono ?_
    rw [hyP]; rintro e w1 ⟨rfl, rfl⟩
    go_wp2
    go_ret
    exact ⟨rfl, Below.refl _ _⟩
  · have hdP : decide (yP < 0) = false := decide_eq_false uP
    obtain ⟨leP, lnP, lsP⟩ := szAll_bound (l := lP) (n := 1048576) (by rw [hyP]; exact uP)
    rw [hyP] at leP
    have LP : lP.length ≤ 1048576 := by omega
    have SP : ∀ s ∈ lP, s.size ≤ 1048576 := fun s h => by have := lsP s h; omega
    have HS := Lib.hid (HS LP SP)
    have HI := Lib.hid (HI LP SP)
    clear lnP lsP
    have HT0 := Lib.hid (show T0.length ≤ maxLen by unfold maxLen; omega)
    have HE0 := Lib.hid (eqI_self T0)
    have HLP := Lib.hid (show lP.length ≤ maxLen by unfold maxLen; omega)
    have HXP := Lib.hid (eqS_self lP)
    have hq0 : decide (((1 + T0.length : Nat) : Int) < 0) = false := by rw [decide_eq_false_iff_not]; omega
    have hk0 : decide (((1 + lP.length : Nat) : Int) < 0) = false := by rw [decide_eq_false_iff_not]; omega
    have hB := Below.refl w.heap.size w
    go_enter Try.func6, Try.ntmps6
    go_wp2_with fail
    refine (szStringS_any _ _ _ _ _ mP (by omega) (by omega) zP cP).mono ?_
    rw [hyP]; rintro e w1 ⟨rfl, rfl⟩
    have c0P := cP
    go_wp2_with fail
    refine (toStringS_any _ _ _ _ LP cP).mono ?_
    rintro e w1 ⟨g_yP, k_yP, rfl, o, hb⟩
    replace cP := cP.below hb
    replace hB := below_step hB hB.size hb
    have o_yP := o; clear o
    clear hb
    go_wp2_with fail
    refine (HS.out _ _ _ (owns_cells o_yP)).mono ?_
    rintro e w2 ⟨⟨wr0, wq0, rfl, ow0⟩, hb⟩
    have ap_yP_w0 := apart_base o_yP ow0
    replace cP := cP.below hb
    replace o_yP := ownsRow_below o_yP hb
    replace hB := below_step hB hB.size hb
    have o_w0 := ow0; clear ow0
    clear hb
    clear o_yP
    clear ap_yP_w0
    have hbase_xP := hB.size
    go_wp2_with fail
    refine (toStringS_any _ _ _ _ LP cP).mono ?_
    rintro e w3 ⟨g_xP, k_xP, rfl, o, hb⟩
    have ap_w0_xP := apart_base o_w0 o
    replace cP := cP.below hb
    replace o_w0 := ownsRow_below o_w0 hb
    replace hB := below_step hB hB.size hb
    have o_xP := o; clear o
    clear hb
    have hbase_g0 := hB.size
    go_wp2_with fail
    refine (HI.out _ _ _ (owns_cells o_xP)).mono ?_
    rintro e w4 ⟨⟨gr0, gq0, rfl, og0⟩, hb⟩
    have ap_w0_g0 := apart_base o_w0 og0
    have ap_xP_g0 := apart_base o_xP og0
    replace cP := cP.below hb
    replace o_w0 := ownsRow_below o_w0 hb
    replace o_xP := ownsRow_below o_xP hb
    replace hB := below_step hB hB.size hb
    have o_g0 := og0; clear og0
    clear hb
    go_wp2_with fail
    refine (eqIntS_any _ _ _ _ _ _ T0 T0 _ rfl rfl HT0.out (owns_cells o_g0) (owns_cells o_w0)).mono ?_
    rw [HE0.out]; rintro e w5 ⟨rfl, hq⟩
    have hb := quiet_below hq; clear hq
    replace cP := cP.below hb
    replace o_w0 := ownsRow_below o_w0 hb
    replace o_xP := ownsRow_below o_xP hb
    replace o_g0 := ownsRow_below o_g0 hb
    replace hB := below_step hB hB.size hb
    clear hb
    go_wp2_with fail
    refine (toStringS_any _ _ _ _ LP cP).mono ?_
    rintro e w6 ⟨g_zP, k_zP, rfl, o, hb⟩
    have ap_w0_zP := apart_base o_w0 o
    have ap_xP_zP := apart_base o_xP o
    have ap_g0_zP := apart_base o_g0 o
    replace cP := cP.below hb
    replace o_w0 := ownsRow_below o_w0 hb
    replace o_xP := ownsRow_below o_xP hb
    replace o_g0 := ownsRow_below o_g0 hb
    replace hB := below_step hB hB.size hb
    have o_zP := o; clear o
    clear hb
    go_wp2_with fail
    refine (eqStringS_any _ _ _ _ _ _ lP lP _ rfl rfl HLP.out (owns_cells o_xP) (owns_cells o_zP)).mono ?_
    rw [HXP.out]; rintro e w7 ⟨rfl, hq⟩
    have hb := quiet_below hq; clear hq
    replace cP := cP.below hb
    replace o_w0 := ownsRow_below o_w0 hb
    replace o_xP := ownsRow_below o_xP hb
    replace o_g0 := ownsRow_below o_g0 hb
    replace o_zP := ownsRow_below o_zP hb
    replace hB := below_step hB hB.size hb
    clear hb
    clear o_zP
    clear ap_g0_zP
    clear ap_w0_zP
    clear ap_xP_zP
    go_wp2_with fail
    refine (markStringS_any _ _ (1) _ lP _ (by omega) (by omega) (o_xP)).mono ?_
    rintro e w8 ⟨rfl, o, hg⟩
    have hB2 := below_mark hB o_xP (B := w.heap.size) hbase_xP hg hB.size
    replace cP := c0P.below hB2
    replace o_w0 := owns_kept o_w0 hg ap_w0_xP
    replace o_g0 := owns_kept o_g0 hg ap_xP_g0.symm
    replace o_xP := o; clear o
    replace hB := hB2; clear hB2 hg
    clear o_xP
    clear ap_w0_xP
    clear ap_xP_g0
    go_wp2_with fail
    refine (eqIntS_any _ _ _ _ _ _ T0 T0 _ rfl rfl HT0.out (owns_cells o_g0) (owns_cells o_w0)).mono ?_
    rw [HE0.out]; rintro e w9 ⟨rfl, hq⟩
    have hb := quiet_below hq; clear hq
    replace cP := cP.below hb
    replace o_w0 := ownsRow_below o_w0 hb
    replace o_g0 := ownsRow_below o_g0 hb
    replace hB := below_step hB hB.size hb
    clear hb
    go_wp2_with fail
    refine (markIntS_any _ _ (1) _ T0 _ (by omega) (by omega) (o_g0)).mono ?_
    rintro e w10 ⟨rfl, o, hg⟩
    have hB2 := below_mark hB o_g0 (B := w.heap.size) hbase_g0 hg hB.size
    replace cP := c0P.below hB2
    replace o_w0 := owns_kept o_w0 hg ap_w0_g0
    replace o_g0 := o; clear o
    replace hB := hB2; clear hB2 hg
    go_wp2_with fail
    refine (heldIntS_any _ _ (1) T0.length _ (by omega) (by omega) (owns_cells o_g0)).mono ?_
    rintro e w11 ⟨rfl, hb⟩
    replace cP := cP.below hb
    replace o_w0 := ownsRow_below o_w0 hb
    replace o_g0 := ownsRow_below o_g0 hb
    replace hB := below_step hB hB.size hb
    clear hb
    go_wp2_with fail
    refine (toStringS_any _ _ _ _ LP cP).mono ?_
    rintro e w12 ⟨g_yP, k_yP, rfl, o, hb⟩
    have ap_w0_yP := apart_base o_w0 o
    have ap_g0_yP := apart_base o_g0 o
    replace cP := cP.below hb
    replace o_w0 := ownsRow_below o_w0 hb
    replace o_g0 := ownsRow_below o_g0 hb
    replace hB := below_step hB hB.size hb
    have o_yP := o; clear o
    clear hb
    go_wp2_with fail
    refine (HI.out _ _ _ (owns_cells o_yP)).mono ?_
    rintro e w13 ⟨⟨hr0, hq0, rfl, oh0⟩, hb⟩
    have ap_w0_h0 := apart_base o_w0 oh0
    have ap_g0_h0 := apart_base o_g0 oh0
    have ap_yP_h0 := apart_base o_yP oh0
    replace cP := cP.below hb
    replace o_w0 := ownsRow_below o_w0 hb
    replace o_g0 := ownsRow_below o_g0 hb
    replace o_yP := ownsRow_below o_yP hb
    replace hB := below_step hB hB.size hb
    have o_h0 := oh0; clear oh0
    clear hb
    clear o_yP
    clear ap_w0_yP
    clear ap_yP_h0
    clear ap_g0_yP
    go_wp2_with fail
    refine (eqIntS_any _ _ _ _ _ _ T0 T0 _ rfl rfl HT0.out (owns_cells o_h0) (owns_cells o_w0)).mono ?_
    rw [HE0.out]; rintro e w14 ⟨rfl, hq⟩
    have hb := quiet_below hq; clear hq
    replace cP := cP.below hb
    replace o_w0 := ownsRow_below o_w0 hb
    replace o_g0 := ownsRow_below o_g0 hb
    replace o_h0 := ownsRow_below o_h0 hb
    replace hB := below_step hB hB.size hb
    clear hb
    go_wp2_with fail
    refine (heldIntS_any _ _ (1) T0.length _ (by omega) (by omega) (owns_cells o_g0)).mono ?_
    rintro e w15 ⟨rfl, hb⟩
    replace cP := cP.below hb
    replace o_w0 := ownsRow_below o_w0 hb
    replace o_g0 := ownsRow_below o_g0 hb
    replace o_h0 := ownsRow_below o_h0 hb
    replace hB := below_step hB hB.size hb
    clear hb
    go_wp2
    go_ret
    exact ⟨rfl, hB⟩


theorem nearFirst_all (aP : Option Addr) (kP : Nat) (lP : List ByteArray) (w : World) (mP : lP.length ≤ maxLen) (zP : ∀ s ∈ lP, s.size ≤ maxLen) (cP : CellsAt w aP (lP.map Value.string)) :
    Calls Try.prog 6 #[.slice aP lP.length kP] w fun e w' => e = .returned (.bool true) ∧ Below w.heap.size w w' :=
  nearFirst_law aP kP lP (firstL lP) (planB lP) w mP zP cP (firstL_few lP) (fun hl hs _ _ _ hc => specNearFirst_is _ _ _ _ hl hs hc) (fun hl hs _ _ _ hc => implNearFirst_any _ _ _ _ hl hs hc)

set_option maxRecDepth 100000 in
theorem nearFirst_lifted (os : Os) (started : os.Started) (H : Type) (enc : TypeId × Value → H) :
    ReturnsInHanded {} Try.checked os 6 .any (Rows.fnExactNearFirstSpec.pre6 enc Try.prog Try.f6 Rows.fnExactNearFirstRow.domain false) (Rows.fnExactNearFirstSpec.post enc Try.prog Try.f6 false true false false) := by
  refine returnsInHanded_of_change (C := Try.checked) Try.own started (by kernel_rfl) Try.func6
    (ChangeSpec.witness6 (enc := enc) (C := Try.checked) false ⟨#[], #[.slice none 0 0], []⟩ 8 (by kernel_rfl) (by kernel_rfl) (by kernel_rfl) (by kernel_rfl)) ?_
  intro W base args ds gs before hval0 hW _ _
  have hval : ∀ (j : Nat) t v, Try.f6.params[j]? = some t → args[j]? = some v → Value.okWide Try.prog W .any base t v := hval0
  have hW' := hW
  obtain ⟨p, q, hA0, hV, rfl, _, _⟩ := hW
  have hA : DataW.TrodAll enc Try.prog W 0 (fun _ => true) true Try.f6.params.toList args.toList ds p := hA0
  rw [Try.params6] at hA hval
  obtain ⟨v0, d0, rfl, rfl, h0⟩ := trodAll_one hA
  obtain ⟨rfl, rfl⟩ := trodVars_none hV
  obtain ⟨aP, eP, kP, rfl⟩ := okWide_slice Try.underlying22 (hval 0 22 v0 rfl rfl)
  clear hA0 hval0
  simp only [List.append_nil] at hW'
  have hlt0 : ∀ x ∈ p, x.block < W.heap.size := fun x hx => by simpa using hW'.lt x (by simp [hx])
  obtain ⟨lP, rfl, mP, zP, cP⟩ := open_texts h0
  refine (nearFirst_all aP kP lP W mP zP cP).mono fun e W' ⟨he, hb⟩ => ?_
  subst he
  refine ⟨_, rfl, _, _, _, [], _, [], hW', trodAll_mk1 (shut_bool Try.underlying4 _), trodAll_mk1 (Below.trod Try.laidOut (by kernel_rfl) (of_decide_eq_true (by kernel_rfl)) h0 hb hlt0), rfl, hb.frame _, fun h => by cases h⟩

theorem nearFirst_holds : Rows.FnExactNearFirstSaid :=
  OpenClaim.holds_of_wide 6 Try.f6 rfl rfl rfl rfl rfl rfl rfl ⟨rfl, rfl, rfl, rfl, rfl⟩ rfl rfl rfl rfl rfl (by kernel_rfl) Try.func6 (by kernel_rfl)
    (of_decide_eq_true (by kernel_rfl)) (by unfold Func.isWrapper; first | (rw [if_pos (by decide +kernel)]; kernel_rfl) | (rw [if_neg (by decide +kernel)]; exact ⟨rfl, rfl⟩))
    (fun os started H enc _ => nearFirst_lifted os started H enc)

end Go.Proofs.Ytgiikdcjigcnlaa
