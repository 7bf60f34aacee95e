
/-
  For every two lists of texts the law FnExactOrderSame returns true, and the lists read behind the call as they read before. No condition.
-/
import Derived.Test.YteallnkaapdifaaOrdEF
import Derived.Test.YteallnkaapdifaaArgs
import Derived.Test.YteallnkaapdifaaLaws
namespace Go.Proofs.Yteallnkaapdifaa
open Go.ChangeShapes Go.WideShapes Go.ChangeAt Go.RowKit

set_option maxHeartbeats 4000000 in
theorem orderSame_law (aP : Option Addr) (kP : Nat) (lP : List ByteArray) (aQ : Option Addr) (kQ : Nat) (lQ : List ByteArray) (b0 : Bool) (w : World) (mP : lP.length ≤ maxLen) (zP : ∀ s ∈ lP, s.size ≤ maxLen) (cP : CellsAt w aP (lP.map Value.string)) (mQ : lQ.length ≤ maxLen) (zQ : ∀ s ∈ lQ, s.size ≤ maxLen) (cQ : CellsAt w aQ (lQ.map Value.string)) 
    (HS : lP.length ≤ 1048576 → (∀ s ∈ lP, s.size ≤ 1048576) → lQ.length ≤ 1048576 → (∀ s ∈ lQ, s.size ≤ 1048576) → ∀ (aP : Option Addr) (kP : Nat) (aQ : Option Addr) (kQ : Nat) (W : World), CellsAt W aP (lP.map Value.string) → CellsAt W aQ (lQ.map Value.string) → Calls Try.prog 30 #[.slice aP lP.length kP, .slice aQ lQ.length kQ] W fun e w' => e = .returned (.bool b0) ∧ Below W.heap.size W w')
    (HI : lP.length ≤ 1048576 → (∀ s ∈ lP, s.size ≤ 1048576) → lQ.length ≤ 1048576 → (∀ s ∈ lQ, s.size ≤ 1048576) → ∀ (aP : Option Addr) (kP : Nat) (aQ : Option Addr) (kQ : Nat) (W : World), CellsAt W aP (lP.map Value.string) → CellsAt W aQ (lQ.map Value.string) → Calls Try.prog 31 #[.slice aP lP.length kP, .slice aQ lQ.length kQ] W fun e w' => e = .returned (.bool b0) ∧ Below W.heap.size W w') :
    Calls Try.prog 9 #[.slice aP lP.length kP, .slice aQ lQ.length kQ] w fun e w' => e = .returned (.bool true) ∧ Below w.heap.size w w' := by
  obtain ⟨yP, hyP⟩ : ∃ y, szAll lP 1048576 = y := ⟨_, rfl⟩
  by_cases uP : yP < 0
  · have hd : decide (yP < 0) = true := decide_eq_true uP
    go_enter Try.func9, Try.ntmps9
    go_wp2_with fail
    refine (szStringS_any _ _ _ _ _ mP (by omega) (by omega) zP cP).mono ?_
    rw [hyP]; rintro e w1 ⟨rfl, rfl⟩
    go_wp2
    go_ret
    exact ⟨rfl, Below.refl _ _⟩
  · have hdP : decide (yP < 0) = false := decide_eq_false uP
    obtain ⟨leP, lnP, lsP⟩ := szAll_bound (l := lP) (n := 1048576) (by rw [hyP]; exact uP)
    rw [hyP] at leP
    have LP : lP.length ≤ 1048576 := by omega
    have SP : ∀ s ∈ lP, s.size ≤ 1048576 := fun s h => by have := lsP s h; omega
    obtain ⟨yQ, hyQ⟩ : ∃ y, szAll lQ yP = y := ⟨_, rfl⟩
    by_cases uQ : yQ < 0
    · have hd : decide (yQ < 0) = true := decide_eq_true uQ
      go_enter Try.func9, Try.ntmps9
      go_wp2_with fail
      refine (szStringS_any _ _ _ _ _ mP (by omega) (by omega) zP cP).mono ?_
      rw [hyP]; rintro e w1 ⟨rfl, rfl⟩
      go_wp2_with fail
      refine (szStringS_any _ _ _ _ _ mQ (by omega) (by omega) zQ cQ).mono ?_
      rw [hyQ]; rintro e w1 ⟨rfl, rfl⟩
      go_wp2
      go_ret
      exact ⟨rfl, Below.refl _ _⟩
    · have hdQ : decide (yQ < 0) = false := decide_eq_false uQ
      obtain ⟨leQ, lnQ, lsQ⟩ := szAll_bound (l := lQ) (n := yP) (by rw [hyQ]; exact uQ)
      rw [hyQ] at leQ
      have LQ : lQ.length ≤ 1048576 := by omega
      have SQ : ∀ s ∈ lQ, s.size ≤ 1048576 := fun s h => by have := lsQ s h; omega
      have HS := Lib.hid (HS LP SP LQ SQ)
      have HI := Lib.hid (HI LP SP LQ SQ)
      clear lnP lsP
      clear lnQ lsQ
      have HLP := Lib.hid (show lP.length ≤ maxLen by unfold maxLen; omega)
      have HXP := Lib.hid (eqS_self lP)
      have HLQ := Lib.hid (show lQ.length ≤ maxLen by unfold maxLen; omega)
      have HXQ := Lib.hid (eqS_self lQ)
      have hB := Below.refl w.heap.size w
      go_enter Try.func9, Try.ntmps9
      go_wp2_with fail
      refine (szStringS_any _ _ _ _ _ mP (by omega) (by omega) zP cP).mono ?_
      rw [hyP]; rintro e w1 ⟨rfl, rfl⟩
      go_wp2_with fail
      refine (szStringS_any _ _ _ _ _ mQ (by omega) (by omega) zQ cQ).mono ?_
      rw [hyQ]; rintro e w1 ⟨rfl, rfl⟩
      have c0P := cP
      have c0Q := cQ
      go_wp2_with fail
      refine (toStringS_any _ _ _ _ LP cP).mono ?_
      rintro e w1 ⟨g_yP, k_yP, rfl, o, hb⟩
      replace cP := cP.below hb
      replace cQ := cQ.below hb
      replace hB := below_step hB hB.size hb
      have o_yP := o; clear o
      clear hb
      go_wp2_with fail
      refine (toStringS_any _ _ _ _ LQ cQ).mono ?_
      rintro e w2 ⟨g_yQ, k_yQ, rfl, o, hb⟩
      have ap_yP_yQ := apart_base o_yP o
      replace cP := cP.below hb
      replace cQ := cQ.below hb
      replace o_yP := ownsRow_below o_yP hb
      replace hB := below_step hB hB.size hb
      have o_yQ := o; clear o
      clear hb
      go_wp2_with fail
      refine (HS.out _ _ _ _ _ (owns_cells o_yP) (owns_cells o_yQ)).mono ?_
      rintro e w3 ⟨rfl, hb⟩
      replace cP := cP.below hb
      replace cQ := cQ.below hb
      replace o_yP := ownsRow_below o_yP hb
      replace o_yQ := ownsRow_below o_yQ hb
      replace hB := below_step hB hB.size hb
      clear hb
      clear o_yP
      clear ap_yP_yQ
      clear o_yQ
      have hbase_xP := hB.size
      go_wp2_with fail
      refine (toStringS_any _ _ _ _ LP cP).mono ?_
      rintro e w4 ⟨g_xP, k_xP, rfl, o, hb⟩
      replace cP := cP.below hb
      replace cQ := cQ.below hb
      replace hB := below_step hB hB.size hb
      have o_xP := o; clear o
      clear hb
      have hbase_xQ := hB.size
      go_wp2_with fail
      refine (toStringS_any _ _ _ _ LQ cQ).mono ?_
      rintro e w5 ⟨g_xQ, k_xQ, rfl, o, hb⟩
      have ap_xP_xQ := apart_base o_xP o
      replace cP := cP.below hb
      replace cQ := cQ.below hb
      replace o_xP := ownsRow_below o_xP hb
      replace hB := below_step hB hB.size hb
      have o_xQ := o; clear o
      clear hb
      go_wp2_with fail
      refine (HI.out _ _ _ _ _ (owns_cells o_xP) (owns_cells o_xQ)).mono ?_
      rintro e w6 ⟨rfl, hb⟩
      replace cP := cP.below hb
      replace cQ := cQ.below hb
      replace o_xP := ownsRow_below o_xP hb
      replace o_xQ := ownsRow_below o_xQ hb
      replace hB := below_step hB hB.size hb
      clear hb
      go_wp2_with fail
      refine (toStringS_any _ _ _ _ LP cP).mono ?_
      rintro e w7 ⟨g_zP, k_zP, rfl, o, hb⟩
      have ap_xP_zP := apart_base o_xP o
      have ap_xQ_zP := apart_base o_xQ o
      replace cP := cP.below hb
      replace cQ := cQ.below hb
      replace o_xP := ownsRow_below o_xP hb
      replace o_xQ := ownsRow_below o_xQ hb
      replace hB := below_step hB hB.size hb
      have o_zP := o; clear o
      clear hb
      go_wp2_with fail
      refine (eqStringS_any _ _ _ _ _ _ lP lP _ rfl rfl HLP.out (owns_cells o_xP) (owns_cells o_zP)).mono ?_
      rw [HXP.out]; rintro e w8 ⟨rfl, hq⟩
      have hb := quiet_below hq; clear hq
      replace cP := cP.below hb
      replace cQ := cQ.below hb
      replace o_xP := ownsRow_below o_xP hb
      replace o_xQ := ownsRow_below o_xQ hb
      replace o_zP := ownsRow_below o_zP hb
      replace hB := below_step hB hB.size hb
      clear hb
      clear o_zP
      clear ap_xQ_zP
      clear ap_xP_zP
      go_wp2_with fail
      refine (toStringS_any _ _ _ _ LQ cQ).mono ?_
      rintro e w9 ⟨g_zQ, k_zQ, rfl, o, hb⟩
      have ap_xP_zQ := apart_base o_xP o
      have ap_xQ_zQ := apart_base o_xQ o
      replace cP := cP.below hb
      replace cQ := cQ.below hb
      replace o_xP := ownsRow_below o_xP hb
      replace o_xQ := ownsRow_below o_xQ hb
      replace hB := below_step hB hB.size hb
      have o_zQ := o; clear o
      clear hb
      go_wp2_with fail
      refine (eqStringS_any _ _ _ _ _ _ lQ lQ _ rfl rfl HLQ.out (owns_cells o_xQ) (owns_cells o_zQ)).mono ?_
      rw [HXQ.out]; rintro e w10 ⟨rfl, hq⟩
      have hb := quiet_below hq; clear hq
      replace cP := cP.below hb
      replace cQ := cQ.below hb
      replace o_xP := ownsRow_below o_xP hb
      replace o_xQ := ownsRow_below o_xQ hb
      replace o_zQ := ownsRow_below o_zQ hb
      replace hB := below_step hB hB.size hb
      clear hb
      clear o_zQ
      clear ap_xP_zQ
      clear ap_xQ_zQ
      go_wp2
      go_ret
      exact ⟨rfl, hB⟩


theorem orderSame_all (aP : Option Addr) (kP : Nat) (lP : List ByteArray) (aQ : Option Addr) (kQ : Nat) (lQ : List ByteArray) (w : World) (mP : lP.length ≤ maxLen) (zP : ∀ s ∈ lP, s.size ≤ maxLen) (cP : CellsAt w aP (lP.map Value.string)) (mQ : lQ.length ≤ maxLen) (zQ : ∀ s ∈ lQ, s.size ≤ maxLen) (cQ : CellsAt w aQ (lQ.map Value.string)) :
    Calls Try.prog 9 #[.slice aP lP.length kP, .slice aQ lQ.length kQ] w fun e w' => e = .returned (.bool true) ∧ Below w.heap.size w w' :=
  orderSame_law aP kP lP aQ kQ lQ (ordSame lP lQ) w mP zP cP mQ zQ cQ (fun hl hs hl2 hs2 _ _ _ _ _ hc hc2 => specOrderSame_any _ _ _ _ _ _ _ hl hs hc hl2 hs2 hc2) (fun hl hs hl2 hs2 _ _ _ _ _ hc hc2 => implOrderSame_any _ _ _ _ _ _ _ hl hs hc hl2 hs2 hc2)

set_option maxRecDepth 100000 in
theorem orderSame_lifted (os : Os) (started : os.Started) (H : Type) (enc : TypeId × Value → H) :
    ReturnsInHanded {} Try.checked os 9 .any (Rows.fnExactOrderSameSpec.pre6 enc Try.prog Try.f9 Rows.fnExactOrderSameRow.domain false) (Rows.fnExactOrderSameSpec.post enc Try.prog Try.f9 false true false false) := by
  refine returnsInHanded_of_change (C := Try.checked) Try.own started (by kernel_rfl) Try.func9
    (ChangeSpec.witness6 (enc := enc) (C := Try.checked) false ⟨#[], #[.slice none 0 0, .slice none 0 0], []⟩ 8 (by kernel_rfl) (by kernel_rfl) (by kernel_rfl) (by kernel_rfl)) ?_
  intro W base args ds gs before hval0 hW _ _
  have hval : ∀ (j : Nat) t v, Try.f9.params[j]? = some t → args[j]? = some v → Value.okWide Try.prog W .any base t v := hval0
  have hW' := hW
  obtain ⟨p, q, hA0, hV, rfl, _, _⟩ := hW
  have hA : DataW.TrodAll enc Try.prog W 0 (fun _ => true) true Try.f9.params.toList args.toList ds p := hA0
  rw [Try.params9] at hA hval
  obtain ⟨v0, v1, d0, d1, p0, p1, rfl, rfl, rfl, h0, h1⟩ := trodAll_two hA
  obtain ⟨rfl, rfl⟩ := trodVars_none hV
  obtain ⟨aP, eP, kP, rfl⟩ := okWide_slice Try.underlying22 (hval 0 22 v0 rfl rfl)
  obtain ⟨aQ, eQ, kQ, rfl⟩ := okWide_slice Try.underlying22 (hval 1 22 v1 rfl rfl)
  clear hA0 hval0
  simp only [List.append_nil] at hW'
  have hlt0 : ∀ x ∈ p0, x.block < W.heap.size := fun x hx => by simpa using hW'.lt x (by simp [hx])
  have hlt1 : ∀ x ∈ p1, x.block < W.heap.size := fun x hx => by simpa using hW'.lt x (by simp [hx])
  obtain ⟨lP, rfl, mP, zP, cP⟩ := open_texts h0
  obtain ⟨lQ, rfl, mQ, zQ, cQ⟩ := open_texts h1
  refine (orderSame_all aP kP lP aQ kQ lQ W mP zP cP mQ zQ cQ).mono fun e W' ⟨he, hb⟩ => ?_
  subst he
  refine ⟨_, rfl, _, _, _, [], _, [], hW', trodAll_mk1 (shut_bool Try.underlying4 _), trodAll_mk2 (Below.trod Try.laidOut (by kernel_rfl) (of_decide_eq_true (by kernel_rfl)) h0 hb hlt0) (Below.trod Try.laidOut (by kernel_rfl) (of_decide_eq_true (by kernel_rfl)) h1 hb hlt1), rfl, hb.frame _, fun h => by cases h⟩

theorem orderSame_holds : Rows.FnExactOrderSameSaid :=
  OpenClaim.holds_of_wide 9 Try.f9 rfl rfl rfl rfl rfl rfl rfl ⟨rfl, rfl, rfl, rfl, rfl⟩ rfl rfl rfl rfl rfl (by kernel_rfl) Try.func9 (by kernel_rfl)
    (of_decide_eq_true (by kernel_rfl)) (by unfold Func.isWrapper; first | (rw [if_pos (by decide +kernel)]; kernel_rfl) | (rw [if_neg (by decide +kernel)]; exact ⟨rfl, rfl⟩))
    (fun os started H enc _ => orderSame_lifted os started H enc)

end Go.Proofs.Yteallnkaapdifaa
