
/-
  For every list of texts the law FnExactOrderSlide returns true, and the list reads behind the call as it read before. No condition.
-/
import Derived.Test.YtlgbefmgpmdolaaSld
import Derived.Test.YtlgbefmgpmdolaaArgs
import Derived.Test.YtlgbefmgpmdolaaLaws
namespace Go.Proofs.Ytlgbefmgpmdolaa
open Go.ChangeShapes Go.WideShapes Go.ChangeAt Go.RowKit

set_option maxHeartbeats 4000000 in
theorem orderSlide_law (aP : Option Addr) (kP : Nat) (lP : List ByteArray) (v0 : Int) (b1 : Bool) (w : World) (mP : lP.length ≤ maxLen) (zP : ∀ s ∈ lP, s.size ≤ maxLen) (cP : CellsAt w aP (lP.map Value.string)) 
    (HS : lP.length ≤ 1048576 → (∀ s ∈ lP, s.size ≤ 1048576) → ∀ (aP : Option Addr) (kP : Nat) (W : World), CellsAt W aP (lP.map Value.string) → Calls Try.prog 27 #[.slice aP lP.length kP] W fun e w' => e = .returned (.tuple #[.int .i64 v0, .bool b1]) ∧ Below W.heap.size W w')
    (HI : lP.length ≤ 1048576 → (∀ s ∈ lP, s.size ≤ 1048576) → ∀ (aP : Option Addr) (kP : Nat) (W : World), CellsAt W aP (lP.map Value.string) → Calls Try.prog 29 #[.slice aP lP.length kP] W fun e w' => e = .returned (.tuple #[.int .i64 v0, .bool b1]) ∧ Below W.heap.size W w') :
    Calls Try.prog 8 #[.slice aP lP.length kP] w fun e w' => e = .returned (.bool true) ∧ Below w.heap.size w w' := by
  obtain ⟨yP, hyP⟩ : ∃ y, szAll lP 1048576 = y := ⟨_, rfl⟩
  by_cases uP : yP < 0
  · have hd : decide (yP < 0) = true := decide_eq_true uP
    go_enter Try.func8, Try.ntmps8
    go_wp2_with fail
    refine (szStringS_any _ _ _ _ _ mP (by omega) (by omega) zP cP).mono ?_
    rw [hyP]; rintro e w1 ⟨rfl, rfl⟩
    go_wp2
    go_ret
    exact ⟨rfl, Below.refl _ _⟩
  · have hdP : decide (yP < 0) = false := decide_eq_false uP
    obtain ⟨leP, lnP, lsP⟩ := szAll_bound (l := lP) (n := 1048576) (by rw [hyP]; exact uP)
    rw [hyP] at leP
    have LP : lP.length ≤ 1048576 := by omega
    have SP : ∀ s ∈ lP, s.size ≤ 1048576 := fun s h => by have := lsP s h; omega
    have HS := Lib.hid (HS LP SP)
    have HI := Lib.hid (HI LP SP)
    clear lnP lsP
    have HLP := Lib.hid (show lP.length ≤ maxLen by unfold maxLen; omega)
    have HXP := Lib.hid (eqS_self lP)
    have hB := Below.refl w.heap.size w
    go_enter Try.func8, Try.ntmps8
    go_wp2_with fail
    refine (szStringS_any _ _ _ _ _ mP (by omega) (by omega) zP cP).mono ?_
    rw [hyP]; rintro e w1 ⟨rfl, rfl⟩
    have c0P := cP
    go_wp2_with fail
    refine (toStringS_any _ _ _ _ LP cP).mono ?_
    rintro e w1 ⟨g_yP, k_yP, rfl, o, hb⟩
    replace cP := cP.below hb
    replace hB := below_step hB hB.size hb
    have o_yP := o; clear o
    clear hb
    go_wp2_with fail
    refine (HS.out _ _ _ (owns_cells o_yP)).mono ?_
    rintro e w2 ⟨rfl, hb⟩
    replace cP := cP.below hb
    replace o_yP := ownsRow_below o_yP hb
    replace hB := below_step hB hB.size hb
    clear hb
    clear o_yP
    have hbase_xP := hB.size
    go_wp2_with fail
    refine (toStringS_any _ _ _ _ LP cP).mono ?_
    rintro e w3 ⟨g_xP, k_xP, rfl, o, hb⟩
    replace cP := cP.below hb
    replace hB := below_step hB hB.size hb
    have o_xP := o; clear o
    clear hb
    go_wp2_with fail
    refine (HI.out _ _ _ (owns_cells o_xP)).mono ?_
    rintro e w4 ⟨rfl, hb⟩
    replace cP := cP.below hb
    replace o_xP := ownsRow_below o_xP hb
    replace hB := below_step hB hB.size hb
    clear hb
    go_wp2_with fail
    refine (toStringS_any _ _ _ _ LP cP).mono ?_
    rintro e w5 ⟨g_zP, k_zP, rfl, o, hb⟩
    have ap_xP_zP := apart_base o_xP o
    replace cP := cP.below hb
    replace o_xP := ownsRow_below o_xP hb
    replace hB := below_step hB hB.size hb
    have o_zP := o; clear o
    clear hb
    go_wp2_with fail
    refine (eqStringS_any _ _ _ _ _ _ lP lP _ rfl rfl HLP.out (owns_cells o_xP) (owns_cells o_zP)).mono ?_
    rw [HXP.out]; rintro e w6 ⟨rfl, hq⟩
    have hb := quiet_below hq; clear hq
    replace cP := cP.below hb
    replace o_xP := ownsRow_below o_xP hb
    replace o_zP := ownsRow_below o_zP hb
    replace hB := below_step hB hB.size hb
    clear hb
    clear o_zP
    clear ap_xP_zP
    go_wp2
    go_ret
    exact ⟨rfl, hB⟩


theorem orderSlide_all (aP : Option Addr) (kP : Nat) (lP : List ByteArray) (w : World) (mP : lP.length ≤ maxLen) (zP : ∀ s ∈ lP, s.size ≤ maxLen) (cP : CellsAt w aP (lP.map Value.string)) :
    Calls Try.prog 8 #[.slice aP lP.length kP] w fun e w' => e = .returned (.bool true) ∧ Below w.heap.size w w' :=
  orderSlide_law aP kP lP (((slideN lP : Nat) : Int)) (slideOk lP) w mP zP cP (fun hl hs _ _ _ hc => specSlide_any _ _ _ _ hl hs hc) (fun hl hs _ _ _ hc => implSlide_any _ _ _ _ hl hs hc)

set_option maxRecDepth 100000 in
theorem orderSlide_lifted (os : Os) (started : os.Started) (H : Type) (enc : TypeId × Value → H) :
    ReturnsInHanded {} Try.checked os 8 .any (Rows.fnExactOrderSlideSpec.pre6 enc Try.prog Try.f8 Rows.fnExactOrderSlideRow.domain false) (Rows.fnExactOrderSlideSpec.post enc Try.prog Try.f8 false true false false) := by
  refine returnsInHanded_of_change (C := Try.checked) Try.own started (by kernel_rfl) Try.func8
    (ChangeSpec.witness6 (enc := enc) (C := Try.checked) false ⟨#[], #[.slice none 0 0], []⟩ 8 (by kernel_rfl) (by kernel_rfl) (by kernel_rfl) (by kernel_rfl)) ?_
  intro W base args ds gs before hval0 hW _ _
  have hval : ∀ (j : Nat) t v, Try.f8.params[j]? = some t → args[j]? = some v → Value.okWide Try.prog W .any base t v := hval0
  have hW' := hW
  obtain ⟨p, q, hA0, hV, rfl, _, _⟩ := hW
  have hA : DataW.TrodAll enc Try.prog W 0 (fun _ => true) true Try.f8.params.toList args.toList ds p := hA0
  rw [Try.params8] at hA hval
  obtain ⟨v0, d0, rfl, rfl, h0⟩ := trodAll_one hA
  obtain ⟨rfl, rfl⟩ := trodVars_none hV
  obtain ⟨aP, eP, kP, rfl⟩ := okWide_slice Try.underlying31 (hval 0 31 v0 rfl rfl)
  clear hA0 hval0
  simp only [List.append_nil] at hW'
  have hlt0 : ∀ x ∈ p, x.block < W.heap.size := fun x hx => by simpa using hW'.lt x (by simp [hx])
  obtain ⟨lP, rfl, mP, zP, cP⟩ := open_texts h0
  refine (orderSlide_all aP kP lP W mP zP cP).mono fun e W' ⟨he, hb⟩ => ?_
  subst he
  refine ⟨_, rfl, _, _, _, [], _, [], hW', trodAll_mk1 (shut_bool Try.underlying4 _), trodAll_mk1 (Below.trod Try.laidOut (by kernel_rfl) (of_decide_eq_true (by kernel_rfl)) h0 hb hlt0), rfl, hb.frame _, fun h => by cases h⟩

theorem orderSlide_holds : Rows.FnExactOrderSlideSaid :=
  OpenClaim.holds_of_wide 8 Try.f8 rfl rfl rfl rfl rfl rfl rfl ⟨rfl, rfl, rfl, rfl, rfl⟩ rfl rfl rfl rfl rfl (by kernel_rfl) Try.func8 (by kernel_rfl)
    (of_decide_eq_true (by kernel_rfl)) (by unfold Func.isWrapper; first | (rw [if_pos (by decide +kernel)]; kernel_rfl) | (rw [if_neg (by decide +kernel)]; exact ⟨rfl, rfl⟩))
    (fun os started H enc _ => orderSlide_lifted os started H enc)

end Go.Proofs.Ytlgbefmgpmdolaa
