
/-
  For every list of texts and every list of whole numbers the law FnExactSizeCut returns true, and both lists read behind the call as they read before. No condition.
-/
import Derived.Test.YthlbekookpcacaaGuiZ
import Derived.Test.YthlbekookpcacaaNumA
import Derived.Test.YthlbekookpcacaaArgs
import Derived.Test.YthlbekookpcacaaLaws
namespace Go.Proofs.Ythlbekookpcacaa
open Go.ChangeShapes Go.WideShapes Go.ChangeAt Go.RowKit

set_option maxHeartbeats 4000000 in
theorem sizeCut_law (aP : Option Addr) (kP : Nat) (lP : List ByteArray) (aN : Option Addr) (kN : Nat) (lN : List Int) (v0 : Int) (b1 : Bool) (w : World) (mP : lP.length ≤ maxLen) (zP : ∀ s ∈ lP, s.size ≤ maxLen) (cP : CellsAt w aP (lP.map Value.string)) (_mN : lN.length ≤ maxLen) (cN : CellsAt w aN (lN.map (Value.int .i64))) 
    (HS : lP.length ≤ 1048576 → (∀ s ∈ lP, s.size ≤ 1048576) → lN.length ≤ 1048576 → ∀ (aP : Option Addr) (kP : Nat) (aN : Option Addr) (kN : Nat) (W : World), CellsAt W aP (lP.map Value.string) → CellsAt W aN (lN.map (Value.int .i64)) → Calls Try.prog 30 #[.slice aP lP.length kP, .slice aN lN.length kN] W fun e w' => e = .returned (.tuple #[.int .i64 v0, .bool b1]) ∧ Below W.heap.size W w')
    (HI : lP.length ≤ 1048576 → (∀ s ∈ lP, s.size ≤ 1048576) → lN.length ≤ 1048576 → ∀ (aP : Option Addr) (kP : Nat) (aN : Option Addr) (kN : Nat) (W : World), CellsAt W aP (lP.map Value.string) → CellsAt W aN (lN.map (Value.int .i64)) → Calls Try.prog 31 #[.slice aP lP.length kP, .slice aN lN.length kN] W fun e w' => e = .returned (.tuple #[.int .i64 v0, .bool b1]) ∧ Below W.heap.size W w') :
    Calls Try.prog 9 #[.slice aP lP.length kP, .slice aN lN.length kN] w fun e w' => e = .returned (.bool true) ∧ Below w.heap.size w w' := by
  by_cases dN : lN.length ≤ 1048576
  · -- small
    have hdN : decide (1048576 < (lN.length : Int)) = false := by rw [decide_eq_false_iff_not]; omega
    obtain ⟨yP, hyP⟩ : ∃ y, szAll lP 1048576 = y := ⟨_, rfl⟩
    by_cases uP : yP < 0
    · have hd : decide (yP < 0) = true := decide_eq_true uP
      go_enter Try.func9, Try.ntmps9
      go_wp2_with fail
      refine (szStringS_any _ _ _ _ _ mP (by omega) (by omega) zP cP).mono ?_
      rw [hyP]; rintro e w1 ⟨rfl, rfl⟩
      go_wp2
      go_ret
      exact ⟨rfl, Below.refl _ _⟩
    · have hdP : decide (yP < 0) = false := decide_eq_false uP
      obtain ⟨leP, lnP, lsP⟩ := szAll_bound (l := lP) (n := 1048576) (by rw [hyP]; exact uP)
      rw [hyP] at leP
      have LP : lP.length ≤ 1048576 := by omega
      have SP : ∀ s ∈ lP, s.size ≤ 1048576 := fun s h => by have := lsP s h; omega
      have HS := Lib.hid (HS LP SP dN)
      have HI := Lib.hid (HI LP SP dN)
      clear lnP lsP
      have HLP := Lib.hid (show lP.length ≤ maxLen by unfold maxLen; omega)
      have HXP := Lib.hid (eqS_self lP)
      have HLN := Lib.hid (show lN.length ≤ maxLen by unfold maxLen; omega)
      have HXN := Lib.hid (eqI_self lN)
      have hB := Below.refl w.heap.size w
      go_enter Try.func9, Try.ntmps9
      go_wp2_with fail
      refine (szStringS_any _ _ _ _ _ mP (by omega) (by omega) zP cP).mono ?_
      rw [hyP]; rintro e w1 ⟨rfl, rfl⟩
      have c0P := cP
      have c0N := cN
      go_wp2_with fail
      refine (toStringS_any _ _ _ _ LP cP).mono ?_
      rintro e w1 ⟨g_yP, k_yP, rfl, o, hb⟩
      replace cP := cP.below hb
      replace cN := cN.below hb
      replace hB := below_step hB hB.size hb
      have o_yP := o; clear o
      clear hb
      go_wp2_with fail
      refine (toIntS_any _ _ _ _ dN cN).mono ?_
      rintro e w2 ⟨g_yN, k_yN, rfl, o, hb⟩
      have ap_yP_yN := apart_base o_yP o
      replace cP := cP.below hb
      replace cN := cN.below hb
      replace o_yP := ownsRow_below o_yP hb
      replace hB := below_step hB hB.size hb
      have o_yN := o; clear o
      clear hb
      go_wp2_with fail
      refine (HS.out _ _ _ _ _ (owns_cells o_yP) (owns_cells o_yN)).mono ?_
      rintro e w3 ⟨rfl, hb⟩
      replace cP := cP.below hb
      replace cN := cN.below hb
      replace o_yP := ownsRow_below o_yP hb
      replace o_yN := ownsRow_below o_yN hb
      replace hB := below_step hB hB.size hb
      clear hb
      clear o_yP
      clear ap_yP_yN
      clear o_yN
      have hbase_xP := hB.size
      go_wp2_with fail
      refine (toStringS_any _ _ _ _ LP cP).mono ?_
      rintro e w4 ⟨g_xP, k_xP, rfl, o, hb⟩
      replace cP := cP.below hb
      replace cN := cN.below hb
      replace hB := below_step hB hB.size hb
      have o_xP := o; clear o
      clear hb
      have hbase_xN := hB.size
      go_wp2_with fail
      refine (toIntS_any _ _ _ _ dN cN).mono ?_
      rintro e w5 ⟨g_xN, k_xN, rfl, o, hb⟩
      have ap_xP_xN := apart_base o_xP o
      replace cP := cP.below hb
      replace cN := cN.below hb
      replace o_xP := ownsRow_below o_xP hb
      replace hB := below_step hB hB.size hb
      have o_xN := o; clear o
      clear hb
      go_wp2_with fail
      refine (HI.out _ _ _ _ _ (owns_cells o_xP) (owns_cells o_xN)).mono ?_
      rintro e w6 ⟨rfl, hb⟩
      replace cP := cP.below hb
      replace cN := cN.below hb
      replace o_xP := ownsRow_below o_xP hb
      replace o_xN := ownsRow_below o_xN hb
      replace hB := below_step hB hB.size hb
      clear hb
      go_wp2_with fail
      refine (toStringS_any _ _ _ _ LP cP).mono ?_
      rintro e w7 ⟨g_zP, k_zP, rfl, o, hb⟩
      have ap_xP_zP := apart_base o_xP o
      have ap_xN_zP := apart_base o_xN o
      replace cP := cP.below hb
      replace cN := cN.below hb
      replace o_xP := ownsRow_below o_xP hb
      replace o_xN := ownsRow_below o_xN hb
      replace hB := below_step hB hB.size hb
      have o_zP := o; clear o
      clear hb
      go_wp2_with fail
      refine (eqStringS_any _ _ _ _ _ _ lP lP _ rfl rfl HLP.out (owns_cells o_xP) (owns_cells o_zP)).mono ?_
      rw [HXP.out]; rintro e w8 ⟨rfl, hq⟩
      have hb := quiet_below hq; clear hq
      replace cP := cP.below hb
      replace cN := cN.below hb
      replace o_xP := ownsRow_below o_xP hb
      replace o_xN := ownsRow_below o_xN hb
      replace o_zP := ownsRow_below o_zP hb
      replace hB := below_step hB hB.size hb
      clear hb
      clear o_zP
      clear ap_xN_zP
      clear ap_xP_zP
      go_wp2_with fail
      refine (toIntS_any _ _ _ _ dN cN).mono ?_
      rintro e w9 ⟨g_zN, k_zN, rfl, o, hb⟩
      have ap_xP_zN := apart_base o_xP o
      have ap_xN_zN := apart_base o_xN o
      replace cP := cP.below hb
      replace cN := cN.below hb
      replace o_xP := ownsRow_below o_xP hb
      replace o_xN := ownsRow_below o_xN hb
      replace hB := below_step hB hB.size hb
      have o_zN := o; clear o
      clear hb
      go_wp2_with fail
      refine (eqIntS_any _ _ _ _ _ _ lN lN _ rfl rfl HLN.out (owns_cells o_xN) (owns_cells o_zN)).mono ?_
      rw [HXN.out]; rintro e w10 ⟨rfl, hq⟩
      have hb := quiet_below hq; clear hq
      replace cP := cP.below hb
      replace cN := cN.below hb
      replace o_xP := ownsRow_below o_xP hb
      replace o_xN := ownsRow_below o_xN hb
      replace o_zN := ownsRow_below o_zN hb
      replace hB := below_step hB hB.size hb
      clear hb
      clear o_zN
      clear ap_xN_zN
      clear ap_xP_zN
      go_wp2
      go_ret
      exact ⟨rfl, hB⟩
  · have hdN : decide (1048576 < (lN.length : Int)) = true := by rw [decide_eq_true_eq]; omega
    go_enter Try.func9, Try.ntmps9
    go_wp2
    go_ret
    exact ⟨rfl, Below.refl _ _⟩


theorem sizeCut_all (aP : Option Addr) (kP : Nat) (lP : List ByteArray) (aN : Option Addr) (kN : Nat) (lN : List Int) (w : World) (mP : lP.length ≤ maxLen) (zP : ∀ s ∈ lP, s.size ≤ maxLen) (cP : CellsAt w aP (lP.map Value.string)) (_mN : lN.length ≤ maxLen) (cN : CellsAt w aN (lN.map (Value.int .i64))) :
    Calls Try.prog 9 #[.slice aP lP.length kP, .slice aN lN.length kN] w fun e w' => e = .returned (.bool true) ∧ Below w.heap.size w w' :=
  sizeCut_law aP kP lP aN kN lN (((cutV lP lN : Nat) : Int)) ((sizedB lP lN && (treeP lP).isSome)) w mP zP cP _mN cN (fun hl hs hn _ _ _ _ _ hc hd => specSizeCut_any _ _ _ _ _ _ _ hl hs hn hc hd) (fun hl hs hn _ _ _ _ _ hc hd => implSizeCut_any _ _ _ _ _ _ _ hl hs hn hc hd)

set_option maxRecDepth 100000 in
theorem sizeCut_lifted (os : Os) (started : os.Started) (H : Type) (enc : TypeId × Value → H) :
    ReturnsInHanded {} Try.checked os 9 .any (Rows.fnExactSizeCutSpec.pre6 enc Try.prog Try.f9 Rows.fnExactSizeCutRow.domain false) (Rows.fnExactSizeCutSpec.post enc Try.prog Try.f9 false true false false) := by
  refine returnsInHanded_of_change (C := Try.checked) Try.own started (by kernel_rfl) Try.func9
    (ChangeSpec.witness6 (enc := enc) (C := Try.checked) false ⟨#[], #[.slice none 0 0, .slice none 0 0], []⟩ 8 (by kernel_rfl) (by kernel_rfl) (by kernel_rfl) (by kernel_rfl)) ?_
  intro W base args ds gs before hval0 hW _ _
  have hval : ∀ (j : Nat) t v, Try.f9.params[j]? = some t → args[j]? = some v → Value.okWide Try.prog W .any base t v := hval0
  have hW' := hW
  obtain ⟨p, q, hA0, hV, rfl, _, _⟩ := hW
  have hA : DataW.TrodAll enc Try.prog W 0 (fun _ => true) true Try.f9.params.toList args.toList ds p := hA0
  rw [Try.params9] at hA hval
  obtain ⟨v0, v1, d0, d1, p0, p1, rfl, rfl, rfl, h0, h1⟩ := trodAll_two hA
  obtain ⟨rfl, rfl⟩ := trodVars_none hV
  obtain ⟨aP, eP, kP, rfl⟩ := okWide_slice Try.underlying22 (hval 0 22 v0 rfl rfl)
  obtain ⟨aN, eN, kN, rfl⟩ := okWide_slice Try.underlying31 (hval 1 31 v1 rfl rfl)
  clear hA0 hval0
  simp only [List.append_nil] at hW'
  have hlt0 : ∀ x ∈ p0, x.block < W.heap.size := fun x hx => by simpa using hW'.lt x (by simp [hx])
  have hlt1 : ∀ x ∈ p1, x.block < W.heap.size := fun x hx => by simpa using hW'.lt x (by simp [hx])
  obtain ⟨lP, rfl, mP, zP, cP⟩ := open_texts h0
  obtain ⟨lN, rfl, mN, cN⟩ := open_numbers h1
  refine (sizeCut_all aP kP lP aN kN lN W mP zP cP mN cN).mono fun e W' ⟨he, hb⟩ => ?_
  subst he
  refine ⟨_, rfl, _, _, _, [], _, [], hW', trodAll_mk1 (shut_bool Try.underlying4 _), trodAll_mk2 (Below.trod Try.laidOut (by kernel_rfl) (of_decide_eq_true (by kernel_rfl)) h0 hb hlt0) (Below.trod Try.laidOut (by kernel_rfl) (of_decide_eq_true (by kernel_rfl)) h1 hb hlt1), rfl, hb.frame _, fun h => by cases h⟩

theorem sizeCut_holds : Rows.FnExactSizeCutSaid :=
  OpenClaim.holds_of_wide 9 Try.f9 rfl rfl rfl rfl rfl rfl rfl ⟨rfl, rfl, rfl, rfl, rfl⟩ rfl rfl rfl rfl rfl (by kernel_rfl) Try.func9 (by kernel_rfl)
    (of_decide_eq_true (by kernel_rfl)) (by unfold Func.isWrapper; first | (rw [if_pos (by decide +kernel)]; kernel_rfl) | (rw [if_neg (by decide +kernel)]; exact ⟨rfl, rfl⟩))
    (fun os started H enc _ => sizeCut_lifted os started H enc)

end Go.Proofs.Ythlbekookpcacaa
