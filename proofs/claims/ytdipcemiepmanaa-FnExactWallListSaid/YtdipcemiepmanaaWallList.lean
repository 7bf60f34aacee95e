/-
  For every list of texts the law FnExactWallList returns true, and the list reads behind the call as it read before. No condition.
-/
import Derived.Test.YtdipcemiepmanaaListA
import Derived.Test.YtdipcemiepmanaaArgs
import Derived.Test.YtdipcemiepmanaaLawN
namespace Go.Proofs.Ytdipcemiepmanaa
open Go.ChangeShapes Go.WideShapes Go.ChangeAt Go.RowKit

theorem RowsAt.kept {w w' : World} {base : Nat} {ao : Option Addr} {cap : Nat} {L : List (List Int)} {us : List Value} (h : RowsAt w base ao cap L us) {bo : Option Addr} {m c : Nat} (hg : w.grownBy w' (Value.ownBlock (.slice bo m c))) (hb : ∀ a, bo = some a → a.block < base) : RowsAt w' base ao cap L us := by
  have key : ∀ (e : TypeId) (v : Value) (n : Nat) (xs : List Value), w.ownsRow base e 1 v n xs → w'.ownsRow base e 1 v n xs := fun e v n xs ho => by
    obtain ⟨ao2, c2, rfl⟩ := ownsRow_shape ho
    exact owns_kept ho hg (fun a b ha hb' => by have := (owns_lt ho a ha).1; have := hb b hb'; omega)
  exact ⟨key _ _ _ _ h.1, fun i l hl => by obtain ⟨q, c, h1, h2, h3⟩ := h.2.1 i l hl; exact ⟨q, c, h1, key _ _ _ _ h2, h3⟩, h.2.2⟩

set_option maxHeartbeats 4000000 in
theorem wallList_law (aP : Option Addr) (kP : Nat) (lP : List ByteArray) (T0 : List (List Int)) (b1 : Bool) (w : World) (mP : lP.length ≤ maxLen) (zP : ∀ s ∈ lP, s.size ≤ maxLen) (cP : CellsAt w aP (lP.map Value.string)) (hT0 : T0.length ≤ 1048576) (hT1 : totR T0 ≤ 1048576)
    (HS : lP.length ≤ 1048576 → (∀ s ∈ lP, s.size ≤ 1048576) → ∀ (aP : Option Addr) (kP : Nat) (W : World), CellsAt W aP (lP.map Value.string) → Calls Try.prog 16 #[.slice aP lP.length kP] W fun e w' => RowsRet W.heap.size T0 b1 e w' ∧ Below W.heap.size W w')
    (HI : lP.length ≤ 1048576 → (∀ s ∈ lP, s.size ≤ 1048576) → ∀ (aP : Option Addr) (kP : Nat) (W : World), CellsAt W aP (lP.map Value.string) → Calls Try.prog 17 #[.slice aP lP.length kP] W fun e w' => RowsRet W.heap.size T0 b1 e w' ∧ Below W.heap.size W w') :
    Calls Try.prog 4 #[.slice aP lP.length kP] w fun e w' => e = .returned (.bool true) ∧ Below w.heap.size w w' := by
  obtain ⟨yP, hyP⟩ : ∃ y, szAll lP 1048576 = y := ⟨_, rfl⟩
  by_cases uP : yP < 0
  · have hd : decide (yP < 0) = true := decide_eq_true uP
    go_enter Try.func4, Try.ntmps4
    go_wp2_with fail
    refine (szStringS_any _ _ _ _ _ mP (by omega) (by omega) zP cP).mono ?_
    rw [hyP]; rintro e w1 ⟨rfl, rfl⟩
    go_wp2
    go_ret
    exact ⟨rfl, Below.refl _ _⟩
  · have hdP : decide (yP < 0) = false := decide_eq_false uP
    obtain ⟨leP, lnP, lsP⟩ := szAll_bound (l := lP) (n := 1048576) (by rw [hyP]; exact uP)
    rw [hyP] at leP
    have LP : lP.length ≤ 1048576 := by omega
    have SP : ∀ s ∈ lP, s.size ≤ 1048576 := fun s h => by have := lsP s h; omega
    have HS := Lib.hid (HS LP SP)
    have HI := Lib.hid (HI LP SP)
    clear lnP lsP
    have HTL := Lib.hid (rows_len_mem hT1)
    have HLP := Lib.hid (show lP.length ≤ maxLen by unfold maxLen; omega)
    have HXP := Lib.hid (eqS_self lP)
    have hq0 : decide (((1 + totR T0 : Nat) : Int) < 0) = false := by rw [decide_eq_false_iff_not]; omega
    have hk0 : decide (((1 + lP.length : Nat) : Int) < 0) = false := by rw [decide_eq_false_iff_not]; omega
    have hB := Below.refl w.heap.size w
    go_enter Try.func4, Try.ntmps4
    go_wp2_with fail
    refine (szStringS_any _ _ _ _ _ mP (by omega) (by omega) zP cP).mono ?_
    rw [hyP]; rintro e w1 ⟨rfl, rfl⟩
    have c0P := cP
    go_wp2_with fail
    refine (toStringS_any _ _ _ _ LP cP).mono ?_
    rintro e w1 ⟨g_yP, k_yP, rfl, o, hb⟩
    replace cP := cP.below hb
    replace hB := below_step hB hB.size hb
    have o_yP := o; clear o
    clear hb
    go_wp2_with fail
    refine (HS.out _ _ _ (owns_cells o_yP)).mono ?_
    rintro e w2 ⟨⟨wr0, wq0, rfl, ⟨usw, rw0⟩⟩, hb⟩
    replace cP := cP.below hb
    replace hB := below_step hB hB.size hb
    clear hb
    clear o_yP
    have hwb := rw0.base (Nat.zero_le _)
    have RW := Lib.hid hwb
    clear rw0 hwb
    have HBw := Below.refl w2.heap.size w2
    have hbase_xP := hB.size
    go_wp2_with fail
    refine (toStringS_any _ _ _ _ LP cP).mono ?_
    rintro e w3 ⟨g_xP, k_xP, rfl, o, hb⟩
    replace cP := cP.below hb
    replace hB := below_step hB hB.size hb
    replace HBw := below_step HBw HBw.size hb
    have o_xP := o; clear o
    have hltx := fun a ha => (owns_lt o_xP a ha).2
    clear hb
    have hbase_g0 := hB.size
    have hbw_g0 := HBw.size
    go_wp2_with fail
    refine (HI.out _ _ _ (owns_cells o_xP)).mono ?_
    rintro e w4 ⟨⟨gr0, gq0, rfl, ⟨usg, rg⟩⟩, hb⟩
    have hbg4 := hb.size
    replace cP := cP.below hb
    replace o_xP := ownsRow_below o_xP hb
    replace hB := below_step hB hB.size hb
    replace HBw := below_step HBw HBw.size hb
    clear hb
    go_wp2_with fail
    refine (eqIntSS_same _ _ _ _ _ _ T0 usg usw _ hT0 HTL.out rg (RW.out.below HBw)).mono ?_
    rintro e w5 ⟨rfl, hb⟩
    replace cP := cP.below hb
    replace rg := rg.below hb
    replace hB := below_step hB hB.size hb
    replace HBw := below_step HBw HBw.size hb
    replace hbg4 := Nat.le_trans hbg4 hb.size
    replace o_xP := ownsRow_below o_xP hb
    clear hb
    go_wp2_with fail
    refine (toStringS_any _ _ _ _ LP cP).mono ?_
    rintro e w6 ⟨g_zP, k_zP, rfl, o, hb⟩
    replace cP := cP.below hb
    replace rg := rg.below hb
    replace hB := below_step hB hB.size hb
    replace HBw := below_step HBw HBw.size hb
    replace hbg4 := Nat.le_trans hbg4 hb.size
    replace o_xP := ownsRow_below o_xP hb
    have o_zP := o; clear o
    clear hb
    go_wp2_with fail
    refine (eqStringS_any _ _ _ _ _ _ lP lP _ rfl rfl HLP.out (owns_cells o_xP) (owns_cells o_zP)).mono ?_
    rw [HXP.out]; rintro e w7 ⟨rfl, hq⟩
    have hb := quiet_below hq; clear hq
    replace cP := cP.below hb
    replace rg := rg.below hb
    replace hB := below_step hB hB.size hb
    replace HBw := below_step HBw HBw.size hb
    replace hbg4 := Nat.le_trans hbg4 hb.size
    replace o_xP := ownsRow_below o_xP hb
    clear hb o_zP
    go_wp2_with fail
    refine (markStringS_any _ _ (1) _ lP _ (by omega) (by omega) (o_xP)).mono ?_
    rintro e w8 ⟨rfl, o, hg⟩
    have hB2 := below_mark hB o_xP (B := w.heap.size) hbase_xP hg hB.size
    have HBw2 := below_mark HBw o_xP (B := w2.heap.size) (Nat.le_refl _) hg HBw.size
    replace cP := c0P.below hB2
    replace rg := rg.kept hg hltx
    replace hbg4 := Nat.le_trans hbg4 hg.size
    replace hB := hB2; clear hB2 hg
    replace HBw := HBw2; clear HBw2
    clear o_xP o
    go_wp2_with fail
    refine (eqIntSS_same _ _ _ _ _ _ T0 usg usw _ hT0 HTL.out rg (RW.out.below HBw)).mono ?_
    rintro e w9 ⟨rfl, hb⟩
    replace cP := cP.below hb
    replace rg := rg.below hb
    replace hB := below_step hB hB.size hb
    replace HBw := below_step HBw HBw.size hb
    replace hbg4 := Nat.le_trans hbg4 hb.size
    
    clear hb
    have hmb : w3.heap.size ≤ w9.heap.size := hbg4
    go_wp2_with fail
    refine (markIntSS_any _ _ (1) _ T0 usg _ (by omega) hT1 (by omega) hmb rg).mono ?_
    rintro e w10 ⟨rfl, rg2, hb10⟩
    have hB2 := hB.trans (hb10.mono hbase_g0)
    have HBw2 := HBw.trans (hb10.mono hbw_g0)
    replace cP := c0P.below hB2
    replace hB := hB2; clear hB2
    replace HBw := HBw2; clear HBw2
    clear rg hb10
    have rg := rg2; clear rg2
    go_wp2_with fail
    refine (heldIntSS_any _ _ (1) _ T0 usg _ hT0 hT1 (by omega) rg).mono ?_
    rintro e w11 ⟨rfl, hb⟩
    replace cP := cP.below hb
    replace rg := rg.below hb
    replace hB := below_step hB hB.size hb
    replace HBw := below_step HBw HBw.size hb
    clear hb
    go_wp2_with fail
    refine (toStringS_any _ _ _ _ LP cP).mono ?_
    rintro e w12 ⟨g_yP, k_yP, rfl, o, hb⟩
    replace cP := cP.below hb
    replace rg := rg.below hb
    replace hB := below_step hB hB.size hb
    replace HBw := below_step HBw HBw.size hb
    have o_yP := o; clear o
    clear hb
    go_wp2_with fail
    refine (HI.out _ _ _ (owns_cells o_yP)).mono ?_
    rintro e w13 ⟨⟨hr0, hq0', rfl, ⟨ush, rh⟩⟩, hb⟩
    replace cP := cP.below hb
    replace rg := rg.below hb
    replace hB := below_step hB hB.size hb
    replace HBw := below_step HBw HBw.size hb
    clear hb o_yP
    go_wp2_with fail
    refine (eqIntSS_same _ _ _ _ _ _ T0 ush usw _ hT0 HTL.out rh (RW.out.below HBw)).mono ?_
    rintro e w14 ⟨rfl, hb⟩
    replace cP := cP.below hb
    replace rg := rg.below hb
    replace hB := below_step hB hB.size hb
    replace HBw := below_step HBw HBw.size hb
    clear hb rh
    go_wp2_with fail
    refine (heldIntSS_any _ _ (1) _ T0 usg _ hT0 hT1 (by omega) rg).mono ?_
    rintro e w15 ⟨rfl, hb⟩
    replace cP := cP.below hb
    replace rg := rg.below hb
    replace hB := below_step hB hB.size hb
    replace HBw := below_step HBw HBw.size hb
    clear hb
    go_wp2
    go_ret
    exact ⟨rfl, hB⟩

theorem wallList_all (aP : Option Addr) (kP : Nat) (lP : List ByteArray) (w : World) (mP : lP.length ≤ maxLen) (zP : ∀ s ∈ lP, s.size ≤ maxLen) (cP : CellsAt w aP (lP.map Value.string)) :
    Calls Try.prog 4 #[.slice aP lP.length kP] w fun e w' => e = .returned (.bool true) ∧ Below w.heap.size w w' :=
  wallList_law aP kP lP (listOr lP) (planB lP) w mP zP cP (Nat.le_trans (listOr_len lP) (by omega)) (Nat.le_trans (listOr_tot lP) (by omega)) (fun hl hs _ _ _ hc => specWallList_any _ _ _ _ hl hs hc) (fun hl hs _ _ _ hc => implWallList_any _ _ _ _ hl hs hc)

set_option maxRecDepth 100000 in
theorem wallList_lifted (os : Os) (started : os.Started) (H : Type) (enc : TypeId × Value → H) :
    ReturnsInHanded {} Try.checked os 4 .any (Rows.fnExactWallListSpec.pre6 enc Try.prog Try.f4 Rows.fnExactWallListRow.domain false) (Rows.fnExactWallListSpec.post enc Try.prog Try.f4 false true false false) := by
  refine returnsInHanded_of_change (C := Try.checked) Try.own started (by kernel_rfl) Try.func4
    (ChangeSpec.witness6 (enc := enc) (C := Try.checked) false ⟨#[], #[.slice none 0 0], []⟩ 8 (by kernel_rfl) (by kernel_rfl) (by kernel_rfl) (by kernel_rfl)) ?_
  intro W base args ds gs before hval0 hW _ _
  have hval : ∀ (j : Nat) t v, Try.f4.params[j]? = some t → args[j]? = some v → Value.okWide Try.prog W .any base t v := hval0
  have hW' := hW
  obtain ⟨p, q, hA0, hV, rfl, _, _⟩ := hW
  have hA : DataW.TrodAll enc Try.prog W 0 (fun _ => true) true Try.f4.params.toList args.toList ds p := hA0
  rw [Try.params4] at hA hval
  obtain ⟨v0, d0, rfl, rfl, h0⟩ := trodAll_one hA
  obtain ⟨rfl, rfl⟩ := trodVars_none hV
  obtain ⟨aP, eP, kP, rfl⟩ := okWide_slice Try.underlying22 (hval 0 22 v0 rfl rfl)
  clear hA0 hval0
  simp only [List.append_nil] at hW'
  have hlt0 : ∀ x ∈ p, x.block < W.heap.size := fun x hx => by simpa using hW'.lt x (by simp [hx])
  obtain ⟨lP, rfl, mP, zP, cP⟩ := open_texts h0
  refine (wallList_all aP kP lP W mP zP cP).mono fun e W' ⟨he, hb⟩ => ?_
  subst he
  refine ⟨_, rfl, _, _, _, [], _, [], hW', trodAll_mk1 (shut_bool Try.underlying4 _), trodAll_mk1 (Below.trod Try.laidOut (by kernel_rfl) (of_decide_eq_true (by kernel_rfl)) h0 hb hlt0), rfl, hb.frame _, fun h => by cases h⟩

theorem wallList_holds : Rows.FnExactWallListSaid :=
  OpenClaim.holds_of_wide 4 Try.f4 rfl rfl rfl rfl rfl rfl rfl ⟨rfl, rfl, rfl, rfl, rfl⟩ rfl rfl rfl rfl rfl (by kernel_rfl) Try.func4 (by kernel_rfl)
    (of_decide_eq_true (by kernel_rfl)) (by unfold Func.isWrapper; first | (rw [if_pos (by decide +kernel)]; kernel_rfl) | (rw [if_neg (by decide +kernel)]; exact ⟨rfl, rfl⟩))
    (fun os started H enc _ => wallList_lifted os started H enc)

end Go.Proofs.Ytdipcemiepmanaa
