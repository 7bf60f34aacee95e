
/-
  For every slice of bytes the law FnValue returns true, and the slice reads behind the call as it read before. No condition.
-/
import Derived.Test.YtfemfmkgdgcemaaShT
import Derived.Test.YtfemfmkgdgcemaaDrawV
import Derived.Test.YtfemfmkgdgcemaaPick
import Derived.Test.YtfemfmkgdgcemaaLawK
namespace Go.Proofs.Ytfemfmkgdgcemaa
open Go.ChangeShapes Go.WideShapes Go.ChangeAt Go.RowKit

/-- a load under a condition that says what it reads -/
theorem yieldsIf_ldV {P : Program} {ops : Array Oper} {S : World → Prop} {op : Oper} {a : Act} (hw : Region.wanted op (yielded ops a.tmps) = true) (ty : TypeId) (x : Operand) (ho : op.op = .load ty x) (v : Value)
    (hr : ∀ w, S w → (Instr.loadAt ty (a.eval x)).run P w = .ok v w) : YieldsIf P ops S op v a :=
  .inl ⟨hw, fun w hw' => by
    unfold execOp
    simp only [ho, Sem.run_bind, Sem.run_pure, Result.andThen_ok, hr w hw']⟩
set_option maxRecDepth 100000 in
set_option maxHeartbeats 4000000 in
theorem fnValue_all (aC : Option Addr) (kC : Nat) (lC : List UInt8) (w : World) (mC : lC.length ≤ maxLen) (zC : lC.length ≤ kC) (cC : CellsAt w aC (lC.map byteV)) :
    Calls Try.prog 9 #[.slice aC lC.length kC] w fun e w' => e = .returned (.bool true) ∧ Below w.heap.size w w' := by
  have mC2 := mC
  clear mC2
  by_cases dC : lC.length ≤ 1048576
  · have hdC : decide (1048576 < (lC.length : Int)) = false := by rw [decide_eq_false_iff_not]; omega
    go_enter Try.func9, Try.ntmps9
    go_wp2_with fail
    refine (drawSheetValue_any _ _ _ _ zC dC cC).mono ?_
    rintro e w1 ⟨nW, nH, ao, bo, co, ka, kb, kc, k, la, lb, lc, rfl, ⟨hk1, hk5, hla, hlb, hlc⟩, c_a, c_b, c_c, hb⟩
    have hB := hb
    clear hb
    cases hp : (shB nW nH && kindsB la lb lc)
    · -- no such sheet, or kinds
      have HI := Lib.hid (fun w ca cb cc => implValK nW nH ao bo co ka kb kc k la lb lc w hk5 hla hlb hlc ca cb cc)
      have HS := Lib.hid (fun w ca cb cc => specValK nW nH ao bo co ka kb kc k la lb lc w hk5 hla hlb hlc ca cb cc)
      unfold valO at HI HS
      rw [hp] at HI HS
      simp only [Bool.false_eq_true, if_false] at HI HS
      clear hp hla hlb hlc
      go_wp2_with fail
      refine (HI.out _ c_a c_b c_c).mono ?_
      rintro e w2 ⟨rfl, hb⟩
      replace c_a := c_a.below hb
      replace c_b := c_b.below hb
      replace c_c := c_c.below hb
      replace hB := below_step hB hB.size hb
      clear hb
      go_wp2_with fail
      refine (HS.out _ c_a c_b c_c).mono ?_
      rintro e w3 ⟨rfl, hb⟩
      replace c_a := c_a.below hb
      replace c_b := c_b.below hb
      replace c_c := c_c.below hb
      replace hB := below_step hB hB.size hb
      clear hb
      go_wp2
      go_ret
      exact ⟨rfl, hB⟩
    · rw [Bool.and_eq_true] at hp
      obtain ⟨h1, h2⟩ := hp
      obtain ⟨x, y, rfl, rfl, hx1, hx2, hy1, hy2⟩ := shB_yes h1
      have h3 := shB_nat hy1 hy2 hx1 hx2
      have HI := Lib.hid (fun w ca cb cc => implValK x y ao bo co ka kb kc k la lb lc w hk5 hla hlb hlc ca cb cc)
      have HS := Lib.hid (fun w ca cb cc => specValK x y ao bo co ka kb kc k la lb lc w hk5 hla hlb hlc ca cb cc)
      have H2 := Lib.hid (fun w ca cb cc => implValK y x ao bo co ka kb kc k la lb lc w hk5 hla hlb hlc ca cb cc)
      obtain ⟨a, c, v, t, m, ⟨ha, hc, hv⟩, ⟨v1, v2, v3⟩, hsb, hv99, ⟨m0, m1⟩, ⟨p0, p1⟩, ⟨t0, t1⟩⟩ := val_facts h2 hx1 hx2 hy1 hy2
      have HM := Lib.hid (fun w => implSheetMost_any x y a c w)
      rw [v1, show (shB (x : Int) (y : Int) && kindsB la lb lc) = true by rw [h1, h2]; rfl] at HI HS
      rw [v2, show (shB (y : Int) (x : Int) && kindsB la lb lc) = true by rw [h3, h2]; rfl] at H2
      rw [v3, show (shB (x : Int) (y : Int) && shB (a : Int) (c : Int)) = true by rw [h1, hsb]; rfl] at HM
      have e_a : la.getD 0 0 = (a : Int) := by obtain ⟨l, rfl⟩ := ha; rfl
      have e_b : lb.getD 0 0 = (c : Int) := by obtain ⟨l, rfl⟩ := hc; rfl
      have e_c : lc.getD 0 0 = (v : Int) := by obtain ⟨l, rfl⟩ := hv; rfl
      have l0n : 0 < k := by omega
      have l0 : (0 : Int) < (k : Int) := by omega
      obtain ⟨ba, oa, rfl, _⟩ := c_a.int 0 (by omega)
      obtain ⟨bb, ob, rfl, _⟩ := c_b.int 0 (by omega)
      obtain ⟨bc, oc, rfl, _⟩ := c_c.int 0 (by omega)
      have KA := Lib.hid (fun (w : World) (h : CellsAt w (some ⟨ba, oa, none⟩) (la.map (Value.int .i64))) => show w.cell? ⟨ba, oa, none⟩ = some (.int .i64 (a : Int)) from by
        obtain ⟨b, o, he, kk⟩ := h.int 0 (by omega)
        simp only [Option.some.injEq, Addr.mk.injEq, and_true] at he
        obtain ⟨rfl, rfl⟩ := he
        rwa [e_a, Nat.add_zero] at kk)
      have KB := Lib.hid (fun (w : World) (h : CellsAt w (some ⟨bb, ob, none⟩) (lb.map (Value.int .i64))) => show w.cell? ⟨bb, ob, none⟩ = some (.int .i64 (c : Int)) from by
        obtain ⟨b, o, he, kk⟩ := h.int 0 (by omega)
        simp only [Option.some.injEq, Addr.mk.injEq, and_true] at he
        obtain ⟨rfl, rfl⟩ := he
        rwa [e_b, Nat.add_zero] at kk)
      have KC := Lib.hid (fun (w : World) (h : CellsAt w (some ⟨bc, oc, none⟩) (lc.map (Value.int .i64))) => show w.cell? ⟨bc, oc, none⟩ = some (.int .i64 (v : Int)) from by
        obtain ⟨b, o, he, kk⟩ := h.int 0 (by omega)
        simp only [Option.some.injEq, Addr.mk.injEq, and_true] at he
        obtain ⟨rfl, rfl⟩ := he
        rwa [e_c, Nat.add_zero] at kk)
      have r0 : IntKind.i64.wrap (m * (v : Int)) = m * (v : Int) := IntWalk.i64_in _ (by omega)
      clear ha hc hv v1 v2 v3 hsb e_a e_b e_c hla hlb hlc h1 h2 h3
      go_wp2_with fail
      refine (HI.out _ c_a c_b c_c).mono ?_
      rintro e w2 ⟨rfl, hb⟩
      replace c_a := c_a.below hb
      replace c_b := c_b.below hb
      replace c_c := c_c.below hb
      replace hB := below_step hB hB.size hb
      clear hb
      go_wp2_with fail
      refine (HS.out _ c_a c_b c_c).mono ?_
      rintro e w3 ⟨rfl, hb⟩
      replace c_a := c_a.below hb
      replace c_b := c_b.below hb
      replace c_c := c_c.below hb
      replace hB := below_step hB hB.size hb
      clear hb
      go_wp2_with fail
      refine (H2.out _ c_a c_b c_c).mono ?_
      rintro e w4 ⟨rfl, hb⟩
      replace c_a := c_a.below hb
      replace c_b := c_b.below hb
      replace c_c := c_c.below hb
      replace hB := below_step hB hB.size hb
      clear hb
      have HB9 := Lib.hid hB
      have hS0 := And.intro c_a (And.intro c_b c_c)
      clear hB c_a c_b c_c HI HS H2
      obtain ⟨W0, hW0⟩ : ∃ W0, W0 = w4 := ⟨_, rfl⟩
      go_wp2
      refine wp_region_held (S := fun w' => CellsAt w' (some ⟨ba, oa, none⟩) (la.map (Value.int .i64)) ∧ CellsAt w' (some ⟨bb, ob, none⟩) (lb.map (Value.int .i64)) ∧ CellsAt w' (some ⟨bc, oc, none⟩) (lc.map (Value.int .i64))) (by kernel_rfl) ?_
      have hB := HB9.out.trans (below_drewN _ w4 1)
      have hS : _ ∧ _ ∧ _ := And.intro (hS0.1.drewN 1) (And.intro (hS0.2.1.drewN 1) (hS0.2.2.drewN 1))
      change Below w.heap.size w ({ w4 with drawn := w4.drawn + 1 } : World) at hB
      change CellsAt ({ w4 with drawn := w4.drawn + 1 } : World) _ _ ∧ CellsAt ({ w4 with drawn := w4.drawn + 1 } : World) _ _ ∧ CellsAt ({ w4 with drawn := w4.drawn + 1 } : World) _ _ at hS
      generalize ({ w4 with drawn := w4.drawn + 1 } : World) = W1 at *
      clear hS0 hW0 W0 HB9
      change Go.wpAnyH Try.prog Region.Mode.any _ _ _ 14 (Array.replicate 14 false) _ _
      refine wpAnyH_take (i := 0) (v := .int .i64 (x : Nat)) rfl (by kernel_rfl) (by kernel_rfl) (by kernel_rfl) (fun _ _ _ h => h) (Yields.yieldsIf (Or.inl ⟨by kernel_rfl, fun w => by go_simp⟩)) hS ?_
      refine wpAnyH_take (i := 1) (v := .int .i64 (y : Nat)) rfl (by kernel_rfl) (by kernel_rfl) (by kernel_rfl) (fun _ _ _ h => h) (Yields.yieldsIf (Or.inl ⟨by kernel_rfl, fun w => by go_simp⟩)) hS ?_
      refine wpAnyH_take (i := 2) (v := .slice (some ⟨ba, oa, none⟩) k ka) rfl (by kernel_rfl) (by kernel_rfl) (by kernel_rfl) (fun _ _ _ h => h) (Yields.yieldsIf (Or.inl ⟨by kernel_rfl, fun w => by go_simp⟩)) hS ?_
      refine wpAnyH_take (i := 3) (v := .pointer (some ⟨ba, oa, none⟩)) rfl (by kernel_rfl) (by kernel_rfl) (by kernel_rfl) (fun _ _ _ h => h) (Yields.yieldsIf (Or.inl ⟨by kernel_rfl, fun w => by go_simp⟩)) hS ?_
      refine wpAnyH_take (i := 4) (v := .int .i64 (a : Nat)) rfl (by kernel_rfl) (by kernel_rfl) (by kernel_rfl) (fun _ _ _ h => h) (yieldsIf_ldV (by kernel_rfl) 3 _ rfl _ (fun w' hw => by have hc := KA.out w' hw.1; go_simp)) hS ?_
      refine wpAnyH_take (i := 5) (v := .slice (some ⟨bb, ob, none⟩) k kb) rfl (by kernel_rfl) (by kernel_rfl) (by kernel_rfl) (fun _ _ _ h => h) (Yields.yieldsIf (Or.inl ⟨by kernel_rfl, fun w => by go_simp⟩)) hS ?_
      refine wpAnyH_take (i := 6) (v := .pointer (some ⟨bb, ob, none⟩)) rfl (by kernel_rfl) (by kernel_rfl) (by kernel_rfl) (fun _ _ _ h => h) (Yields.yieldsIf (Or.inl ⟨by kernel_rfl, fun w => by go_simp⟩)) hS ?_
      refine wpAnyH_take (i := 7) (v := .int .i64 (c : Nat)) rfl (by kernel_rfl) (by kernel_rfl) (by kernel_rfl) (fun _ _ _ h => h) (yieldsIf_ldV (by kernel_rfl) 3 _ rfl _ (fun w' hw => by have hc := KB.out w' hw.2.1; go_simp)) hS ?_
      refine wpAnyH_all (rs := [8]) (by kernel_rfl) (by decide) ?_
      intro i hi
      simp only [List.mem_cons, List.not_mem_nil, or_false] at hi
      subst hi
      refine wpOp_go rfl (by kernel_rfl) ?_
      unfold Oper.wp
      go_simp
      refine (HM.out _).mono ?_
      rintro e v8 ⟨rfl, hb⟩
      replace hS := And.intro (hS.1.below hb) (And.intro (hS.2.1.below hb) (hS.2.2.below hb))
      replace hB := below_step hB hB.size hb
      refine ⟨hS, ?_⟩
      clear hb
      refine wpAnyH_take (i := 9) (v := .tuple #[.int .i64 m, .bool true]) rfl (by kernel_rfl) (by kernel_rfl) (by kernel_rfl) (fun _ _ _ h => h) (Yields.yieldsIf (Or.inl ⟨by kernel_rfl, fun w => by go_simp⟩)) hS ?_
      refine wpAnyH_take (i := 10) (v := .int .i64 m) rfl (by kernel_rfl) (by kernel_rfl) (by kernel_rfl) (fun _ _ _ h => h) (Yields.yieldsIf (Or.inl ⟨by kernel_rfl, fun w => by go_simp⟩)) hS ?_
      refine wpAnyH_take (i := 11) (v := .bool true) rfl (by kernel_rfl) (by kernel_rfl) (by kernel_rfl) (fun _ _ _ h => h) (Yields.yieldsIf (Or.inl ⟨by kernel_rfl, fun w => by go_simp⟩)) hS ?_
      refine wpAnyH_take (i := 12) (v := .int .i64 m) rfl (by kernel_rfl) (by kernel_rfl) (by kernel_rfl) (fun _ _ _ h => h) (Yields.yieldsIf (Or.inl ⟨by kernel_rfl, fun w => by go_simp⟩)) hS ?_
      refine wpAnyH_take (i := 13) (v := .bool true) rfl (by kernel_rfl) (by kernel_rfl) (by kernel_rfl) (fun _ _ _ h => h) (Yields.yieldsIf (Or.inl ⟨by kernel_rfl, fun w => by go_simp⟩)) hS ?_
      refine wpAnyH_done (by kernel_rfl) ?_ _
      simp only [List.getElem_toArray, List.getElem_cons_succ, List.getElem_cons_zero, Act.put, List.setIfInBounds_toArray, List.set_cons_succ, List.set_cons_zero]
      have k0 := KC.out _ hS.2.2
      go_wp2
      go_ret
      exact ⟨rfl, hB⟩
  · have hdC : decide (1048576 < (lC.length : Int)) = true := by rw [decide_eq_true_eq]; omega
    go_enter Try.func9, Try.ntmps9
    go_wp2
    go_ret
    exact ⟨rfl, Below.refl _ _⟩

set_option maxRecDepth 100000 in
theorem fnValue_lifted (os : Os) (started : os.Started) (H : Type) (enc : TypeId × Value → H) :
    ReturnsInHanded {} Try.checked os 9 .any (Rows.fnValueSpec.pre6 enc Try.prog Try.f9 Rows.fnValueRow.domain false) (Rows.fnValueSpec.post enc Try.prog Try.f9 false true false false) := by
  refine returnsInHanded_of_change (C := Try.checked) Try.own started (by kernel_rfl) Try.func9
    (ChangeSpec.witness6 (enc := enc) (C := Try.checked) false ⟨#[], #[.slice none 0 0], []⟩ 8 (by kernel_rfl) (by kernel_rfl) (by kernel_rfl) (by kernel_rfl)) ?_
  intro W base args ds gs before hval0 hW _ _
  have hval : ∀ (j : Nat) t v, Try.f9.params[j]? = some t → args[j]? = some v → Value.okWide Try.prog W .any base t v := hval0
  have hW' := hW
  obtain ⟨p, q, hA0, hV, rfl, _, _⟩ := hW
  have hA : DataW.TrodAll enc Try.prog W 0 (fun _ => true) true Try.f9.params.toList args.toList ds p := hA0
  rw [Try.params9] at hA hval
  obtain ⟨v0, d0, rfl, rfl, h0⟩ := trodAll_one hA
  obtain ⟨rfl, rfl⟩ := trodVars_none hV
  obtain ⟨aC, eC, kC, rfl⟩ := okWide_slice Try.underlying22 (hval 0 22 v0 rfl rfl)
  clear hA0 hval0
  simp only [List.append_nil] at hW'
  have hlt0 : ∀ x ∈ p, x.block < W.heap.size := fun x hx => by simpa using hW'.lt x (by simp [hx])
  obtain ⟨lC, rfl, mC, zC, cC⟩ := open_bytes h0
  refine (fnValue_all aC kC lC W mC zC cC).mono fun e W' ⟨he, hb⟩ => ?_
  subst he
  refine ⟨_, rfl, _, _, _, [], _, [], hW', trodAll_mk1 (shut_bool Try.underlying4 _), trodAll_mk1 (Below.trod Try.laidOut (by kernel_rfl) (of_decide_eq_true (by kernel_rfl)) h0 hb hlt0), rfl, hb.frame _, fun h => by cases h⟩

theorem fnValue_holds : Rows.FnValueSaid :=
  OpenClaim.holds_of_wide 9 Try.f9 rfl rfl rfl rfl rfl rfl rfl ⟨rfl, rfl, rfl, rfl, rfl⟩ rfl rfl rfl rfl rfl (by kernel_rfl) Try.func9 (by kernel_rfl)
    (of_decide_eq_true (by kernel_rfl)) (by unfold Func.isWrapper; first | (rw [if_pos (by decide +kernel)]; kernel_rfl) | (rw [if_neg (by decide +kernel)]; exact ⟨rfl, rfl⟩))
    (fun os started H enc _ => fnValue_lifted os started H enc)

end Go.Proofs.Ytfemfmkgdgcemaa
