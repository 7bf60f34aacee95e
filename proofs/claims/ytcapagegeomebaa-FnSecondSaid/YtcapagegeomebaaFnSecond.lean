
/-
  For every slice of bytes the law FnSecond returns true, and the slice reads behind the call as it read before. No condition.
-/
import Derived.Test.YtcapagegeomebaaOrdJ
import Derived.Test.YtcapagegeomebaaDrawO
import Derived.Test.YtcapagegeomebaaDraw
import Derived.Test.YtcapagegeomebaaLaws
namespace Go.Proofs.Ytcapagegeomebaa
open Go.ChangeShapes Go.WideShapes Go.ChangeAt Go.RowKit

/-- a load under a condition that says what it reads -/
theorem yieldsIf_ld {P : Program} {ops : Array Oper} {S : World → Prop} {op : Oper} {a : Act} (hw : Region.wanted op (yielded ops a.tmps) = true) (ty : TypeId) (x : Operand) (ho : op.op = .load ty x) (v : Value)
    (hr : ∀ w, S w → (Instr.loadAt ty (a.eval x)).run P w = .ok v w) : YieldsIf P ops S op v a :=
  .inl ⟨hw, fun w hw' => by
    unfold execOp
    simp only [ho, Sem.run_bind, Sem.run_pure, Result.andThen_ok, hr w hw']⟩
set_option maxRecDepth 100000 in
set_option maxHeartbeats 12000000 in
theorem fnSecond_all (aC : Option Addr) (kC : Nat) (lC : List UInt8) (w : World) (mC : lC.length ≤ maxLen) (zC : lC.length ≤ kC) (cC : CellsAt w aC (lC.map byteV)) :
    Calls Try.prog 8 #[.slice aC lC.length kC] w fun e w' => e = .returned (.bool true) ∧ Below w.heap.size w w' := by
  have mC2 := mC
  clear mC2
  by_cases dC : lC.length ≤ 1048576
  · have hdC : decide (1048576 < (lC.length : Int)) = false := by rw [decide_eq_false_iff_not]; omega
    go_enter Try.func8, Try.ntmps8
    go_wp2_with fail
    refine (drawOrderSecond_any _ _ _ _ zC dC cC).mono ?_
    rintro e w1 ⟨⟨roP, rcP, lP, hsm, rfl, c_P⟩, hb⟩
    have hB := hb
    clear hb
    have LP : lP.length ≤ 1048576 := by have := hsm.2.1; omega
    have SP : ∀ s ∈ lP, s.size ≤ 1048576 := fun s h => by have := hsm.2.2 s h; omega
    cases hp : plainB lP
    · -- no plain plan
      have HI := Lib.hid (fun w c => implOrderSecond_any roP rcP lP w LP SP c)
      have HS := Lib.hid (fun w c => specOrderSecond_any roP rcP lP w LP SP c)
      rw [hp, secondL_no hp, show intsL [] = [] from rfl] at HI HS
      go_wp2_with fail
      refine (HI.out _ c_P).mono ?_
      rintro e w2 ⟨⟨roO, rcO, rfl, ow⟩, hb⟩
      replace c_P := c_P.below hb
      replace hB := below_step hB hB.size hb
      clear hb
      have c_O := owns_cells ow
      clear ow
      go_wp2_with fail
      refine (HS.out _ c_P).mono ?_
      rintro e w3 ⟨⟨roW, rcW, rfl, ow⟩, hb⟩
      replace c_P := c_P.below hb
      replace c_O := c_O.below hb
      replace hB := below_step hB hB.size hb
      clear hb
      have c_W := owns_cells ow
      clear ow
      go_wp2_with fail
      refine (sameInts_any _ _ _ _ _ _ [] [] _ rfl rfl (Nat.zero_le _) c_O c_W).mono ?_
      rw [eqI_self]
      rintro e w4 ⟨rfl, hq⟩
      have hb := quiet_below hq
      clear hq
      replace c_P := c_P.below hb
      replace c_O := c_O.below hb
      replace c_W := c_W.below hb
      replace hB := below_step hB hB.size hb
      clear hb
      go_wp2_with fail
      refine (sameInts_any _ _ _ _ _ _ [] [] _ rfl rfl (Nat.zero_le _) c_O c_W).mono ?_
      rw [eqI_self]
      rintro e w5 ⟨rfl, hq⟩
      have hb := quiet_below hq
      clear hq
      replace c_P := c_P.below hb
      replace c_O := c_O.below hb
      replace c_W := c_W.below hb
      replace hB := below_step hB hB.size hb
      clear hb
      go_wp2
      go_ret
      exact ⟨rfl, hB⟩
    · -- a plain plan
      have HI := Lib.hid (fun w c => implOrderSecond_any roP rcP lP w LP SP c)
      have HS := Lib.hid (fun w c => specOrderSecond_any roP rcP lP w LP SP c)
      have HF := Lib.hid (fun w c => implOrderFirst_any roP rcP lP w LP SP c)
      have hpl := plainB_plan hp
      have hP := planP_of hpl
      rw [hp] at HI HS HF
      obtain ⟨e1, f2, f3, e4, _⟩ := first_math hp
      obtain ⟨f1, f4, f5, f6⟩ := second_math hp
      obtain ⟨n1, hn1⟩ : ∃ n1, lP.length = n1 + 1 := ⟨lP.length - 1, by have := hP.grid.h1; omega⟩
      obtain ⟨m1, hm1⟩ : ∃ m1, wideB lP = m1 + 1 := ⟨wideB lP - 1, by have := hP.grid.w1; omega⟩
      have hlet := letter_room hpl (i := n1) (j := 0) (by omega) (by omega)
      have hlet2 := letter_room hpl (i := 0) (j := m1) (by omega) (by omega)
      have hev := hP.grid.even n1 (by omega)
      rw [hm1] at hev
      rw [show lP.length - 1 = n1 by omega] at f5
      rw [show wideB lP - 1 = m1 by omega] at f6
      obtain ⟨L, hL⟩ : ∃ L, L = intsL (secondL lP) := ⟨_, rfl⟩
      obtain ⟨K, hK⟩ : ∃ K, K = intsL (firstL lP) := ⟨_, rfl⟩
      have HPE := Lib.hid (show K.Perm L by rw [hL, hK]; exact (e4.trans f4.symm).map _)
      have hLl : L.length = gridR lP := by rw [hL, intsL_len, f1]
      have hKl : K.length = gridR lP := by rw [hK, intsL_len, e1]
      have hL0 : L.getD 0 0 = ((gridG lP n1 0 : Nat) : Int) := by rw [hL, ints_at _ (by omega), f5]
      have hLz : L.getD (gridR lP - 1) 0 = ((gridG lP 0 m1 : Nat) : Int) := by rw [hL, ints_at _ (by omega), f6]
      rw [← hL] at HI HS
      rw [← hK] at HF
      have hP6 : m1 ≤ 6 := by have := hP.grid.w6; omega
      clear hL hK f1 f4 f5 f6 e1 e4 hP hpl hp
      generalize gridR lP = R at *
      generalize gridG lP n1 0 = za at *
      generalize gridG lP 0 m1 = zb at *
      unfold byteAt at hlet hlet2
      have hw0 : (lP.getD 0 ByteArray.empty).size = m1 + 1 := hm1
      clear hm1
      obtain ⟨rb, hrb⟩ : ∃ rb, R = rb + 1 := ⟨R - 1, by omega⟩
      rw [show R - 1 = rb by omega] at hLz
      have EQ := Lib.hid (And.intro hn1 (And.intro hev (And.intro hw0 (And.intro hLl (And.intro hL0 (And.intro hLz (And.intro hrb (And.intro hlet (And.intro hlet2 hKl)))))))))
      have r0 : wrap64 ((rb : Nat) : Int) = ((rb : Nat) : Int) := by unfold wrap64; omega
      clear hn1 hev hw0 hLl hL0 hLz hrb hlet hlet2 hKl
      go_wp2_with fail
      refine (HI.out _ c_P).mono ?_
      rintro e w6 ⟨⟨roO, rcO, rfl, ow⟩, hb⟩
      replace c_P := c_P.below hb
      replace hB := below_step hB hB.size hb
      clear hb
      have c_O := owns_cells ow
      clear ow
      go_wp2_with fail
      refine (HS.out _ c_P).mono ?_
      rintro e w7 ⟨⟨roW, rcW, rfl, ow⟩, hb⟩
      replace c_P := c_P.below hb
      replace c_O := c_O.below hb
      replace hB := below_step hB hB.size hb
      clear hb
      have c_W := owns_cells ow
      clear ow
      go_wp2_with fail
      refine (sameInts_any _ _ _ _ _ _ L L _ rfl rfl (by have := EQ.out; unfold maxLen; omega) c_O c_W).mono ?_
      rw [eqI_self]
      rintro e w8 ⟨rfl, hq⟩
      have hb := quiet_below hq
      clear hq
      replace c_P := c_P.below hb
      replace c_O := c_O.below hb
      replace c_W := c_W.below hb
      replace hB := below_step hB hB.size hb
      clear hb
      obtain ⟨b0, o0, rfl, k0⟩ := c_P.str 0 (by have := EQ.out; omega)
      rw [Nat.add_zero] at k0
      obtain ⟨s0, hs0⟩ : ∃ s0, s0 = lP.getD 0 ByteArray.empty := ⟨_, rfl⟩
      rw [← hs0] at k0
      have h0l : (0 : Int) < (lP.length : Int) := by have := EQ.out; omega
      have HS0 := Lib.hid hs0; clear hs0
      go_wp2_with fail
      refine (HF.out _ c_P).mono ?_
      rintro e w9 ⟨⟨roK, rcK, rfl, ow⟩, hb⟩
      replace c_P := c_P.below hb
      replace c_O := c_O.below hb
      replace c_W := c_W.below hb
      replace hB := below_step hB hB.size hb
      clear hb
      have c_K := owns_cells ow
      clear ow
      clear k0
      obtain ⟨hn1, hev, hw0, hLl, hL0, hLz, hrb, hlet, hlet2, hKl⟩ := EQ.out
      obtain ⟨s1, hs1⟩ : ∃ s1, s1 = lP.getD n1 ByteArray.empty := ⟨_, rfl⟩
      have hs0 := HS0.out
      rw [← hs1] at hev hlet
      rw [← hs0] at hw0 hlet2
      have hms1 : 0 < s1.size := by omega
      have hms0 : m1 < s0.size := by omega
      have hat1 := at_list s1 0 hms1
      have hat0 := at_list s0 m1 hms0
      obtain ⟨c1, hc1⟩ : ∃ c1, c1 = s1.data.toList.getD 0 0 := ⟨_, rfl⟩
      obtain ⟨c0, hc0⟩ : ∃ c0, c0 = s0.data.toList.getD m1 0 := ⟨_, rfl⟩
      rw [← hc1] at hat1 hlet
      rw [← hc0] at hat0 hlet2
      have q1 : ((za : Nat) : Int) = (c1.toNat : Int) - 97 := by omega
      have q2 : ((zb : Nat) : Int) = (c0.toNat : Int) - 97 := by omega
      rw [q1] at hL0
      rw [q2] at hLz
      clear q1 q2
      obtain ⟨ba, oa, rfl, _⟩ := c_O.int 0 (by omega)
      have KA := Lib.hid (fun (w : World) (h : CellsAt w (some ⟨ba, oa, none⟩) (L.map (Value.int .i64))) => show w.cell? ⟨ba, oa, none⟩ = some (.int .i64 ((c1.toNat : Int) - 97)) from by
        obtain ⟨b, o, he, k⟩ := h.int 0 (by omega)
        simp only [Option.some.injEq, Addr.mk.injEq, and_true] at he
        obtain ⟨rfl, rfl⟩ := he
        rwa [hL0, Nat.add_zero] at k)
      have KZ := Lib.hid (fun (w : World) (h : CellsAt w (some ⟨ba, oa, none⟩) (L.map (Value.int .i64))) => show w.cell? ⟨ba, oa + rb, none⟩ = some (.int .i64 ((c0.toNat : Int) - 97)) from by
        obtain ⟨b, o, he, k⟩ := h.int rb (by omega)
        simp only [Option.some.injEq, Addr.mk.injEq, and_true] at he
        obtain ⟨rfl, rfl⟩ := he
        rwa [hLz] at k)
      have KP := Lib.hid (fun (w : World) (h : CellsAt w (some ⟨b0, o0, none⟩) (lP.map Value.string)) => show w.cell? ⟨b0, o0 + n1, none⟩ = some (.string s1) from by
        obtain ⟨b, o, he, k⟩ := h.str n1 (by omega)
        simp only [Option.some.injEq, Addr.mk.injEq, and_true] at he
        obtain ⟨rfl, rfl⟩ := he
        rwa [← hs1] at k)
      have KQ := Lib.hid (fun (w : World) (h : CellsAt w (some ⟨b0, o0, none⟩) (lP.map Value.string)) => show w.cell? ⟨b0, o0, none⟩ = some (.string s0) from by
        obtain ⟨b, o, he, k⟩ := h.str 0 (by omega)
        simp only [Option.some.injEq, Addr.mk.injEq, and_true] at he
        obtain ⟨rfl, rfl⟩ := he
        rwa [← hs0, Nat.add_zero] at k)
      have e1 : (lP.length : Int) - 1 = (n1 : Int) := by omega
      have e2 : (s0.size : Int) - 1 = (m1 : Int) := by omega
      have e3 : (L.length : Int) - 1 = (rb : Int) := by omega
      have l1n : n1 < lP.length := by omega
      have l2n : rb < L.length := by omega
      have l3n : 0 < L.length := by omega
      have l4n : 0 < lP.length := by omega
      have l1 : (n1 : Int) < (lP.length : Int) := by omega
      have l2 : (rb : Int) < (L.length : Int) := by omega
      have l3 : (0 : Int) < (L.length : Int) := by omega
      have l5 : (m1 : Int) < (s0.size : Int) := by omega
      have l6 : (0 : Int) < (s1.size : Int) := by omega
      have HKL := Lib.hid (And.intro (show 1 ≤ K.length ∧ K.length ≤ 100 by omega) (show 1 ≤ L.length ∧ L.length ≤ 100 by omega))
      have z1 : c1.toNat ≤ 255 := by have := c1.toNat_lt; omega
      have z0 : c0.toNat ≤ 255 := by have := c0.toNat_lt; omega
      have r0 : IntKind.i64.wrap ((rb : Nat) : Int) = ((rb : Nat) : Int) := IntWalk.i64_in _ (by omega)
      have r1 : IntKind.i64.wrap ((n1 : Nat) : Int) = ((n1 : Nat) : Int) := IntWalk.i64_in _ (by omega)
      have r2 : IntKind.i64.wrap ((m1 : Nat) : Int) = ((m1 : Nat) : Int) := IntWalk.i64_in _ (by omega)
      have r3 : IntKind.i64.wrap ((c1.toNat : Nat) : Int) = ((c1.toNat : Nat) : Int) := IntWalk.i64_in _ (by omega)
      have r4 : IntKind.i64.wrap (((c1.toNat : Nat) : Int) - 97) = (((c1.toNat : Nat) : Int) - 97) := IntWalk.i64_in _ (by omega)
      have r5 : IntKind.i64.wrap ((c0.toNat : Nat) : Int) = ((c0.toNat : Nat) : Int) := IntWalk.i64_in _ (by omega)
      have r6 : IntKind.i64.wrap (((c0.toNat : Nat) : Int) - 97) = (((c0.toNat : Nat) : Int) - 97) := IntWalk.i64_in _ (by omega)
      clear z0 z1 hn1 hev hw0 hLl hL0 hLz hrb hlet hlet2 hKl hs1 hs0 hc1 hc0 EQ HS0 HI HS HF
      have HB9 := Lib.hid hB; have CK := Lib.hid c_K
      have hS0 := And.intro c_O c_P
      clear hB c_K c_O c_P c_W
      obtain ⟨W0, hW0⟩ : ∃ W0, W0 = w9 := ⟨_, rfl⟩
      go_wp2
      refine wp_region_held (S := fun w' => CellsAt w' (some ⟨ba, oa, none⟩) (L.map (Value.int .i64)) ∧ CellsAt w' (some ⟨b0, o0, none⟩) (lP.map Value.string)) (by kernel_rfl) ?_
      have hB := HB9.out.trans (below_drewN _ w9 1)
      have c_K := CK.out.drewN 1
      have hS : _ ∧ _ := And.intro (hS0.1.drewN 1) (hS0.2.drewN 1)
      change Below w.heap.size w ({ w9 with drawn := w9.drawn + 1 } : World) at hB
      change CellsAt ({ w9 with drawn := w9.drawn + 1 } : World) _ _ at c_K
      change CellsAt ({ w9 with drawn := w9.drawn + 1 } : World) _ _ ∧ CellsAt ({ w9 with drawn := w9.drawn + 1 } : World) _ _ at hS
      generalize ({ w9 with drawn := w9.drawn + 1 } : World) = W1 at *
      clear hS0 hW0 W0 HB9 CK
      change Go.wpAnyH Try.prog Region.Mode.any _ _ _ 40 (Array.replicate 40 false) _ _
      refine wpAnyH_take (i := 0) (v := .bool true) rfl (by kernel_rfl) (by kernel_rfl) (by kernel_rfl) (fun _ _ _ h => h) (Yields.yieldsIf (Or.inl ⟨by kernel_rfl, fun w => by go_simp⟩)) hS ?_
      refine wpAnyH_take (i := 1) (v := .bool true) rfl (by kernel_rfl) (by kernel_rfl) (by kernel_rfl) (fun _ _ _ h => h) (Yields.yieldsIf (Or.inl ⟨by kernel_rfl, fun w => by go_simp⟩)) hS ?_
      refine wpAnyH_take (i := 2) (v := .slice roK K.length rcK) rfl (by kernel_rfl) (by kernel_rfl) (by kernel_rfl) (fun _ _ _ h => h) (Yields.yieldsIf (Or.inl ⟨by kernel_rfl, fun w => by go_simp⟩)) hS ?_
      refine wpAnyH_take (i := 4) (v := .slice (some ⟨ba, oa, none⟩) L.length rcO) rfl (by kernel_rfl) (by kernel_rfl) (by kernel_rfl) (fun _ _ _ h => h) (Yields.yieldsIf (Or.inl ⟨by kernel_rfl, fun w => by go_simp⟩)) hS ?_
      refine wpAnyH_all (rs := [3]) (by kernel_rfl) (by decide) ?_
      intro i hi
      simp only [List.mem_cons, List.not_mem_nil, or_false] at hi
      subst hi
      refine wpOp_go rfl (by kernel_rfl) ?_
      unfold Oper.wp
      go_simp
      refine (sorted_any _ _ K _ HKL.out.1.1 HKL.out.1.2 c_K).mono ?_
      rintro e v3 ⟨roS, rcS, sS, rfl, c_S, pS, oS, hb⟩
      replace hS := And.intro (hS.1.below hb) (hS.2.below hb)
      replace hB := below_step hB hB.size hb
      refine ⟨hS, ?_⟩
      clear hb
      refine wpAnyH_all (rs := [5]) (by kernel_rfl) (by decide) ?_
      intro i hi
      simp only [List.mem_cons, List.not_mem_nil, or_false] at hi
      subst hi
      refine wpOp_go rfl (by kernel_rfl) ?_
      unfold Oper.wp
      go_simp
      refine (sorted_any _ _ L _ HKL.out.2.1 HKL.out.2.2 hS.1).mono ?_
      rintro e v5 ⟨roT, rcT, sT, rfl, c_T, pT, oT, hb⟩
      replace c_S := c_S.below hb
      replace hS := And.intro (hS.1.below hb) (hS.2.below hb)
      replace hB := below_step hB hB.size hb
      refine ⟨hS, ?_⟩
      clear hb
      have hST := sorted_same pS pT HPE.out oS oT
      have hSl : sS.length ≤ maxLen := by rw [pS.length_eq]; have := HKL.out.1.2; unfold maxLen; omega
      clear pS pT oS oT
      subst hST
      refine wpAnyH_all (rs := [6]) (by kernel_rfl) (by decide) ?_
      intro i hi
      simp only [List.mem_cons, List.not_mem_nil, or_false] at hi
      subst hi
      refine wpOp_go rfl (by kernel_rfl) ?_
      unfold Oper.wp
      go_simp
      refine (sameInts_any _ _ _ _ _ _ sS sS _ rfl rfl hSl c_S c_T).mono ?_
      rintro e v6 ⟨rfl, hq⟩
      have hb := quiet_below hq
      replace hS := And.intro (hS.1.below hb) (hS.2.below hb)
      replace hB := below_step hB hB.size hb
      refine ⟨hS, ?_⟩
      clear hb hq
      rw [eqI_self]
      refine wpAnyH_take (i := 7) (v := .bool true) rfl (by kernel_rfl) (by kernel_rfl) (by kernel_rfl) (fun _ _ _ h => h) (Yields.yieldsIf (Or.inl ⟨by kernel_rfl, fun w => by go_simp⟩)) hS ?_
      refine wpAnyH_take (i := 8) (v := .bool true) rfl (by kernel_rfl) (by kernel_rfl) (by kernel_rfl) (fun _ _ _ h => h) (Yields.yieldsIf (Or.inl ⟨by kernel_rfl, fun w => by go_simp⟩)) hS ?_
      refine wpAnyH_take (i := 9) (v := .slice (some ⟨ba, oa, none⟩) L.length rcO) rfl (by kernel_rfl) (by kernel_rfl) (by kernel_rfl) (fun _ _ _ h => h) (Yields.yieldsIf (Or.inl ⟨by kernel_rfl, fun w => by go_simp⟩)) hS ?_
      refine wpAnyH_take (i := 10) (v := .pointer (some ⟨ba, oa, none⟩)) rfl (by kernel_rfl) (by kernel_rfl) (by kernel_rfl) (fun _ _ _ h => h) (Yields.yieldsIf (Or.inl ⟨by kernel_rfl, fun w => by go_simp⟩)) hS ?_
      refine wpAnyH_take (i := 11) (v := .int .i64 ((c1.toNat : Int) - 97)) rfl (by kernel_rfl) (by kernel_rfl) (by kernel_rfl) (fun _ _ _ h => h) (yieldsIf_ld (by kernel_rfl) 3 _ rfl _ (fun w' hw => by have hc := KA.out w' hw.1; go_simp)) hS ?_
      refine wpAnyH_take (i := 12) (v := .slice (some ⟨b0, o0, none⟩) lP.length rcP) rfl (by kernel_rfl) (by kernel_rfl) (by kernel_rfl) (fun _ _ _ h => h) (Yields.yieldsIf (Or.inl ⟨by kernel_rfl, fun w => by go_simp⟩)) hS ?_
      refine wpAnyH_take (i := 13) (v := .int .i64 (lP.length : Nat)) rfl (by kernel_rfl) (by kernel_rfl) (by kernel_rfl) (fun _ _ _ h => h) (Yields.yieldsIf (Or.inl ⟨by kernel_rfl, fun w => by go_simp⟩)) hS ?_
      refine wpAnyH_take (i := 14) (v := .int .i64 (n1 : Nat)) rfl (by kernel_rfl) (by kernel_rfl) (by kernel_rfl) (fun _ _ _ h => h) (Yields.yieldsIf (Or.inl ⟨by kernel_rfl, fun w => by go_simp⟩)) hS ?_
      refine wpAnyH_take (i := 15) (v := .pointer (some ⟨b0, o0 + n1, none⟩)) rfl (by kernel_rfl) (by kernel_rfl) (by kernel_rfl) (fun _ _ _ h => h) (Yields.yieldsIf (Or.inl ⟨by kernel_rfl, fun w => by go_simp⟩)) hS ?_
      refine wpAnyH_take (i := 16) (v := .string s1) rfl (by kernel_rfl) (by kernel_rfl) (by kernel_rfl) (fun _ _ _ h => h) (yieldsIf_ld (by kernel_rfl) 9 _ rfl _ (fun w' hw => by have hc := KP.out w' hw.2; go_simp)) hS ?_
      refine wpAnyH_take (i := 17) (v := .int .u8 (c1.toNat : Nat)) rfl (by kernel_rfl) (by kernel_rfl) (by kernel_rfl) (fun _ _ _ h => h) (Yields.yieldsIf (Or.inl ⟨by kernel_rfl, fun w => by go_simp⟩)) hS ?_
      refine wpAnyH_take (i := 18) (v := .int .i64 (c1.toNat : Nat)) rfl (by kernel_rfl) (by kernel_rfl) (by kernel_rfl) (fun _ _ _ h => h) (Yields.yieldsIf (Or.inl ⟨by kernel_rfl, fun w => by go_simp⟩)) hS ?_
      refine wpAnyH_take (i := 19) (v := .int .i64 ((c1.toNat : Int) - 97)) rfl (by kernel_rfl) (by kernel_rfl) (by kernel_rfl) (fun _ _ _ h => h) (Yields.yieldsIf (Or.inl ⟨by kernel_rfl, fun w => by go_simp⟩)) hS ?_
      refine wpAnyH_take (i := 20) (v := .bool true) rfl (by kernel_rfl) (by kernel_rfl) (by kernel_rfl) (fun _ _ _ h => h) (Yields.yieldsIf (Or.inl ⟨by kernel_rfl, fun w => by go_simp⟩)) hS ?_
      refine wpAnyH_take (i := 21) (v := .bool true) rfl (by kernel_rfl) (by kernel_rfl) (by kernel_rfl) (fun _ _ _ h => h) (Yields.yieldsIf (Or.inl ⟨by kernel_rfl, fun w => by go_simp⟩)) hS ?_
      refine wpAnyH_take (i := 22) (v := .bool true) rfl (by kernel_rfl) (by kernel_rfl) (by kernel_rfl) (fun _ _ _ h => h) (Yields.yieldsIf (Or.inl ⟨by kernel_rfl, fun w => by go_simp⟩)) hS ?_
      refine wpAnyH_take (i := 23) (v := .slice (some ⟨ba, oa, none⟩) L.length rcO) rfl (by kernel_rfl) (by kernel_rfl) (by kernel_rfl) (fun _ _ _ h => h) (Yields.yieldsIf (Or.inl ⟨by kernel_rfl, fun w => by go_simp⟩)) hS ?_
      refine wpAnyH_take (i := 24) (v := .slice (some ⟨ba, oa, none⟩) L.length rcO) rfl (by kernel_rfl) (by kernel_rfl) (by kernel_rfl) (fun _ _ _ h => h) (Yields.yieldsIf (Or.inl ⟨by kernel_rfl, fun w => by go_simp⟩)) hS ?_
      refine wpAnyH_take (i := 25) (v := .int .i64 (L.length : Nat)) rfl (by kernel_rfl) (by kernel_rfl) (by kernel_rfl) (fun _ _ _ h => h) (Yields.yieldsIf (Or.inl ⟨by kernel_rfl, fun w => by go_simp⟩)) hS ?_
      refine wpAnyH_take (i := 26) (v := .int .i64 (rb : Nat)) rfl (by kernel_rfl) (by kernel_rfl) (by kernel_rfl) (fun _ _ _ h => h) (Yields.yieldsIf (Or.inl ⟨by kernel_rfl, fun w => by go_simp⟩)) hS ?_
      refine wpAnyH_take (i := 27) (v := .pointer (some ⟨ba, oa + rb, none⟩)) rfl (by kernel_rfl) (by kernel_rfl) (by kernel_rfl) (fun _ _ _ h => h) (Yields.yieldsIf (Or.inl ⟨by kernel_rfl, fun w => by go_simp⟩)) hS ?_
      refine wpAnyH_take (i := 28) (v := .int .i64 ((c0.toNat : Int) - 97)) rfl (by kernel_rfl) (by kernel_rfl) (by kernel_rfl) (fun _ _ _ h => h) (yieldsIf_ld (by kernel_rfl) 3 _ rfl _ (fun w' hw => by have hc := KZ.out w' hw.1; go_simp)) hS ?_
      refine wpAnyH_take (i := 29) (v := .slice (some ⟨b0, o0, none⟩) lP.length rcP) rfl (by kernel_rfl) (by kernel_rfl) (by kernel_rfl) (fun _ _ _ h => h) (Yields.yieldsIf (Or.inl ⟨by kernel_rfl, fun w => by go_simp⟩)) hS ?_
      refine wpAnyH_take (i := 30) (v := .pointer (some ⟨b0, o0, none⟩)) rfl (by kernel_rfl) (by kernel_rfl) (by kernel_rfl) (fun _ _ _ h => h) (Yields.yieldsIf (Or.inl ⟨by kernel_rfl, fun w => by go_simp⟩)) hS ?_
      refine wpAnyH_take (i := 31) (v := .string s0) rfl (by kernel_rfl) (by kernel_rfl) (by kernel_rfl) (fun _ _ _ h => h) (yieldsIf_ld (by kernel_rfl) 9 _ rfl _ (fun w' hw => by have hc := KQ.out w' hw.2; go_simp)) hS ?_
      refine wpAnyH_take (i := 32) (v := .int .i64 (s0.size : Nat)) rfl (by kernel_rfl) (by kernel_rfl) (by kernel_rfl) (fun _ _ _ h => h) (Yields.yieldsIf (Or.inl ⟨by kernel_rfl, fun w => by go_simp⟩)) hS ?_
      refine wpAnyH_take (i := 33) (v := .int .i64 (m1 : Nat)) rfl (by kernel_rfl) (by kernel_rfl) (by kernel_rfl) (fun _ _ _ h => h) (Yields.yieldsIf (Or.inl ⟨by kernel_rfl, fun w => by go_simp⟩)) hS ?_
      refine wpAnyH_take (i := 34) (v := .int .u8 (c0.toNat : Nat)) rfl (by kernel_rfl) (by kernel_rfl) (by kernel_rfl) (fun _ _ _ h => h) (Yields.yieldsIf (Or.inl ⟨by kernel_rfl, fun w => by go_simp⟩)) hS ?_
      refine wpAnyH_take (i := 35) (v := .int .i64 (c0.toNat : Nat)) rfl (by kernel_rfl) (by kernel_rfl) (by kernel_rfl) (fun _ _ _ h => h) (Yields.yieldsIf (Or.inl ⟨by kernel_rfl, fun w => by go_simp⟩)) hS ?_
      refine wpAnyH_take (i := 36) (v := .int .i64 ((c0.toNat : Int) - 97)) rfl (by kernel_rfl) (by kernel_rfl) (by kernel_rfl) (fun _ _ _ h => h) (Yields.yieldsIf (Or.inl ⟨by kernel_rfl, fun w => by go_simp⟩)) hS ?_
      refine wpAnyH_take (i := 37) (v := .bool true) rfl (by kernel_rfl) (by kernel_rfl) (by kernel_rfl) (fun _ _ _ h => h) (Yields.yieldsIf (Or.inl ⟨by kernel_rfl, fun w => by go_simp⟩)) hS ?_
      refine wpAnyH_take (i := 38) (v := .bool true) rfl (by kernel_rfl) (by kernel_rfl) (by kernel_rfl) (fun _ _ _ h => h) (Yields.yieldsIf (Or.inl ⟨by kernel_rfl, fun w => by go_simp⟩)) hS ?_
      refine wpAnyH_take (i := 39) (v := .bool true) rfl (by kernel_rfl) (by kernel_rfl) (by kernel_rfl) (fun _ _ _ h => h) (Yields.yieldsIf (Or.inl ⟨by kernel_rfl, fun w => by go_simp⟩)) hS ?_
      refine wpAnyH_done (by kernel_rfl) ?_ _
      simp only [List.getElem_toArray, List.getElem_cons_succ, List.getElem_cons_zero, Act.put, List.setIfInBounds_toArray, List.set_cons_succ, List.set_cons_zero]
      go_wp2
      go_ret
      exact ⟨rfl, hB⟩
  · have hdC : decide (1048576 < (lC.length : Int)) = true := by rw [decide_eq_true_eq]; omega
    go_enter Try.func8, Try.ntmps8
    go_wp2
    go_ret
    exact ⟨rfl, Below.refl _ _⟩

set_option maxRecDepth 100000 in
theorem fnSecond_lifted (os : Os) (started : os.Started) (H : Type) (enc : TypeId × Value → H) :
    ReturnsInHanded {} Try.checked os 8 .any (Rows.fnSecondSpec.pre6 enc Try.prog Try.f8 Rows.fnSecondRow.domain false) (Rows.fnSecondSpec.post enc Try.prog Try.f8 false true false false) := by
  refine returnsInHanded_of_change (C := Try.checked) Try.own started (by kernel_rfl) Try.func8
    (ChangeSpec.witness6 (enc := enc) (C := Try.checked) false ⟨#[], #[.slice none 0 0], []⟩ 8 (by kernel_rfl) (by kernel_rfl) (by kernel_rfl) (by kernel_rfl)) ?_
  intro W base args ds gs before hval0 hW _ _
  have hval : ∀ (j : Nat) t v, Try.f8.params[j]? = some t → args[j]? = some v → Value.okWide Try.prog W .any base t v := hval0
  have hW' := hW
  obtain ⟨p, q, hA0, hV, rfl, _, _⟩ := hW
  have hA : DataW.TrodAll enc Try.prog W 0 (fun _ => true) true Try.f8.params.toList args.toList ds p := hA0
  rw [Try.params8] at hA hval
  obtain ⟨v0, d0, rfl, rfl, h0⟩ := trodAll_one hA
  obtain ⟨rfl, rfl⟩ := trodVars_none hV
  obtain ⟨aC, eC, kC, rfl⟩ := okWide_slice Try.underlying22 (hval 0 22 v0 rfl rfl)
  clear hA0 hval0
  simp only [List.append_nil] at hW'
  have hlt0 : ∀ x ∈ p, x.block < W.heap.size := fun x hx => by simpa using hW'.lt x (by simp [hx])
  obtain ⟨lC, rfl, mC, zC, cC⟩ := open_bytes h0
  refine (fnSecond_all aC kC lC W mC zC cC).mono fun e W' ⟨he, hb⟩ => ?_
  subst he
  refine ⟨_, rfl, _, _, _, [], _, [], hW', trodAll_mk1 (shut_bool Try.underlying4 _), trodAll_mk1 (Below.trod Try.laidOut (by kernel_rfl) (of_decide_eq_true (by kernel_rfl)) h0 hb hlt0), rfl, hb.frame _, fun h => by cases h⟩

theorem fnSecond_holds : Rows.FnSecondSaid :=
  OpenClaim.holds_of_wide 8 Try.f8 rfl rfl rfl rfl rfl rfl rfl ⟨rfl, rfl, rfl, rfl, rfl⟩ rfl rfl rfl rfl rfl (by kernel_rfl) Try.func8 (by kernel_rfl)
    (of_decide_eq_true (by kernel_rfl)) (by unfold Func.isWrapper; first | (rw [if_pos (by decide +kernel)]; kernel_rfl) | (rw [if_neg (by decide +kernel)]; exact ⟨rfl, rfl⟩))
    (fun os started H enc _ => fnSecond_lifted os started H enc)

end Go.Proofs.Ytcapagegeomebaa
