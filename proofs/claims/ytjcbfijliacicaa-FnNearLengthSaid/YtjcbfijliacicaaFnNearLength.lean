
/-
  For every slice of bytes the law FnNearLength returns true, and the slice reads behind the call as it read before. No condition.
-/
import Derived.Test.YtjcbfijliacicaaNearL
import Derived.Test.YtjcbfijliacicaaDrawN
import Derived.Test.YtjcbfijliacicaaRoomB
import Derived.Test.YtjcbfijliacicaaDraw
import Derived.Test.YtjcbfijliacicaaLaws
namespace Go.Proofs.Ytjcbfijliacicaa
open Go.ChangeShapes Go.WideShapes Go.ChangeAt Go.RowKit

/-- what the law of lengths asks of two rooms -/
theorem length_math {p : List ByteArray} {a b : Int} (h : nlenOk p a b = true) : ∃ (k m : Nat) (x y : Nat × Nat), a = (k : Int) ∧ b = (m : Int) ∧ k ≠ m ∧ (givenB p (k : Int) = true ∧ givenB p (m : Int) = true) ∧ (nlenN p (m : Int) (k : Int) = nlenN p (k : Int) (m : Int) ∧ nlenOk p (m : Int) (k : Int) = true) ∧
    (∃ r c : Nat, roomV p (k : Int) = ⟨(r : Nat), (c : Nat), (x.1 : Nat), (x.2 : Nat)⟩) ∧ (∃ r c : Nat, roomV p (m : Int) = ⟨(r : Nat), (c : Nat), (y.1 : Nat), (y.2 : Nat)⟩) ∧
    nlenN p (k : Int) (m : Int) ≤ max x.1 x.2 ∧ nlenN p (k : Int) (m : Int) ≤ max y.1 y.2 ∧ (x.1 ≤ 6 ∧ x.2 ≤ 6) ∧ (y.1 ≤ 6 ∧ y.2 ≤ 6) := by
  have h0 := h
  unfold nlenOk at h
  rw [Bool.and_eq_true, Bool.and_eq_true] at h
  obtain ⟨ga, gb, hne⟩ := h
  obtain ⟨k, x, rfl, hk, bx, vx, x1, x2⟩ := room_box ga
  obtain ⟨m, y, rfl, hm, yb, vy, y1, y2⟩ := room_box gb
  have hp : planB p = true := by rw [given_isRm, Bool.and_eq_true] at ga; exact ga.1
  have hkm : k ≠ m := fun e => by subst e; simp at hne
  have h2 : nlenOk p (m : Int) (k : Int) = true := by
    unfold nlenOk; rw [ga, gb]
    have : ((m : Int) == (k : Int)) = false := by rw [beq_eq_false_iff_ne]; omega
    rw [this]; rfl
  have e1 : nlenN p (k : Int) (m : Int) = besN p (k : Int) (m : Int) := by unfold nlenN; rw [h0]; rfl
  have e2 : nlenN p (m : Int) (k : Int) = besN p (m : Int) (k : Int) := by unfold nlenN; rw [h2]; rfl
  refine ⟨k, m, (x.high, x.wide), (y.high, y.wide), rfl, rfl, hkm, ⟨ga, gb⟩, ⟨by rw [e1, e2, besN_symm hp], h2⟩, ⟨x.row, x.col, vx⟩, ⟨y.row, y.col, vy⟩, ?_, ?_, ⟨x1, x2⟩, ⟨y1, y2⟩⟩
  · rw [e1]; exact besN_side hp hkm bx yb
  · rw [e1, besN_symm hp]; exact besN_side hp (Ne.symm hkm) yb bx

set_option maxRecDepth 100000 in
set_option maxHeartbeats 4000000 in
theorem fnNearLength_all (aC : Option Addr) (kC : Nat) (lC : List UInt8) (w : World) (mC : lC.length ≤ maxLen) (zC : lC.length ≤ kC) (cC : CellsAt w aC (lC.map byteV)) :
    Calls Try.prog 5 #[.slice aC lC.length kC] w fun e w' => e = .returned (.bool true) ∧ Below w.heap.size w w' := by
  have mC2 := mC
  clear mC2
  by_cases dC : lC.length ≤ 1048576
  · have hdC : decide (1048576 < (lC.length : Int)) = false := by rw [decide_eq_false_iff_not]; omega
    go_enter Try.func5, Try.ntmps5
    go_wp2_with fail
    refine (drawNearLength_any _ _ _ _ zC dC cC).mono ?_
    rintro e w1 ⟨⟨roP, rcP, lP, nA, nB, hsm, rfl, c_P⟩, hb⟩
    have hB := hb
    clear hb
    have LP : lP.length ≤ 1048576 := by have := hsm.2.1; omega
    have SP : ∀ s ∈ lP, s.size ≤ 1048576 := fun s h => by have := hsm.2.2 s h; omega
    cases hd : nlenOk lP nA nB
    · -- no two rooms
      have HI := Lib.hid (fun w c => implNearLength_any roP rcP lP nA nB w LP SP c)
      have HS := Lib.hid (fun w c => specNearLength_any roP rcP lP nA nB w LP SP c)
      rw [hd] at HI HS
      generalize nlenN lP nA nB = n at *
      go_wp2_with fail
      refine (HI.out _ c_P).mono ?_
      rintro e w2 ⟨rfl, hb⟩
      replace c_P := c_P.below hb
      replace hB := below_step hB hB.size hb
      clear hb
      go_wp2_with fail
      refine (HS.out _ c_P).mono ?_
      rintro e w3 ⟨rfl, hb⟩
      replace c_P := c_P.below hb
      replace hB := below_step hB hB.size hb
      clear hb
      go_wp2
      go_ret
      exact ⟨rfl, hB⟩
    · -- two rooms
      obtain ⟨a, b, x, y, rfl, rfl, hab, hok2, hlen2, ⟨xr, xc, hx⟩, ⟨yr, yc, hy⟩, hn1, hn2, x6, y6⟩ := length_math hd
      have HI := Lib.hid (fun w c => implNearLength_any roP rcP lP (a : Int) (b : Int) w LP SP c)
      have HS := Lib.hid (fun w c => specNearLength_any roP rcP lP (a : Int) (b : Int) w LP SP c)
      have HJ := Lib.hid (fun w c => implNearLength_any roP rcP lP (b : Int) (a : Int) w LP SP c)
      have HN := Lib.hid (fun w c => implNearIs_any roP rcP lP (a : Int) (b : Int) w LP SP c)
      have HA := Lib.hid (fun w c => implPlanRoom_any roP rcP lP (a : Int) w LP SP c)
      have HB := Lib.hid (fun w c => implPlanRoom_any roP rcP lP (b : Int) w LP SP c)
      obtain ⟨ga, gb⟩ := hok2
      have hN : nearIs lP (a : Int) (b : Int) = decide (0 < nlenN lP (a : Int) (b : Int)) := by rw [nearIs_len, hd]; rfl
      rw [hN] at HN
      rw [hd] at HI HS
      rw [hlen2.1, hlen2.2] at HJ
      rw [ga, hx] at HA
      rw [gb, hy] at HB
      clear hN hd ga gb hx hy hlen2 hab
      generalize nlenN lP (a : Int) (b : Int) = n at *
      have hz : decide ((0 : Int) < (n : Int)) = decide (0 < n) := by congr 1; rw [eq_iff_iff]; omega
      obtain ⟨x1, x2⟩ := x
      obtain ⟨y1, y2⟩ := y
      simp only at hn1 hn2 x6 y6 HA HB
      go_wp2_with fail
      refine (HI.out _ c_P).mono ?_
      rintro e w4 ⟨rfl, hb⟩
      replace c_P := c_P.below hb
      replace hB := below_step hB hB.size hb
      clear hb
      go_wp2_with fail
      refine (HS.out _ c_P).mono ?_
      rintro e w5 ⟨rfl, hb⟩
      replace c_P := c_P.below hb
      replace hB := below_step hB hB.size hb
      clear hb
      go_wp2_with fail
      refine (HJ.out _ c_P).mono ?_
      rintro e w6 ⟨rfl, hb⟩
      replace c_P := c_P.below hb
      replace hB := below_step hB hB.size hb
      clear hb
      go_wp2_with fail
      refine (HA.out _ c_P).mono ?_
      rintro e w7 ⟨rfl, hb⟩
      replace c_P := c_P.below hb
      replace hB := below_step hB hB.size hb
      clear hb
      go_wp2_with fail
      refine (HB.out _ c_P).mono ?_
      rintro e w8 ⟨rfl, hb⟩
      replace c_P := c_P.below hb
      replace hB := below_step hB hB.size hb
      clear hb
      rcases (show (x1 ≤ x2 ∧ n ≤ x2) ∨ (¬ x1 ≤ x2 ∧ n ≤ x1) by omega) with ⟨u1, u2⟩ | ⟨u1, u2⟩ <;> rcases (show (y1 ≤ y2 ∧ n ≤ y2) ∨ (¬ y1 ≤ y2 ∧ n ≤ y1) by omega) with ⟨v1, v2⟩ | ⟨v1, v2⟩ <;> clear hn1 hn2 x6 y6 <;> cases hn : decide (0 < n)
      · rw [hn] at HN hz
        go_wp2_with fail
        refine (HN.out _ c_P).mono ?_
        rintro e w9 ⟨rfl, hb⟩
        replace c_P := c_P.below hb
        replace hB := below_step hB hB.size hb
        clear hb
        go_wp2
        all_goals (go_ret; first | exact ⟨rfl, hB⟩ | exact ⟨ret_bool (decide_eq_true (by omega)), hB⟩)
      · rw [hn] at HN hz
        go_wp2_with fail
        refine (HN.out _ c_P).mono ?_
        rintro e w10 ⟨rfl, hb⟩
        replace c_P := c_P.below hb
        replace hB := below_step hB hB.size hb
        clear hb
        go_wp2
        all_goals (go_ret; first | exact ⟨rfl, hB⟩ | exact ⟨ret_bool (decide_eq_true (by omega)), hB⟩)
      · rw [hn] at HN hz
        go_wp2_with fail
        refine (HN.out _ c_P).mono ?_
        rintro e w11 ⟨rfl, hb⟩
        replace c_P := c_P.below hb
        replace hB := below_step hB hB.size hb
        clear hb
        go_wp2
        all_goals (go_ret; first | exact ⟨rfl, hB⟩ | exact ⟨ret_bool (decide_eq_true (by omega)), hB⟩)
      · rw [hn] at HN hz
        go_wp2_with fail
        refine (HN.out _ c_P).mono ?_
        rintro e w12 ⟨rfl, hb⟩
        replace c_P := c_P.below hb
        replace hB := below_step hB hB.size hb
        clear hb
        go_wp2
        all_goals (go_ret; first | exact ⟨rfl, hB⟩ | exact ⟨ret_bool (decide_eq_true (by omega)), hB⟩)
      · rw [hn] at HN hz
        go_wp2_with fail
        refine (HN.out _ c_P).mono ?_
        rintro e w13 ⟨rfl, hb⟩
        replace c_P := c_P.below hb
        replace hB := below_step hB hB.size hb
        clear hb
        go_wp2
        all_goals (go_ret; first | exact ⟨rfl, hB⟩ | exact ⟨ret_bool (decide_eq_true (by omega)), hB⟩)
      · rw [hn] at HN hz
        go_wp2_with fail
        refine (HN.out _ c_P).mono ?_
        rintro e w14 ⟨rfl, hb⟩
        replace c_P := c_P.below hb
        replace hB := below_step hB hB.size hb
        clear hb
        go_wp2
        all_goals (go_ret; first | exact ⟨rfl, hB⟩ | exact ⟨ret_bool (decide_eq_true (by omega)), hB⟩)
      · rw [hn] at HN hz
        go_wp2_with fail
        refine (HN.out _ c_P).mono ?_
        rintro e w15 ⟨rfl, hb⟩
        replace c_P := c_P.below hb
        replace hB := below_step hB hB.size hb
        clear hb
        go_wp2
        all_goals (go_ret; first | exact ⟨rfl, hB⟩ | exact ⟨ret_bool (decide_eq_true (by omega)), hB⟩)
      · rw [hn] at HN hz
        go_wp2_with fail
        refine (HN.out _ c_P).mono ?_
        rintro e w16 ⟨rfl, hb⟩
        replace c_P := c_P.below hb
        replace hB := below_step hB hB.size hb
        clear hb
        go_wp2
        all_goals (go_ret; first | exact ⟨rfl, hB⟩ | exact ⟨ret_bool (decide_eq_true (by omega)), hB⟩)
  · have hdC : decide (1048576 < (lC.length : Int)) = true := by rw [decide_eq_true_eq]; omega
    go_enter Try.func5, Try.ntmps5
    go_wp2
    go_ret
    exact ⟨rfl, Below.refl _ _⟩

set_option maxRecDepth 100000 in
theorem fnNearLength_lifted (os : Os) (started : os.Started) (H : Type) (enc : TypeId × Value → H) :
    ReturnsInHanded {} Try.checked os 5 .any (Rows.fnNearLengthSpec.pre6 enc Try.prog Try.f5 Rows.fnNearLengthRow.domain false) (Rows.fnNearLengthSpec.post enc Try.prog Try.f5 false true false false) := by
  refine returnsInHanded_of_change (C := Try.checked) Try.own started (by kernel_rfl) Try.func5
    (ChangeSpec.witness6 (enc := enc) (C := Try.checked) false ⟨#[], #[.slice none 0 0], []⟩ 8 (by kernel_rfl) (by kernel_rfl) (by kernel_rfl) (by kernel_rfl)) ?_
  intro W base args ds gs before hval0 hW _ _
  have hval : ∀ (j : Nat) t v, Try.f5.params[j]? = some t → args[j]? = some v → Value.okWide Try.prog W .any base t v := hval0
  have hW' := hW
  obtain ⟨p, q, hA0, hV, rfl, _, _⟩ := hW
  have hA : DataW.TrodAll enc Try.prog W 0 (fun _ => true) true Try.f5.params.toList args.toList ds p := hA0
  rw [Try.params5] at hA hval
  obtain ⟨v0, d0, rfl, rfl, h0⟩ := trodAll_one hA
  obtain ⟨rfl, rfl⟩ := trodVars_none hV
  obtain ⟨aC, eC, kC, rfl⟩ := okWide_slice Try.underlying22 (hval 0 22 v0 rfl rfl)
  clear hA0 hval0
  simp only [List.append_nil] at hW'
  have hlt0 : ∀ x ∈ p, x.block < W.heap.size := fun x hx => by simpa using hW'.lt x (by simp [hx])
  obtain ⟨lC, rfl, mC, zC, cC⟩ := open_bytes h0
  refine (fnNearLength_all aC kC lC W mC zC cC).mono fun e W' ⟨he, hb⟩ => ?_
  subst he
  refine ⟨_, rfl, _, _, _, [], _, [], hW', trodAll_mk1 (shut_bool Try.underlying4 _), trodAll_mk1 (Below.trod Try.laidOut (by kernel_rfl) (of_decide_eq_true (by kernel_rfl)) h0 hb hlt0), rfl, hb.frame _, fun h => by cases h⟩

theorem fnNearLength_holds : Rows.FnNearLengthSaid :=
  OpenClaim.holds_of_wide 5 Try.f5 rfl rfl rfl rfl rfl rfl rfl ⟨rfl, rfl, rfl, rfl, rfl⟩ rfl rfl rfl rfl rfl (by kernel_rfl) Try.func5 (by kernel_rfl)
    (of_decide_eq_true (by kernel_rfl)) (by unfold Func.isWrapper; first | (rw [if_pos (by decide +kernel)]; kernel_rfl) | (rw [if_neg (by decide +kernel)]; exact ⟨rfl, rfl⟩))
    (fun os started H enc _ => fnNearLength_lifted os started H enc)

end Go.Proofs.Ytjcbfijliacicaa
