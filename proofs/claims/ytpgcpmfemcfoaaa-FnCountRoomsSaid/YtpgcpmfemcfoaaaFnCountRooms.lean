
/-
  For every slice of bytes the law FnCountRooms returns true, and the slice reads behind the call as it read before. No condition.
-/
import Derived.Test.YtpgcpmfemcfoaaaCtnM
import Derived.Test.YtpgcpmfemcfoaaaPick
import Derived.Test.YtpgcpmfemcfoaaaLawK
namespace Go.Proofs.Ytpgcpmfemcfoaaa
open Go.ChangeShapes Go.WideShapes Go.ChangeAt Go.RowKit

set_option maxRecDepth 100000 in
set_option maxHeartbeats 4000000 in
theorem fnCountRooms_all (aC : Option Addr) (kC : Nat) (lC : List UInt8) (w : World) (mC : lC.length ≤ maxLen) (zC : lC.length ≤ kC) (cC : CellsAt w aC (lC.map byteV)) :
    Calls Try.prog 4 #[.slice aC lC.length kC] w fun e w' => e = .returned (.bool true) ∧ Below w.heap.size w w' := by
  have mC2 := mC
  clear mC2
  by_cases dC : lC.length ≤ 1048576
  · have hdC : decide (1048576 < (lC.length : Int)) = false := by rw [decide_eq_false_iff_not]; omega
    go_enter Try.func4, Try.ntmps4
    go_wp2_with fail
    refine (drawCountRooms_any _ _ _ _ zC dC cC).mono ?_
    rintro e w1 ⟨nX, nY, rfl, hd, hb⟩
    have hB := hb
    clear hb
    cases hp : frOk nX nY
    · -- no such size
      have HI := Lib.hid (fun w => implCountRooms_any nX nY w)
      have HS := Lib.hid (fun w => specCountRooms_any nX nY w)
      rw [hp, ctR_no hp] at HI HS
      clear hp
      go_wp2_with fail
      refine (HI.out _).mono ?_
      rintro e w2 ⟨⟨roO, rcO, rfl, ow⟩, hb⟩
      replace hB := below_step hB hB.size hb
      clear hb
      have c_O := owns_cells ow
      clear ow
      go_wp2_with fail
      refine (HS.out _).mono ?_
      rintro e w3 ⟨⟨roW, rcW, rfl, ow⟩, hb⟩
      replace c_O := c_O.below hb
      replace hB := below_step hB hB.size hb
      clear hb
      have c_W := owns_cells ow
      clear ow
      go_wp2_with fail
      refine (sameInts_any _ _ _ _ _ _ [] [] _ rfl rfl (by exact Nat.zero_le _) c_O c_W).mono ?_
      rw [eqI_self]
      rintro e w4 ⟨rfl, hq⟩
      have hb := quiet_below hq
      clear hq
      replace c_O := c_O.below hb
      replace c_W := c_W.below hb
      replace hB := below_step hB hB.size hb
      clear hb
      go_wp2_with fail
      refine (sameInts_any _ _ _ _ _ _ [] [] _ rfl rfl (by exact Nat.zero_le _) c_O c_W).mono ?_
      rw [eqI_self]
      rintro e w5 ⟨rfl, hq⟩
      have hb := quiet_below hq
      clear hq
      replace c_O := c_O.below hb
      replace c_W := c_W.below hb
      replace hB := below_step hB hB.size hb
      clear hb
      go_wp2
      go_ret
      exact ⟨rfl, hB⟩
    · -- a size
      obtain ⟨a, b, rfl, rfl, a1, a6, b1, b6, h9⟩ := frOk_dims hp
      have HI := Lib.hid (fun w => implCountRooms_any (a : Int) (b : Int) w)
      have HS := Lib.hid (fun w => specCountRooms_any (a : Int) (b : Int) w)
      rw [(ctR_yes a1 a6 b1 b6 h9).1, hp] at HI HS
      clear hp hd
      have hm36 : a * b ≤ 36 := by omega
      have hmc : ((a * b : Nat) : Int) = (a : Int) * (b : Int) := Int.natCast_mul _ _
      have h9r : b * a ≤ 9 := by rw [Nat.mul_comm]; exact h9
      have H2 := Lib.hid (fun w => implCountRooms_any (b : Int) (a : Int) w)
      obtain ⟨q1, q2, q3, q4⟩ := roomsCount_math a1 a6 b1 b6 h9
      rw [(ctR_yes b1 b6 a1 a6 h9r).1, (frOk_of b1 b6 a1 a6 h9r).1, q1] at H2
      have HLN := Lib.hid (show (intsL (cntL (fun _ => true) a b)).length = a * b + 1 by rw [intsL_len, cntL_len])
      have HZ0 := Lib.hid (show (intsL (cntL (fun _ => true) a b)).getD 0 0 = 0 by rw [ints_atC _ (by rw [cntL_len]; omega), q2]; rfl)
      have HZ1 := Lib.hid (show (intsL (cntL (fun _ => true) a b)).getD 1 0 = 1 by rw [ints_atC _ (by rw [cntL_len]; have := Nat.mul_le_mul a1 b1; omega), q3]; rfl)
      have HZ2 := Lib.hid (show (intsL (cntL (fun _ => true) a b)).getD (a * b) 0 = 1 by rw [ints_atC _ (by rw [cntL_len]; omega), q4]; rfl)
      have hab : 1 ≤ a * b := Nat.mul_le_mul a1 b1
      generalize intsL (cntL (fun _ => true) a b) = L at *
      clear q1 q2 q3 q4 h9r
      have HMC := Lib.hid hmc
      clear hmc
      go_wp2_with fail
      refine (HI.out _).mono ?_
      rintro e w6 ⟨⟨roO, rcO, rfl, ow⟩, hb⟩
      replace hB := below_step hB hB.size hb
      clear hb
      have c_O := owns_cells ow
      clear ow
      go_wp2_with fail
      refine (HS.out _).mono ?_
      rintro e w7 ⟨⟨roW, rcW, rfl, ow⟩, hb⟩
      replace c_O := c_O.below hb
      replace hB := below_step hB hB.size hb
      clear hb
      have c_W := owns_cells ow
      clear ow
      go_wp2_with fail
      refine (sameInts_any _ _ _ _ _ _ L L _ rfl rfl (by have := HLN.out; unfold maxLen; omega) c_O c_W).mono ?_
      rw [eqI_self]
      rintro e w8 ⟨rfl, hq⟩
      have hb := quiet_below hq
      clear hq
      replace c_O := c_O.below hb
      replace c_W := c_W.below hb
      replace hB := below_step hB hB.size hb
      clear hb
      go_wp2_with fail
      refine (H2.out _).mono ?_
      rintro e w9 ⟨⟨roX, rcX, rfl, ow⟩, hb⟩
      replace c_O := c_O.below hb
      replace c_W := c_W.below hb
      replace hB := below_step hB hB.size hb
      clear hb
      have c_X := owns_cells ow
      clear ow
      go_wp2_with fail
      refine (sameInts_any _ _ _ _ _ _ L L _ rfl rfl (by have := HLN.out; unfold maxLen; omega) c_X c_O).mono ?_
      rw [eqI_self]
      rintro e w10 ⟨rfl, hq⟩
      have hb := quiet_below hq
      clear hq
      replace c_O := c_O.below hb
      replace c_W := c_W.below hb
      replace c_X := c_X.below hb
      replace hB := below_step hB hB.size hb
      clear hb
      obtain ⟨bo, oo, rfl, k0⟩ := c_O.int 0 (by rw [HLN.out]; omega)
      obtain ⟨bo1, oo1, e1, k1⟩ := c_O.int 1 (by rw [HLN.out]; omega)
      cases e1
      obtain ⟨bo2, oo2, e2, k2⟩ := c_O.int (a * b) (by rw [HLN.out]; omega)
      cases e2
      rw [HZ0.out, Nat.add_zero] at k0
      rw [HZ1.out] at k1
      rw [HZ2.out] at k2
      have i0 : (0 : Int) < (L.length : Int) := by rw [HLN.out]; omega
      have i1 : (1 : Int) < (L.length : Int) := by rw [HLN.out]; omega
      have i2 : (a : Int) * (b : Int) < (L.length : Int) := by rw [HLN.out, ← HMC.out]; omega
      have i3 : ((L.length : Int) == (a : Int) * (b : Int) + 1) = true := by rw [beq_iff_eq, HLN.out, ← HMC.out]; rfl
      clear c_O c_W c_X
      go_wp2
      go_ret
      exact ⟨rfl, hB⟩
  · have hdC : decide (1048576 < (lC.length : Int)) = true := by rw [decide_eq_true_eq]; omega
    go_enter Try.func4, Try.ntmps4
    go_wp2
    go_ret
    exact ⟨rfl, Below.refl _ _⟩

set_option maxRecDepth 100000 in
theorem fnCountRooms_lifted (os : Os) (started : os.Started) (H : Type) (enc : TypeId × Value → H) :
    ReturnsInHanded {} Try.checked os 4 .any (Rows.fnCountRoomsSpec.pre6 enc Try.prog Try.f4 Rows.fnCountRoomsRow.domain false) (Rows.fnCountRoomsSpec.post enc Try.prog Try.f4 false true false false) := by
  refine returnsInHanded_of_change (C := Try.checked) Try.own started (by kernel_rfl) Try.func4
    (ChangeSpec.witness6 (enc := enc) (C := Try.checked) false ⟨#[], #[.slice none 0 0], []⟩ 8 (by kernel_rfl) (by kernel_rfl) (by kernel_rfl) (by kernel_rfl)) ?_
  intro W base args ds gs before hval0 hW _ _
  have hval : ∀ (j : Nat) t v, Try.f4.params[j]? = some t → args[j]? = some v → Value.okWide Try.prog W .any base t v := hval0
  have hW' := hW
  obtain ⟨p, q, hA0, hV, rfl, _, _⟩ := hW
  have hA : DataW.TrodAll enc Try.prog W 0 (fun _ => true) true Try.f4.params.toList args.toList ds p := hA0
  rw [Try.params4] at hA hval
  obtain ⟨v0, d0, rfl, rfl, h0⟩ := trodAll_one hA
  obtain ⟨rfl, rfl⟩ := trodVars_none hV
  obtain ⟨aC, eC, kC, rfl⟩ := okWide_slice Try.underlying22 (hval 0 22 v0 rfl rfl)
  clear hA0 hval0
  simp only [List.append_nil] at hW'
  have hlt0 : ∀ x ∈ p, x.block < W.heap.size := fun x hx => by simpa using hW'.lt x (by simp [hx])
  obtain ⟨lC, rfl, mC, zC, cC⟩ := open_bytes h0
  refine (fnCountRooms_all aC kC lC W mC zC cC).mono fun e W' ⟨he, hb⟩ => ?_
  subst he
  refine ⟨_, rfl, _, _, _, [], _, [], hW', trodAll_mk1 (shut_bool Try.underlying4 _), trodAll_mk1 (Below.trod Try.laidOut (by kernel_rfl) (of_decide_eq_true (by kernel_rfl)) h0 hb hlt0), rfl, hb.frame _, fun h => by cases h⟩

theorem fnCountRooms_holds : Rows.FnCountRoomsSaid :=
  OpenClaim.holds_of_wide 4 Try.f4 rfl rfl rfl rfl rfl rfl rfl ⟨rfl, rfl, rfl, rfl, rfl⟩ rfl rfl rfl rfl rfl (by kernel_rfl) Try.func4 (by kernel_rfl)
    (of_decide_eq_true (by kernel_rfl)) (by unfold Func.isWrapper; first | (rw [if_pos (by decide +kernel)]; kernel_rfl) | (rw [if_neg (by decide +kernel)]; exact ⟨rfl, rfl⟩))
    (fun os started H enc _ => fnCountRooms_lifted os started H enc)

end Go.Proofs.Ytpgcpmfemcfoaaa
