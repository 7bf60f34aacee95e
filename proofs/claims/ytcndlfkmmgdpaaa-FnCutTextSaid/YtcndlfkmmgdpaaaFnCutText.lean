
/-
  For every slice of bytes the law FnCutText returns true, and the slice reads behind the call as it read before. No condition.
-/
import Derived.Test.YtcndlfkmmgdpaaaGuiT
import Derived.Test.YtcndlfkmmgdpaaaRoomsA
import Derived.Test.YtcndlfkmmgdpaaaDrawW
import Derived.Test.YtcndlfkmmgdpaaaDraw
import Derived.Test.YtcndlfkmmgdpaaaLaws
namespace Go.Proofs.Ytcndlfkmmgdpaaa
open Go.ChangeShapes Go.WideShapes Go.ChangeAt Go.RowKit

/-- letters of cuts -/
def vhB (x : UInt8) : Bool := decide (x.toNat = 118) || decide (x.toNat = 104)
def vhN (l : List UInt8) : Nat := (l.filter vhB).length
theorem vhN_le (l : List UInt8) : vhN l ≤ l.length := List.length_filter_le _ _
theorem vhN_app (a b : List UInt8) : vhN (a ++ b) = vhN a + vhN b := by simp [vhN]
theorem vhN_step {l : List UInt8} {i : Nat} (hi : i < l.length) : vhN (l.take (i + 1)) = vhN (l.take i) + if vhB (l.getD i 0) = true then 1 else 0 := by
  rw [take_succ_getD l i 0 hi, vhN_app]
  congr 1
  unfold vhN
  rw [List.filter_cons]
  split <;> rfl
theorem data_app (x y : ByteArray) : (x ++ y).data.toList = x.data.toList ++ y.data.toList := by simp
theorem room_not_vh : ∀ a, a < 9 → vhB (UInt8.ofNat (65 + a)) = false := by decide
theorem tree_count {h wd : Nat} {g : Nat → Nat → Nat} {r : Nat} {bx : Nat → Bx} (B : Boxy h wd g r bx) : ∀ (n : Nat) (R : Rc) (t : Tr), R.Clo g h wd → R.h + R.w ≤ n → R.tree g n = some t → (textT t).size + 1 = 2 * (R.rooms g r).length ∧ vhN (textT t).data.toList + 1 = (R.rooms g r).length
  | 0, _, _, _, _, h => by cases h
  | n + 1, R, t, C, hn, htr => by
    cases h1 : R.one g
    · cases hcc : (R.cuts g).head? with
      | none => rw [Rc.tree_no h1 hcc] at htr; cases htr
      | some c =>
        rw [Rc.tree_join h1 hcc] at htr
        obtain ⟨x, y, ex, ey, rfl⟩ := joinT_some htr
        have hm := Rc.cuts_mem (head_cut hcc)
        have f1 := Rc.fit_left C.fit hm.2.1; have f2 := Rc.fit_right C.fit hm.2.1
        have i1 := tree_count B n _ x (C.left B.rect hm.2.1 hm.2.2) (by omega) ex
        have i2 := tree_count B n _ y (C.right B.rect hm.2.1 hm.2.2) (by omega) ey
        have ha := B.rooms_add C hm.2.1 hm.2.2
        have e : textT (Tr.cut c.1 c.2 x y) = letterW c.1 ++ textT x ++ textT y := rfl
        have hl : (letterW c.1).size = 1 ∧ vhN (letterW c.1).data.toList = 1 := by unfold letterW; split <;> exact ⟨rfl, rfl⟩
        rw [e, size_app, size_app, data_app, data_app, vhN_app, vhN_app]
        constructor <;> omega
    · rw [Rc.tree_one h1] at htr
      cases htr
      have hone := B.one_len C
      rw [h1] at hone
      have hlen := of_decide_eq_true hone.symm
      have hlt := B.lt R.r0 R.c0 (by have := C.fit.h1; have := C.fit.hh; omega) (by have := C.fit.w1; have := C.fit.hw; omega)
      have h9 := B.few
      rw [hlen]
      refine ⟨rfl, ?_⟩
      show vhN [UInt8.ofNat (65 + g R.r0 R.c0)] + 1 = 1
      unfold vhN
      rw [List.filter_cons, if_neg (by rw [room_not_vh _ (by omega)]; decide)]
      rfl
theorem cutText_math {p : List ByteArray} {t : Tr} (hT : treeP p = some t) : planB p = true ∧ gridR p ≤ 9 ∧ 1 ≤ gridR p ∧ (textT t).size + 1 = 2 * gridR p ∧ vhN (textT t).data.toList + 1 = gridR p := by
  have h : planB p = true := by
    cases hp : planB p
    · rw [treeP_no hp] at hT; cases hT
    · rfl
  rw [treeP_yes h] at hT
  have hc := tree_count (boxy_of (planP_of h)) 12 (allR p) t (allR_clo h) (allR_fit h).2 hT
  rw [allR_rooms h, List.length_range] at hc
  exact ⟨h, (planP_of h).few, by omega, hc.1, hc.2⟩

set_option maxRecDepth 100000 in
set_option maxHeartbeats 4000000 in
theorem fnCutText_all (aC : Option Addr) (kC : Nat) (lC : List UInt8) (w : World) (mC : lC.length ≤ maxLen) (zC : lC.length ≤ kC) (cC : CellsAt w aC (lC.map byteV)) :
    Calls Try.prog 4 #[.slice aC lC.length kC] w fun e w' => e = .returned (.bool true) ∧ Below w.heap.size w w' := by
  have mC2 := mC
  clear mC2
  by_cases dC : lC.length ≤ 1048576
  · have hdC : decide (1048576 < (lC.length : Int)) = false := by rw [decide_eq_false_iff_not]; omega
    go_enter Try.func4, Try.ntmps4
    go_wp2_with fail
    refine (drawCutText_any _ _ _ _ zC dC cC).mono ?_
    rintro e w1 ⟨⟨roP, rcP, lP, hsm, rfl, c_P⟩, hb⟩
    have hB := hb
    clear hb
    have LP : lP.length ≤ 1048576 := by have := hsm.2.1; omega
    have SP : ∀ s ∈ lP, s.size ≤ 1048576 := fun s h => by have := hsm.2.2 s h; omega
    have HI := Lib.hid (fun w c => implCutText_any roP rcP lP w LP SP c)
    have HS := Lib.hid (fun w c => specCutText_any roP rcP lP w LP SP c)
    cases hT : treeP lP with
    | none =>
      rw [hT] at HI HS
      change Hid (∀ w _, Calls _ _ _ w fun e w' => e = .returned (.tuple #[_, .bool false]) ∧ _) at HI
      change Hid (∀ w _, Calls _ _ _ w fun e w' => e = .returned (.tuple #[_, .bool false]) ∧ _) at HS
      generalize textP lP = s at *
      go_wp2_with fail
      refine (HI.out _ c_P).mono ?_
      rintro e w2 ⟨rfl, hb⟩
      replace c_P := c_P.below hb
      replace hB := below_step hB hB.size hb
      clear hb
      go_wp2_with fail
      refine (HS.out _ c_P).mono ?_
      rintro e w3 ⟨rfl, hb⟩
      replace c_P := c_P.below hb
      replace hB := below_step hB hB.size hb
      clear hb
      go_wp2
      go_ret
      exact ⟨rfl, hB⟩
    | some t =>
      have HR := Lib.hid (fun w c => implPlanRooms_any roP rcP lP w LP SP c)
      obtain ⟨hP, hr9, hr1, hsz, hcn⟩ := cutText_math hT
      rw [hT] at HI HS
      rw [hP, roomsOr_yes hP, (planP_of hP).rooms] at HR
      have htx : textP lP = textT t := by unfold textP; rw [hT]
      rw [htx] at HI HS
      change Hid (∀ w _, Calls _ _ _ w fun e w' => e = .returned (.tuple #[_, .bool true]) ∧ _) at HI
      change Hid (∀ w _, Calls _ _ _ w fun e w' => e = .returned (.tuple #[_, .bool true]) ∧ _) at HS
      clear htx hT hP hsm LP SP
      generalize textT t = s at *
      generalize gridR lP = R at *
      have HAT := Lib.hid (at_list s)
      have HLS := Lib.hid (size_list s)
      have HCN := Lib.hid hcn
      clear hcn
      have g1 : ((s.size : Int) == 2 * (R : Int) - 1) = true := by rw [beq_iff_eq]; omega
      have hs20 : s.size ≤ 20 := by omega
      go_wp2_with fail
      refine (HI.out _ c_P).mono ?_
      rintro e w4 ⟨rfl, hb⟩
      replace c_P := c_P.below hb
      replace hB := below_step hB hB.size hb
      clear hb
      go_wp2_with fail
      refine (HS.out _ c_P).mono ?_
      rintro e w5 ⟨rfl, hb⟩
      replace c_P := c_P.below hb
      replace hB := below_step hB hB.size hb
      clear hb
      go_wp2_with fail
      refine (HR.out _ c_P).mono ?_
      rintro e w6 ⟨rfl, hb⟩
      replace c_P := c_P.below hb
      replace hB := below_step hB hB.size hb
      clear hb
      go_wp2
      go_loopw [10, 11] (fun vc vi wr => ∃ i : Nat, i ≤ s.size ∧ vi = .int .i64 (i : Int) ∧ vc = .int .i64 ((vhN (s.data.toList.take i) : Nat) : Int) ∧ Below w.heap.size w wr) (fun _ vi _ => s.size - (intOf vi).toNat)
      case atStart => exact ⟨0, Nat.zero_le _, rfl, rfl, hB⟩
      case round =>
        clear hB
        obtain ⟨i, hi, rfl, rfl, hB⟩ := hrel
        have hci : vhN (s.data.toList.take i) ≤ 20 := Nat.le_trans (vhN_le _) (by rw [List.length_take, HLS.out]; omega)
        by_cases hlt : i < s.size
        · have hltI : (i : Int) < (s.size : Int) := by omega
          have hidx := HAT.out i hlt
          have hst := vhN_step (l := s.data.toList) (i := i) (by rw [HLS.out]; exact hlt)
          have HST := Lib.hid hst
          clear hst
          generalize hxx : s.data.toList.getD i 0 = x at *
          generalize hn0 : vhN (s.data.toList.take i) = n0 at *
          have HXX := Lib.hid hxx; have HN0 := Lib.hid hn0; clear hxx hn0
          by_cases h1 : x.toNat = 118
          · have h1I : ((x.toNat : Int) == 118) = true := by rw [beq_iff_eq]; omega
            have HV := Lib.hid (show vhB x = true by unfold vhB; rw [h1]; rfl)
            clear h1
            go_wp2
            go_roundw
            case rel => exact ⟨i + 1, by omega, by go_num, by rw [HST.out, if_pos (by rw [HV.out] : vhB x = true)]; go_num, hB⟩
            case measure => simp [intOf]; omega
          · have h1I : ((x.toNat : Int) == 118) = false := by rw [beq_eq_false_iff_ne]; omega
            by_cases h2 : x.toNat = 104
            · have h2I : ((x.toNat : Int) == 104) = true := by rw [beq_iff_eq]; omega
              have HV := Lib.hid (show vhB x = true by unfold vhB; rw [h2]; rfl)
              clear h1 h2
              go_wp2
              go_roundw
              case rel => exact ⟨i + 1, by omega, by go_num, by rw [HST.out, HV.out]; go_num, hB⟩
              case measure => simp [intOf]; omega
            · have h2I : ((x.toNat : Int) == 104) = false := by rw [beq_eq_false_iff_ne]; omega
              have HV := Lib.hid (show vhB x = false by unfold vhB; rw [decide_eq_false h1, decide_eq_false h2]; rfl)
              clear h1 h2
              go_wp2
              go_roundw
              case rel => exact ⟨i + 1, by omega, by go_num, by rw [HST.out, HV.out]; rfl, hB⟩
              case measure => simp [intOf]; omega
        · obtain rfl : i = s.size := by omega
          have hltI : ¬ (s.size : Int) < (s.size : Int) := by omega
          have hfull : s.data.toList.take s.size = s.data.toList := by rw [← HLS.out, List.take_length]
          rw [hfull] at *
          have hcn := HCN.out
          generalize vhN s.data.toList = cn at *
          have g2 : ((cn : Int) == (R : Int) - 1) = true := by rw [beq_iff_eq]; omega
          clear hsz hcn HCN hfull
          go_wp2
          go_ret
          exact ⟨rfl, hB⟩
  · have hdC : decide (1048576 < (lC.length : Int)) = true := by rw [decide_eq_true_eq]; omega
    go_enter Try.func4, Try.ntmps4
    go_wp2
    go_ret
    exact ⟨rfl, Below.refl _ _⟩

set_option maxRecDepth 100000 in
theorem fnCutText_lifted (os : Os) (started : os.Started) (H : Type) (enc : TypeId × Value → H) :
    ReturnsInHanded {} Try.checked os 4 .any (Rows.fnCutTextSpec.pre6 enc Try.prog Try.f4 Rows.fnCutTextRow.domain false) (Rows.fnCutTextSpec.post enc Try.prog Try.f4 false true false false) := by
  refine returnsInHanded_of_change (C := Try.checked) Try.own started (by kernel_rfl) Try.func4
    (ChangeSpec.witness6 (enc := enc) (C := Try.checked) false ⟨#[], #[.slice none 0 0], []⟩ 8 (by kernel_rfl) (by kernel_rfl) (by kernel_rfl) (by kernel_rfl)) ?_
  intro W base args ds gs before hval0 hW _ _
  have hval : ∀ (j : Nat) t v, Try.f4.params[j]? = some t → args[j]? = some v → Value.okWide Try.prog W .any base t v := hval0
  have hW' := hW
  obtain ⟨p, q, hA0, hV, rfl, _, _⟩ := hW
  have hA : DataW.TrodAll enc Try.prog W 0 (fun _ => true) true Try.f4.params.toList args.toList ds p := hA0
  rw [Try.params4] at hA hval
  obtain ⟨v0, d0, rfl, rfl, h0⟩ := trodAll_one hA
  obtain ⟨rfl, rfl⟩ := trodVars_none hV
  obtain ⟨aC, eC, kC, rfl⟩ := okWide_slice Try.underlying22 (hval 0 22 v0 rfl rfl)
  clear hA0 hval0
  simp only [List.append_nil] at hW'
  have hlt0 : ∀ x ∈ p, x.block < W.heap.size := fun x hx => by simpa using hW'.lt x (by simp [hx])
  obtain ⟨lC, rfl, mC, zC, cC⟩ := open_bytes h0
  refine (fnCutText_all aC kC lC W mC zC cC).mono fun e W' ⟨he, hb⟩ => ?_
  subst he
  refine ⟨_, rfl, _, _, _, [], _, [], hW', trodAll_mk1 (shut_bool Try.underlying4 _), trodAll_mk1 (Below.trod Try.laidOut (by kernel_rfl) (of_decide_eq_true (by kernel_rfl)) h0 hb hlt0), rfl, hb.frame _, fun h => by cases h⟩

theorem fnCutText_holds : Rows.FnCutTextSaid :=
  OpenClaim.holds_of_wide 4 Try.f4 rfl rfl rfl rfl rfl rfl rfl ⟨rfl, rfl, rfl, rfl, rfl⟩ rfl rfl rfl rfl rfl (by kernel_rfl) Try.func4 (by kernel_rfl)
    (of_decide_eq_true (by kernel_rfl)) (by unfold Func.isWrapper; first | (rw [if_pos (by decide +kernel)]; kernel_rfl) | (rw [if_neg (by decide +kernel)]; exact ⟨rfl, rfl⟩))
    (fun os started H enc _ => fnCutText_lifted os started H enc)

end Go.Proofs.Ytcndlfkmmgdpaaa
