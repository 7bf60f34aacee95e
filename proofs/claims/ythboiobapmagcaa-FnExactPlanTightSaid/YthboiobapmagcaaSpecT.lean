/-
  The model leaves out rows, and then columns. (Walks.)
-/
import Derived.Test.YthboiobapmagcaaTightM
namespace Go.Proofs.Ythboiobapmagcaa
open Go.RowKit

def onceT (p : List ByteArray) (i : Nat) : List ByteArray := (keepL (sameB p) i).map fun i => p.getD i ByteArray.empty
theorem onceT_len (p : List ByteArray) (i : Nat) : (onceT p i).length = (keepL (sameB p) i).length := by simp [onceT]
theorem onceT_yes {p : List ByteArray} {i : Nat} (h : (i == 0 || !sameB p i) = true) : (onceT p (i + 1)).map Value.string = (onceT p i).map Value.string ++ [.string (p.getD i ByteArray.empty)] := by
  unfold onceT; rw [keepL_yes h]; simp
theorem onceT_no {p : List ByteArray} {i : Nat} (h : (i == 0 || !sameB p i) = false) : onceT p (i + 1) = onceT p i := by
  unfold onceT; rw [keepL_no h]

set_option maxHeartbeats 1000000 in
theorem l1Once_any (ao : Option Addr) (cap n : Nat) (p : List ByteArray) (w : World) (hn : p.length = n) (hl : p.length ≤ 1000) (hc : CellsAt w ao (p.map Value.string)) :
    Calls Try.prog 98 #[.slice ao n cap] w
      fun e w' => ∃ ro rc, e = .returned (.slice ro (onceB p).length rc) ∧ w'.ownsRow w.heap.size 9 1 (.slice ro (onceB p).length rc) (onceB p).length ((onceB p).map Value.string) ∧ Below w.heap.size w w' := by
  subst hn
  obtain ⟨it, hti, htz, ht1, ht2⟩ := info_parts Try.infoText
  have HC := Lib.hid hc; clear hc
  go_enter Try.func98, Try.ntmps98
  go_wp2
  have hW1 := below_alloc w (.cells #[] 9)
  have hr1 : (w.alloc (.cells #[] 9)).ownsRow w.heap.size 9 1 (.slice (some ⟨w.heap.size, 0, none⟩) 0 0) 0 ((onceT p 0).map Value.string) := World.ownsRow_made w #[] 0 (Nat.le_refl _) (Nat.zero_le _) rfl
  go_loopw [3, 4] (fun vo vi wr => ∃ (i n : Nat) (ro : Option Addr) (rc : Nat), i ≤ p.length ∧ n = (keepL (sameB p) i).length ∧ vi = .int .i64 i ∧ vo = .slice ro n rc ∧ wr.ownsRow w.heap.size 9 1 (.slice ro n rc) n ((onceT p i).map Value.string) ∧ Below w.heap.size w wr) (fun _ vi _ => p.length - (intOf vi).toNat)
  case atStart => exact ⟨0, 0, _, _, Nat.zero_le _, rfl, rfl, rfl, hr1, hW1⟩
  case round =>
    clear hr1 hW1
    obtain ⟨i, n, ro, rc, hi, hn, rfl, rfl, hrow, hb⟩ := hrel
    by_cases hlt : i < p.length
    · have hbs := hb.size
      have hni : n ≤ i := by rw [hn]; exact keepL_le _ _
      obtain ⟨b, off, ha, hck⟩ := (HC.out.below hb).str i hlt
      subst ha
      have hb1' : n + 1 ≤ maxLen := by unfold maxLen; omega
      have hb2' : (n + 1) * 16 ≤ 140737488355328 := by omega
      cases hk : (i == 0 || !sameB p i)
      · have HNO := Lib.hid (onceT_no hk)
        have HKN := Lib.hid (keepL_no hk)
        rw [Bool.or_eq_false_iff] at hk
        have hi0 : 0 < i := by have := hk.1; simp at this; omega
        have hs : sameB p i = true := by simpa using hk.2
        have hse : p.getD i ByteArray.empty = p.getD (i - 1) ByteArray.empty := by unfold sameB at hs; exact of_decide_eq_true hs
        obtain ⟨b', off', ha', hck'⟩ := (HC.out.below hb).str (i - 1) (by omega)
        simp only [Option.some.injEq, Addr.mk.injEq, and_true] at ha'
        obtain ⟨rfl, rfl⟩ := ha'
        rw [← hse] at hck'
        obtain ⟨j, hj⟩ : ∃ j, i = j + 1 := ⟨i - 1, by omega⟩
        have HN := Lib.hid hn
        rw [show i - 1 = j by omega] at hck'
        have hjl : j < p.length := by omega
        have e1 : (i : Int) - 1 = (j : Int) := by omega
        have hd0 : ((i : Int) == 0) = false := beq_eq_false_iff_ne.2 (by omega)
        clear hk hs hse hn
        generalize p.getD i ByteArray.empty = s at *
        have HJ := Lib.hid hj; clear hj
        go_wp2
        go_quiet (fail)
        go_wp2
        go_roundw
        case rel => exact ⟨i + 1, n, ro, rc, by omega, by rw [HKN.out]; exact HN.out, by go_num, rfl, by rw [HNO.out]; exact (Quiet.drewN _ _).owns hrow, hb.trans (below_drewN _ _ _)⟩
        case measure => simp [intOf]; omega
      · have HYES := Lib.hid (onceT_yes (p := p) hk)
        have HKY := Lib.hid (keepL_yes hk)
        have HN := Lib.hid hn
        by_cases hi0 : i = 0
        · subst hi0
          clear hk hn
          generalize p.getD 0 ByteArray.empty = s at *
          go_wp2
          go_quiet (fail)
          obtain ⟨W1, hW1⟩ : ∃ W1, wr.drewN nq = W1 := ⟨_, rfl⟩
          have hrow2 := (Quiet.drewN wr nq).owns hrow
          have hb2 : Below w.heap.size w (wr.drewN nq) := hb.trans (below_drewN _ _ _)
          have hck2 : (wr.drewN nq).cell? ⟨b, off, none⟩ = some (.string s) := hck
          rw [hW1] at hrow2 hb2 hck2 ⊢
          clear hW1 hck hrow hb
          have hbs2 := hb2.size
          go_wp2_with (at_builtin; refine wpList_push _ rfl (.tmp 26) (.tmp 31) 22 rfl w.heap.size 9 it (.string ⟨#[]⟩) 16 Try.underlying22 hti htz ht1 ht2 rfl ro n rc _ rfl (hrow2.alloc _) _ _ _ rfl (cell_new _ _ _) rfl hb1' hb2' (by simp; omega) ?_; intro ro2 rc2 w2 hrow3 hg2 hnew2)
          go_roundw
          case rel => exact ⟨0 + 1, n + 1, ro2, rc2, by omega, by rw [HKY.out, List.length_append, ← HN.out]; rfl, by go_num, rfl, owns_eq hrow3 HYES.out.symm, below_push hb2 hbs2 hg2 (fun a ha => (owns_lt hrow2 a ha).1)⟩
          case measure => simp [intOf]; omega
        · rw [Bool.or_eq_true] at hk
          have hs : sameB p i = false := by
            rcases hk with h | h
            · simp at h; omega
            · simpa using h
          have hse : ¬ p.getD i ByteArray.empty = p.getD (i - 1) ByteArray.empty := by unfold sameB at hs; exact of_decide_eq_false hs
          obtain ⟨b', off', ha', hck'⟩ := (HC.out.below hb).str (i - 1) (by omega)
          simp only [Option.some.injEq, Addr.mk.injEq, and_true] at ha'
          obtain ⟨rfl, rfl⟩ := ha'
          obtain ⟨j, hj⟩ : ∃ j, i = j + 1 := ⟨i - 1, by omega⟩
          rw [show i - 1 = j by omega] at hck' hse
          have hjl : j < p.length := by omega
          have e1 : (i : Int) - 1 = (j : Int) := by omega
          have hd0 : ((i : Int) == 0) = false := beq_eq_false_iff_ne.2 (by omega)
          have hst : ((p.getD i ByteArray.empty).toList == (p.getD j ByteArray.empty).toList) = false := by
            rw [beq_eq_false_iff_ne]
            intro he
            rw [ByteArray.toList_eq, ByteArray.toList_eq] at he
            exact hse (bytes_ext he)
          clear hk hs hse hn
          generalize p.getD i ByteArray.empty = s at *
          generalize p.getD j ByteArray.empty = t at *
          have HJ := Lib.hid hj; clear hj
          go_wp2
          go_quiet (fail)
          obtain ⟨W1, hW1⟩ : ∃ W1, wr.drewN nq = W1 := ⟨_, rfl⟩
          have hrow2 := (Quiet.drewN wr nq).owns hrow
          have hb2 : Below w.heap.size w (wr.drewN nq) := hb.trans (below_drewN _ _ _)
          have hck2 : (wr.drewN nq).cell? ⟨b, off + i, none⟩ = some (.string s) := hck
          rw [hW1] at hrow2 hb2 hck2 ⊢
          clear hW1 hck hrow hb hck'
          have hbs2 := hb2.size
          go_wp2_with (at_builtin; refine wpList_push _ rfl (.tmp 26) (.tmp 31) 22 rfl w.heap.size 9 it (.string ⟨#[]⟩) 16 Try.underlying22 hti htz ht1 ht2 rfl ro n rc _ rfl (hrow2.alloc _) _ _ _ rfl (cell_new _ _ _) rfl hb1' hb2' (by simp; omega) ?_; intro ro2 rc2 w2 hrow3 hg2 hnew2)
          go_roundw
          case rel => exact ⟨i + 1, n + 1, ro2, rc2, by omega, by rw [HKY.out, List.length_append, ← HN.out]; rfl, by go_num, rfl, owns_eq hrow3 HYES.out.symm, below_push hb2 hbs2 hg2 (fun a ha => (owns_lt hrow2 a ha).1)⟩
          case measure => simp [intOf]; omega
    · obtain rfl : i = p.length := by omega
      go_wp2
      go_ret
      have e : (onceB p).length = n := by rw [onceB_len, hn]
      rw [e]
      exact ⟨_, _, rfl, hrow, hb⟩

theorem onceB_even {p : List ByteArray} (he : Even p) (h1 : 1 ≤ p.length) : Even (onceB p) ∧ wideB (onceB p) = wideB p := by
  have hpos := keepL_pos (sameB p) h1
  have hat : ∀ i, i < (onceB p).length → (onceB p).getD i ByteArray.empty = p.getD (nthK (sameB p) p.length i) ByteArray.empty := fun i hi => by
    rw [← onceB_at hi]; simp [hi]
  have h0 : 0 < (onceB p).length := by rw [onceB_len]; omega
  have hw : wideB (onceB p) = wideB p := by
    show ((onceB p).getD 0 ByteArray.empty).size = wideB p
    rw [hat 0 h0]
    exact he _ (nthK_lt (by rw [onceB_len] at h0; exact h0))
  refine ⟨fun i hi => ?_, hw⟩
  rw [hw, hat i hi]
  exact he _ (nthK_lt (by rw [onceB_len] at hi; exact hi))

set_option maxHeartbeats 1000000 in
theorem specTight_any (ao : Option Addr) (cap : Nat) (p : List ByteArray) (w : World) (hl : p.length ≤ 1048576) (hs : ∀ s ∈ p, s.size ≤ 1048576) (hc : CellsAt w ao (p.map Value.string)) :
    Calls Try.prog 34 #[.slice ao p.length cap] w fun e w' => TextsRet w.heap.size (orNone (planB p) (tightB p)) (planB p) e w' ∧ Below w.heap.size w w' := by
  cases hp : planB p
  · rw [orNone_no rfl]
    go_enter Try.func34, Try.ntmps34
    go_wp2_with (first
      | (go_at_call 18; refine (specPlanIn_any _ _ _ _ hl hs hc).mono ?_; rw [hp]; rintro e w1 ⟨rfl, hb1⟩)
      | (go_at_call 66; refine (l1None_any _).mono ?_; rintro e w2 ⟨⟨ro, rc, rfl, hown2⟩, hb2⟩))
    go_ret2
    exact ⟨⟨_, _, rfl, ownsRow_base hown2 hb1.size⟩, below_step hb1 hb1.size hb2⟩
  · rw [orNone_yes rfl]
    have hg := (planP_of hp).grid
    have p1 := hg.h1; have p6 := hg.h6; have pw := hg.w6; have pw1 := hg.w1
    have hA := onceB_even hg.even p1
    have a0 : 1 ≤ (onceB p).length := by rw [onceB_len]; exact keepL_pos _ p1
    have a1 : (onceB p).length ≤ p.length := by rw [onceB_len]; exact keepL_le _ _
    have b1 : (transB (onceB p)).length = wideB p := by rw [transB_len, hA.2]
    have b2 : wideB (transB (onceB p)) = (onceB p).length := transB_wide (by rw [hA.2]; exact pw1)
    have b3 : Even (transB (onceB p)) := transB_even (by rw [hA.2]; exact pw1)
    have hB := onceB_even b3 (by rw [b1]; exact pw1)
    have d0 : 1 ≤ (onceB (transB (onceB p))).length := by rw [onceB_len]; exact keepL_pos _ (by rw [b1]; exact pw1)
    have d1 : (onceB (transB (onceB p))).length ≤ wideB p := by rw [onceB_len, ← b1]; exact keepL_le _ _
    have hT := Lib.hid (show (tightB p).length = (onceB p).length by unfold tightB; rw [transB_len, hB.2, b2])
    have HA := Lib.hid hA; have HB := Lib.hid hB; have HB1 := Lib.hid b1; have HB2 := Lib.hid b2; have HB3 := Lib.hid b3
    have HTT : Hid (∀ (ao : Option Addr) (cap : Nat) (W : World), CellsAt W ao (p.map Value.string) → Calls Try.prog 72 #[.slice ao p.length cap] W fun e w' =>
        ∃ ro rc, e = .returned (.slice ro (onceB p).length rc) ∧ w'.ownsRow W.heap.size 9 1 (.slice ro (onceB p).length rc) (onceB p).length ((tightB p).map Value.string) ∧ Below W.heap.size W w') := by
      refine Lib.hid (fun ao cap W h => ?_)
      clear hA hB b1 b2 b3 hc hg hT
      go_enter Try.func72, Try.ntmps72
      go_wp2_with fail
      refine (l1Once_any _ _ _ p _ rfl (by omega) h).mono ?_
      rintro e w2 ⟨r2, c2, rfl, o2, z2⟩
      have hc2 := owns_cells o2
      go_wp2_with fail
      refine (l1Trans_any _ _ _ (onceB p) _ rfl a0 (by omega) (by rw [HA.out.2]; omega) HA.out.1 hc2).mono ?_
      rw [HA.out.2]
      rintro e w3 ⟨r3, c3, rfl, o3, z3⟩
      have hc3 := owns_cells o3
      go_wp2_with fail
      refine (l1Once_any _ _ _ (transB (onceB p)) _ HB1.out (by rw [HB1.out]; omega) hc3).mono ?_
      rintro e w4 ⟨r4, c4, rfl, o4, z4⟩
      have hc4 := owns_cells o4
      go_wp2_with fail
      refine (l1Trans_any _ _ _ (onceB (transB (onceB p))) _ rfl d0 (by omega) (by rw [HB.out.2, HB2.out]; omega) HB.out.1 hc4).mono ?_
      rw [HB.out.2, HB2.out]
      rintro e w5 ⟨r5, c5, rfl, o5, z5⟩
      go_wp2
      have y3 := below_step z2 z2.size z3
      have y4 := below_step y3 y3.size z4
      go_ret
      exact ⟨_, _, rfl, ownsRow_base o5 y4.size, below_step y4 y4.size z5⟩
    clear hA hB b1 b2 b3 hg
    go_enter Try.func34, Try.ntmps34
    go_wp2_with (first
      | (go_at_call 18; refine (specPlanIn_any _ _ _ _ hl hs hc).mono ?_; rw [hp]; rintro e w1 ⟨rfl, hb1⟩; have hc1 := hc.below hb1)
      | (go_at_call 72; refine (HTT.out _ _ _ hc1).mono ?_; rintro e w2 ⟨ro, rc, rfl, hown2, hb2⟩))
    go_ret2
    exact ⟨⟨ro, rc, by rw [hT.out]; rfl, by rw [hT.out]; exact ownsRow_base hown2 hb1.size⟩, below_step hb1 hb1.size hb2⟩

end Go.Proofs.Ythboiobapmagcaa
