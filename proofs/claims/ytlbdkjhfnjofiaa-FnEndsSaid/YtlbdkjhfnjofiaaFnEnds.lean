
/-
  For every slice of bytes the law FnEnds returns true, and the slice reads behind the call as it read before. No condition.
-/
import Derived.Test.YtlbdkjhfnjofiaaEul
import Derived.Test.YtlbdkjhfnjofiaaOutI
import Derived.Test.YtlbdkjhfnjofiaaDraw
import Derived.Test.YtlbdkjhfnjofiaaLaws
namespace Go.Proofs.Ytlbdkjhfnjofiaa
open Go.ChangeShapes Go.WideShapes Go.ChangeAt Go.RowKit

set_option maxRecDepth 100000 in
theorem drawWallEnds_any (ao : Option Addr) (cap : Nat) (c : List UInt8) (w : World) (hcap : c.length ≤ cap) (hl : c.length ≤ 1048576) (hc : CellsAt w ao (c.map byteV)) :
    Calls Try.prog 46 #[.slice ao c.length cap] w fun e w' => Drawn w.heap.size e w' ∧ Below w.heap.size w w' := by
  go_enter Try.func46, Try.ntmps46
  go_wp2_with (go_at_call 49; refine (l91One_any _ _ _ _ hcap hl hc).mono ?_; rintro e w1 ⟨⟨ro, rc, l, hsm, rfl, hla⟩, hb1⟩)
  go_ret
  exact ⟨⟨ro, rc, l, hsm, rfl, hla⟩, hb1⟩

theorem compactL_lastS {xs : List Int} : ∀ {x : Int}, (compactL (xs ++ [x])).getLast? = some x := fun {x} => by rw [compactL_snoc]; exact putL_last _ _
theorem compact_range (f : Nat → Int) : ∀ n, (compactL ((List.range (n + 1)).map f)).length = 1 + (List.range (n + 1)).countP (fun k => decide (1 ≤ k) && decide (f (k - 1) ≠ f k))
  | 0 => by simp [compactL, putL]
  | n + 1 => by
    have ih := compact_range f n
    rw [List.range_succ (n := n + 1), List.map_append, List.map_cons, List.map_nil, compactL_snoc, List.countP_append, List.countP_singleton]
    have hlast : (compactL ((List.range (n + 1)).map f)).getLast? = some (f n) := by
      rw [List.range_succ, List.map_append, List.map_cons, List.map_nil]
      exact compactL_lastS
    rw [decide_eq_true (show 1 ≤ n + 1 by omega), Bool.true_and, show n + 1 - 1 = n by omega]
    by_cases h : f n = f (n + 1)
    · unfold putL
      rw [hlast, if_pos (by rw [h]), ih]
      simp [h]
    · unfold putL
      rw [hlast, if_neg (fun e => h (Option.some.inj e)), List.length_append, ih]
      simp [h]
      omega
theorem cellsR_row1 (g : Nat → Nat → Nat) (r0 c0 wi : Nat) : cellsR g r0 c0 wi 1 = (List.range wi).map fun j => ((g r0 (c0 + j) : Nat) : Int) := by
  rw [cellsR_succ]; rfl
theorem cellsR_col1 (g : Nat → Nat → Nat) (r0 c0 : Nat) : ∀ hi, cellsR g r0 c0 1 hi = (List.range hi).map fun k => ((g (r0 + k) c0 : Nat) : Int)
  | 0 => rfl
  | hi + 1 => by rw [cellsR_succ, cellsR_col1 g r0 c0 hi, List.range_succ (n := hi), List.map_append]; rfl
theorem side_row {g : Nat → Nat → Nat} {h wd i : Nat} (hi : i < h) (w1 : 1 ≤ wd) : (compactL ((List.range wd).map fun j => ((g i (0 + j) : Nat) : Int))).length = 1 + (List.range wd).countP fun l => decide (1 ≤ l) && upF h g l i := by
  obtain ⟨n, rfl⟩ : ∃ n, wd = n + 1 := ⟨wd - 1, by omega⟩
  rw [compact_range]
  congr 1
  refine List.countP_congr fun l _ => ?_
  unfold upF
  rw [decide_eq_true hi, Bool.true_and, decide_eq_decide.2 (show (((g i (0 + (l - 1)) : Nat) : Int) ≠ ((g i (0 + l) : Nat) : Int)) ↔ g i (l - 1) ≠ g i l by rw [Nat.zero_add, Nat.zero_add]; omega)]
theorem side_col {g : Nat → Nat → Nat} {h wd k : Nat} (hk : k < wd) (h1 : 1 ≤ h) : (compactL ((List.range h).map fun i => ((g (0 + i) k : Nat) : Int))).length = 1 + (List.range h).countP fun l => decide (1 ≤ l) && lvF wd g l k := by
  obtain ⟨n, rfl⟩ : ∃ n, h = n + 1 := ⟨h - 1, by omega⟩
  rw [compact_range]
  congr 1
  refine List.countP_congr fun l _ => ?_
  unfold lvF
  rw [decide_eq_true hk, Bool.true_and, decide_eq_decide.2 (show (((g (0 + (l - 1)) k : Nat) : Int) ≠ ((g (0 + l) k : Nat) : Int)) ↔ g (l - 1) k ≠ g l k by rw [Nat.zero_add, Nat.zero_add]; omega)]
/-- how many rooms lie at the first sides -/
def outS (p : List ByteArray) (t : Nat) : Nat := ((List.range t).map fun (i : Nat) => (outL p (i : Int)).length).sum
theorem outS_succ (p : List ByteArray) (t : Nat) : outS p (t + 1) = outS p t + (outL p (t : Int)).length := by
  unfold outS; rw [List.range_succ, List.map_append, List.sum_append]; simp
theorem outS_four {p : List ByteArray} (h : planB p = true) : outS p 4 = outN p + 4 := by
  have hp := planP_of h
  have h1 := hp.grid.h1; have w1 := hp.grid.w1
  have o : ∀ s, isSide s = true → outL p s = compactL (edgeL p s) := fun s hs => by unfold outL outOk; rw [if_pos (by rw [h, hs]; rfl)]
  rw [show (4 : Nat) = 0 + 1 + 1 + 1 + 1 from rfl, outS_succ, outS_succ, outS_succ, outS_succ, show outS p 0 = 0 from rfl]
  rw [o _ rfl, o _ rfl, o _ rfl, o _ rfl]
  rw [show edgeL p ((0 : Nat) : Int) = (List.range (wideB p)).map fun j => ((gridG p 0 (0 + j) : Nat) : Int) from cellsR_row1 _ _ _ _]
  rw [show edgeL p ((0 + 1 : Nat) : Int) = (List.range p.length).map fun k => ((gridG p (0 + k) (wideB p - 1) : Nat) : Int) from cellsR_col1 _ _ _ _]
  rw [show edgeL p ((0 + 1 + 1 : Nat) : Int) = (List.range (wideB p)).map fun j => ((gridG p (p.length - 1) (0 + j) : Nat) : Int) from cellsR_row1 _ _ _ _]
  rw [show edgeL p ((0 + 1 + 1 + 1 : Nat) : Int) = (List.range p.length).map fun k => ((gridG p (0 + k) 0 : Nat) : Int) from cellsR_col1 _ _ _ _]
  rw [side_row (h := p.length) (i := 0) (by omega) w1, side_row (h := p.length) (i := p.length - 1) (by omega) w1, side_col (wd := wideB p) (k := 0) (by omega) h1, side_col (wd := wideB p) (k := wideB p - 1) (by omega) h1, out_lines h]
  omega
theorem out_bound (p : List ByteArray) (s : Int) : (outL p s).length ≤ 36 := by
  unfold outL
  by_cases h : outOk p s = true
  · rw [if_pos h]
    unfold outOk at h
    rw [Bool.and_eq_true] at h
    have hP := planP_of h.1
    have h1 := compactL_len (edgeL p s)
    unfold edgeL at h1 ⊢
    rw [cellsR_len] at h1
    have hh := hP.grid.h6; have hw := hP.grid.w6
    have h2 := edgeN_in (s := s) hP.grid.h1 hP.grid.w1
    have h3 := Nat.mul_le_mul (show (edgeN p.length (wideB p) s).2.2.1 ≤ 6 by omega) (show (edgeN p.length (wideB p) s).2.2.2 ≤ 6 by omega)
    omega
  · rw [if_neg h]; decide
theorem outS_bound (p : List ByteArray) : ∀ t, outS p t ≤ t * 36
  | 0 => Nat.le_refl _
  | t + 1 => by rw [outS_succ]; have := outS_bound p t; have := out_bound p t; omega
theorem side_in {t : Nat} (h : t < 4) : isSide (t : Int) = true := by
  unfold isSide
  rcases (show t = 0 ∨ t = 1 ∨ t = 2 ∨ t = 3 by omega) with rfl | rfl | rfl | rfl <;> rfl

set_option maxRecDepth 100000 in
set_option maxHeartbeats 4000000 in
theorem fnEnds_all (aC : Option Addr) (kC : Nat) (lC : List UInt8) (w : World) (mC : lC.length ≤ maxLen) (zC : lC.length ≤ kC) (cC : CellsAt w aC (lC.map byteV)) :
    Calls Try.prog 11 #[.slice aC lC.length kC] w fun e w' => e = .returned (.bool true) ∧ Below w.heap.size w w' := by
  have mC2 := mC
  clear mC2
  by_cases dC : lC.length ≤ 1048576
  · have hdC : decide (1048576 < (lC.length : Int)) = false := by rw [decide_eq_false_iff_not]; omega
    go_enter Try.func11, Try.ntmps11
    go_wp2_with fail
    refine (drawWallEnds_any _ _ _ _ zC dC cC).mono ?_
    rintro e w1 ⟨⟨roP, rcP, lP, hsm, rfl, c_P⟩, hb⟩
    have hB := hb
    clear hb
    have LP : lP.length ≤ 1048576 := by have := hsm.2.1; omega
    have SP : ∀ s ∈ lP, s.size ≤ 1048576 := fun s h => by have := hsm.2.2 s h; omega
    cases hp : planB lP
    · -- no plan
      have HI := Lib.hid (fun w c => implWallEnds_any roP rcP lP w LP SP c)
      have HS := Lib.hid (fun w c => specWallEnds_any roP rcP lP w LP SP c)
      rw [hp] at HI HS
      generalize outN lP = n3 at *
      go_wp2_with fail
      refine (HI.out _ c_P).mono ?_
      rintro e w2 ⟨rfl, hb⟩
      replace c_P := c_P.below hb
      replace hB := below_step hB hB.size hb
      clear hb
      go_wp2_with fail
      refine (HS.out _ c_P).mono ?_
      rintro e w3 ⟨rfl, hb⟩
      replace c_P := c_P.below hb
      replace hB := below_step hB hB.size hb
      clear hb
      go_wp2
      go_ret
      exact ⟨rfl, hB⟩
    · -- a plan
      have HI := Lib.hid (fun w c => implWallEnds_any roP rcP lP w LP SP c)
      have HS := Lib.hid (fun w c => specWallEnds_any roP rcP lP w LP SP c)
      have HO := Lib.hid (fun (t : Nat) (ht : t < 4) w c => by have := implNearOut_any roP rcP lP (t : Int) w LP SP c; rw [show outOk lP (t : Int) = true by unfold outOk; rw [hp, side_in ht]; rfl] at this; exact this)
      have H4 := Lib.hid (outS_four hp)
      have HSU := Lib.hid (outS_succ lP)
      have HBD := Lib.hid (outS_bound lP)
      have HB2 := Lib.hid (fun (t : Nat) => out_bound lP t)
      have hb0 := (tees_math hp)
      rw [hp] at HI HS
      have hb1 : outN lP ≤ 144 := by omega
      clear hb0
      have hS0 : outS lP 0 = 0 := rfl
      have HS0 := Lib.hid hS0
      clear hS0
      generalize outN lP = n3 at *
      generalize hOS : outS lP = OS at *
      clear hOS
      go_wp2_with fail
      refine (HI.out _ c_P).mono ?_
      rintro e w4 ⟨rfl, hb⟩
      replace c_P := c_P.below hb
      replace hB := below_step hB hB.size hb
      clear hb
      go_wp2_with fail
      refine (HS.out _ c_P).mono ?_
      rintro e w5 ⟨rfl, hb⟩
      replace c_P := c_P.below hb
      replace hB := below_step hB hB.size hb
      clear hb
      have CP := Lib.hid c_P; have HB9 := Lib.hid hB
      clear c_P hB
      obtain ⟨WK, hWK⟩ : ∃ WK, WK = w5 := ⟨_, rfl⟩
      clear hWK WK
      go_wp2
      go_loopw [8, 9] (fun vn vi wr => ∃ t : Nat, t ≤ 4 ∧ vi = .int .i64 t ∧ vn = .int .i64 (OS t : Nat) ∧ Below w5.heap.size w5 wr) (fun _ vi _ => 4 - (intOf vi).toNat)
      case atStart => exact ⟨0, Nat.zero_le _, rfl, by rw [HS0.out]; rfl, Below.refl _ _⟩
      case round =>
        obtain ⟨t, ht, rfl, rfl, hq⟩ := hrel
        have hbd := HBD.out t
        have hb2 := HB2.out t
        have hbe : OS t ≤ 144 := by omega
        by_cases hlt : t < 4
        · have hlt' : decide ((t : Int) < 4) = true := by rw [decide_eq_true_eq]; omega
          have HO2 := Lib.hid (HO.out t hlt)
          have HU := Lib.hid (HSU.out t)
          have cr := CP.out.below hq
          generalize outL lP (t : Int) = X at *
          obtain ⟨N, hN⟩ : ∃ N, OS t = N := ⟨_, rfl⟩
          rw [hN] at hbe HU ⊢
          clear hN hbd
          go_wp2_with (go_at_call 48; refine (HO2.out _ cr).mono ?_; rintro e w8 ⟨⟨ro8, rc8, rfl, _⟩, hb8⟩)
          go_roundw
          case rel => exact ⟨t + 1, by omega, by go_num, by rw [HU.out]; go_num, below_step hq hq.size hb8⟩
          case measure => simp [intOf]; omega
        · obtain rfl : t = 4 := by omega
          rw [H4.out]
          clear hbd hbe hb2
          go_wp2
          go_ret
          exact ⟨rfl, below_step HB9.out HB9.out.size hq⟩
  · have hdC : decide (1048576 < (lC.length : Int)) = true := by rw [decide_eq_true_eq]; omega
    go_enter Try.func11, Try.ntmps11
    go_wp2
    go_ret
    exact ⟨rfl, Below.refl _ _⟩

set_option maxRecDepth 100000 in
theorem fnEnds_lifted (os : Os) (started : os.Started) (H : Type) (enc : TypeId × Value → H) :
    ReturnsInHanded {} Try.checked os 11 .any (Rows.fnEndsSpec.pre6 enc Try.prog Try.f11 Rows.fnEndsRow.domain false) (Rows.fnEndsSpec.post enc Try.prog Try.f11 false true false false) := by
  refine returnsInHanded_of_change (C := Try.checked) Try.own started (by kernel_rfl) Try.func11
    (ChangeSpec.witness6 (enc := enc) (C := Try.checked) false ⟨#[], #[.slice none 0 0], []⟩ 8 (by kernel_rfl) (by kernel_rfl) (by kernel_rfl) (by kernel_rfl)) ?_
  intro W base args ds gs before hval0 hW _ _
  have hval : ∀ (j : Nat) t v, Try.f11.params[j]? = some t → args[j]? = some v → Value.okWide Try.prog W .any base t v := hval0
  have hW' := hW
  obtain ⟨p, q, hA0, hV, rfl, _, _⟩ := hW
  have hA : DataW.TrodAll enc Try.prog W 0 (fun _ => true) true Try.f11.params.toList args.toList ds p := hA0
  rw [Try.params11] at hA hval
  obtain ⟨v0, d0, rfl, rfl, h0⟩ := trodAll_one hA
  obtain ⟨rfl, rfl⟩ := trodVars_none hV
  obtain ⟨aC, eC, kC, rfl⟩ := okWide_slice Try.underlying22 (hval 0 22 v0 rfl rfl)
  clear hA0 hval0
  simp only [List.append_nil] at hW'
  have hlt0 : ∀ x ∈ p, x.block < W.heap.size := fun x hx => by simpa using hW'.lt x (by simp [hx])
  obtain ⟨lC, rfl, mC, zC, cC⟩ := open_bytes h0
  refine (fnEnds_all aC kC lC W mC zC cC).mono fun e W' ⟨he, hb⟩ => ?_
  subst he
  refine ⟨_, rfl, _, _, _, [], _, [], hW', trodAll_mk1 (shut_bool Try.underlying4 _), trodAll_mk1 (Below.trod Try.laidOut (by kernel_rfl) (of_decide_eq_true (by kernel_rfl)) h0 hb hlt0), rfl, hb.frame _, fun h => by cases h⟩

theorem fnEnds_holds : Rows.FnEndsSaid :=
  OpenClaim.holds_of_wide 11 Try.f11 rfl rfl rfl rfl rfl rfl rfl ⟨rfl, rfl, rfl, rfl, rfl⟩ rfl rfl rfl rfl rfl (by kernel_rfl) Try.func11 (by kernel_rfl)
    (of_decide_eq_true (by kernel_rfl)) (by unfold Func.isWrapper; first | (rw [if_pos (by decide +kernel)]; kernel_rfl) | (rw [if_neg (by decide +kernel)]; exact ⟨rfl, rfl⟩))
    (fun os started H enc _ => fnEnds_lifted os started H enc)

end Go.Proofs.Ytlbdkjhfnjofiaa
