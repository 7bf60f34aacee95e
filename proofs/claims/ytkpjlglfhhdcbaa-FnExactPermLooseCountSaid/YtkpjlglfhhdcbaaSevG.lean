
/-
  Fair and loose permutations: the model's answers. (Walks.)
-/
import Derived.Test.YtkpjlglfhhdcbaaSevF
import Derived.Test.YtkpjlglfhhdcbaaSevA
import Derived.BigQuiet
namespace Go.Proofs.Ytkpjlglfhhdcbaa
open Go.RowKit

theorem cells4 {w : World} {ao : Option Addr} {l : List Int} (h : CellsAt w ao (l.map (Value.int .i64))) {a b c d : Nat} (ha : a < l.length) (hb : b < l.length) (hc : c < l.length) (hd : d < l.length) :
    ∃ B off, ao = some ⟨B, off, none⟩ ∧ w.cell? ⟨B, off + a, none⟩ = some (.int .i64 (l.getD a 0)) ∧ w.cell? ⟨B, off + b, none⟩ = some (.int .i64 (l.getD b 0)) ∧ w.cell? ⟨B, off + c, none⟩ = some (.int .i64 (l.getD c 0)) ∧ w.cell? ⟨B, off + d, none⟩ = some (.int .i64 (l.getD d 0)) := by
  obtain ⟨B, off, rfl, k1⟩ := h.int a ha
  obtain ⟨_, _, e2, k2⟩ := h.int b hb
  obtain ⟨_, _, e3, k3⟩ := h.int c hc
  obtain ⟨_, _, e4, k4⟩ := h.int d hd
  cases e2; cases e3; cases e4
  exact ⟨B, off, rfl, k1, k2, k3, k4⟩
def TwiV (xa xb xc xd : Int) : Prop := (xc < xa ∧ xa < xd ∧ xd < xb) ∨ (xb < xd ∧ xd < xa ∧ xa < xc)
theorem twi_v {l : List Int} {a b c d : Nat} {xa xb xc xd : Int} (ha : l.getD a 0 = xa) (hb : l.getD b 0 = xb) (hc : l.getD c 0 = xc) (hd : l.getD d 0 = xd) : twiP l a b c d ↔ TwiV xa xb xc xd := by
  unfold twiP TwiV; rw [ha, hb, hc, hd]
theorem six_ways (xa xb xc xd : Int) : (xc < xa ∧ xa < xd ∧ xd < xb) ∨ (¬ xc < xa ∧ xb < xd ∧ xd < xa ∧ xa < xc) ∨ (¬ xc < xa ∧ ¬ xb < xd) ∨ (¬ xc < xa ∧ xb < xd ∧ ¬ xd < xa) ∨ (¬ xc < xa ∧ xb < xd ∧ xd < xa ∧ ¬ xa < xc) ∨ (xc < xa ∧ ¬ xa < xd ∧ ¬ xb < xd) ∨ (xc < xa ∧ ¬ xa < xd ∧ xb < xd ∧ ¬ xd < xa) ∨ (xc < xa ∧ ¬ xa < xd ∧ xb < xd ∧ xd < xa ∧ ¬ xa < xc) ∨ (xc < xa ∧ xa < xd ∧ ¬ xd < xb ∧ ¬ xb < xd) ∨ (xc < xa ∧ xa < xd ∧ ¬ xd < xb ∧ xb < xd ∧ ¬ xd < xa) := by omega

set_option maxRecDepth 100000 in
set_option maxHeartbeats 16000000 in
theorem l6Fair_any (ao : Option Addr) (cap : Nat) (l : List Int) (w : World) (h7 : l.length ≤ 7) (hc : CellsAt w ao (l.map (Value.int .i64))) :
    Calls Try.prog 42 #[.slice ao l.length cap] w fun e w' => e = .returned (.bool (fairB l)) ∧ Below w.heap.size w w' := by
  go_enter Try.func42, Try.ntmps42
  go_wp2
  go_loopw [3] (fun vb wr => ∃ b : Nat, 1 ≤ b ∧ b ≤ 8 ∧ vb = .int .i64 b ∧ Below w.heap.size w wr ∧ ∀ a b' d, b' < b → a < b' → b' + 1 < d → d < l.length → ¬ twiP l a b' (b' + 1) d) (fun vb _ => 9 - (intOf vb).toNat)
  case atStart => exact ⟨1, Nat.le_refl _, by omega, rfl, Below.refl _ _, fun _ _ _ h h' => by omega⟩
  case round =>
    obtain ⟨b, hb0, hb8, rfl, hb1, hB⟩ := hrel
    have HB := Lib.hid hB; clear hB
    by_cases hlb : b + 2 < l.length
    · go_wp2_with fail
      go_loopw [4] (fun va wr => ∃ a : Nat, a ≤ b ∧ va = .int .i64 a ∧ Below w.heap.size w wr ∧ ∀ a' d, a' < a → b + 1 < d → d < l.length → ¬ twiP l a' b (b + 1) d) (fun va _ => b - (intOf va).toNat)
      case atStart => exact ⟨0, Nat.zero_le _, rfl, hb1, fun _ _ h => by omega⟩
      case round =>
        clear hb1
        obtain ⟨a, hab, rfl, hb2, hA⟩ := hrel
        have HA := Lib.hid hA; clear hA
        by_cases h1 : a < b
        · go_wp2_with fail
          go_loopw [5] (fun vd wr => ∃ d : Nat, b + 2 ≤ d ∧ d ≤ l.length ∧ vd = .int .i64 d ∧ Below w.heap.size w wr ∧ ∀ d', b + 1 < d' → d' < d → ¬ twiP l a b (b + 1) d') (fun vd _ => l.length - (intOf vd).toNat)
          case atStart => exact ⟨b + 2, Nat.le_refl _, by omega, by go_num, hb2, fun _ h h' => by omega⟩
          case round =>
            clear hb2
            obtain ⟨d, h2, hdl, rfl, hb4, hD⟩ := hrel
            have HD := Lib.hid hD; clear hD
            by_cases hd4 : d < l.length
            · have h3 : b + 1 < d := by omega
              obtain ⟨c, hcb⟩ : ∃ c, b + 1 = c := ⟨_, rfl⟩
              obtain ⟨B, off, rfl, ca, cb, cc, cd⟩ := cells4 (hc.below hb4) (a := a) (b := b) (c := c) (d := d) (by omega) (by omega) (by omega) hd4
              obtain ⟨xa, ea⟩ : ∃ x, l.getD a 0 = x := ⟨_, rfl⟩
              obtain ⟨xb, eb⟩ : ∃ x, l.getD b 0 = x := ⟨_, rfl⟩
              obtain ⟨xc, ec⟩ : ∃ x, l.getD (c) 0 = x := ⟨_, rfl⟩
              obtain ⟨xd, ed⟩ : ∃ x, l.getD d 0 = x := ⟨_, rfl⟩
              have HT := Lib.hid (twi_v ea eb ec ed)
              rw [ea] at ca; rw [eb] at cb; rw [ec] at cc; rw [ed] at cd
              clear ea eb ec ed
              have HC := Lib.hid hc; clear hc
              have ia : (a : Int) < (l.length : Int) := by omega
              have ib : (b : Int) < (l.length : Int) := by omega
              have id : (d : Int) < (l.length : Int) := by omega
              have ic : (c : Int) < (l.length : Int) := by omega
              have n1 : a < l.length := by omega
              have n2 : b < l.length := by omega
              have n3 : c < l.length := by omega
              have hw : IntKind.i64.wrap ((b : Int) + 1) = (c : Int) := by rw [IntWalk.i64_in _ (by omega)]; omega
              have HCB := Lib.hid hcb; clear hcb
              rcases six_ways xa xb xc xd with ⟨f1, f2, f3⟩ | ⟨f1, f2, f3, f4⟩ | ⟨f1, f2⟩ | ⟨f1, f2, f3⟩ | ⟨f1, f2, f3, f4⟩ | ⟨f1, f2, f3⟩ | ⟨f1, f2, f3, f4⟩ | ⟨f1, f2, f3, f4, f5⟩ | ⟨f1, f2, f3, f4⟩ | ⟨f1, f2, f3, f4, f5⟩
              · skip
                have ht : TwiV xa xb xc xd := by unfold TwiV; omega
                have HF := Lib.hid (fairB_no (l := l) h1 h3 hd4 (by rw [HCB.out]; exact HT.out.2 ht))
                clear ht
                have g1 : decide (xc < xa) = true := decide_eq_true f1
                have g2 : decide (xa < xd) = true := decide_eq_true f2
                have g3 : decide (xd < xb) = true := decide_eq_true f3
                clear f1 f2 f3
                go_wp2
                simp only [List.append]
                go_quiet (fail)
                clear hw
                go_wp2
                go_ret
                exact ⟨ret_bool HF.out.symm, hb4.trans (below_drewN _ _ _)⟩
              · skip
                have ht : TwiV xa xb xc xd := by unfold TwiV; omega
                have HF := Lib.hid (fairB_no (l := l) h1 h3 hd4 (by rw [HCB.out]; exact HT.out.2 ht))
                clear ht
                have g1 : decide (xc < xa) = false := decide_eq_false f1
                have g2 : decide (xb < xd) = true := decide_eq_true f2
                have g3 : decide (xd < xa) = true := decide_eq_true f3
                have g4 : decide (xa < xc) = true := decide_eq_true f4
                clear f1 f2 f3 f4
                go_wp2
                simp only [List.append]
                go_quiet (fail)
                clear hw
                go_wp2
                go_ret
                exact ⟨ret_bool HF.out.symm, hb4.trans (below_drewN _ _ _)⟩
              · skip
                have HN := Lib.hid (show ¬ twiP l a b (b + 1) d from fun h => by rw [HCB.out] at h; have := HT.out.1 h; unfold TwiV at this; omega)
                have g1 : decide (xc < xa) = false := decide_eq_false f1
                have g2 : decide (xb < xd) = false := decide_eq_false f2
                clear f1 f2
                go_wp2
                simp only [List.append]
                go_quiet (fail)
                clear hw
                go_wp2
                go_roundw
                case rel => exact ⟨d + 1, by omega, by omega, by go_num, hb4.trans (below_drewN _ _ _), fun d' h hlt => by by_cases e : d' = d; (· subst e; exact HN.out); (· exact HD.out d' h (by omega))⟩
                case measure => simp [intOf]; omega
              · skip
                have HN := Lib.hid (show ¬ twiP l a b (b + 1) d from fun h => by rw [HCB.out] at h; have := HT.out.1 h; unfold TwiV at this; omega)
                have g1 : decide (xc < xa) = false := decide_eq_false f1
                have g2 : decide (xb < xd) = true := decide_eq_true f2
                have g3 : decide (xd < xa) = false := decide_eq_false f3
                clear f1 f2 f3
                go_wp2
                simp only [List.append]
                go_quiet (fail)
                clear hw
                go_wp2
                go_roundw
                case rel => exact ⟨d + 1, by omega, by omega, by go_num, hb4.trans (below_drewN _ _ _), fun d' h hlt => by by_cases e : d' = d; (· subst e; exact HN.out); (· exact HD.out d' h (by omega))⟩
                case measure => simp [intOf]; omega
              · skip
                have HN := Lib.hid (show ¬ twiP l a b (b + 1) d from fun h => by rw [HCB.out] at h; have := HT.out.1 h; unfold TwiV at this; omega)
                have g1 : decide (xc < xa) = false := decide_eq_false f1
                have g2 : decide (xb < xd) = true := decide_eq_true f2
                have g3 : decide (xd < xa) = true := decide_eq_true f3
                have g4 : decide (xa < xc) = false := decide_eq_false f4
                clear f1 f2 f3 f4
                go_wp2
                simp only [List.append]
                go_quiet (fail)
                clear hw
                go_wp2
                go_roundw
                case rel => exact ⟨d + 1, by omega, by omega, by go_num, hb4.trans (below_drewN _ _ _), fun d' h hlt => by by_cases e : d' = d; (· subst e; exact HN.out); (· exact HD.out d' h (by omega))⟩
                case measure => simp [intOf]; omega
              · skip
                have HN := Lib.hid (show ¬ twiP l a b (b + 1) d from fun h => by rw [HCB.out] at h; have := HT.out.1 h; unfold TwiV at this; omega)
                have g1 : decide (xc < xa) = true := decide_eq_true f1
                have g2 : decide (xa < xd) = false := decide_eq_false f2
                have g3 : decide (xb < xd) = false := decide_eq_false f3
                clear f1 f2 f3
                go_wp2
                simp only [List.append]
                go_quiet (fail)
                clear hw
                go_wp2
                go_roundw
                case rel => exact ⟨d + 1, by omega, by omega, by go_num, hb4.trans (below_drewN _ _ _), fun d' h hlt => by by_cases e : d' = d; (· subst e; exact HN.out); (· exact HD.out d' h (by omega))⟩
                case measure => simp [intOf]; omega
              · skip
                have HN := Lib.hid (show ¬ twiP l a b (b + 1) d from fun h => by rw [HCB.out] at h; have := HT.out.1 h; unfold TwiV at this; omega)
                have g1 : decide (xc < xa) = true := decide_eq_true f1
                have g2 : decide (xa < xd) = false := decide_eq_false f2
                have g3 : decide (xb < xd) = true := decide_eq_true f3
                have g4 : decide (xd < xa) = false := decide_eq_false f4
                clear f1 f2 f3 f4
                go_wp2
                simp only [List.append]
                go_quiet (fail)
                clear hw
                go_wp2
                go_roundw
                case rel => exact ⟨d + 1, by omega, by omega, by go_num, hb4.trans (below_drewN _ _ _), fun d' h hlt => by by_cases e : d' = d; (· subst e; exact HN.out); (· exact HD.out d' h (by omega))⟩
                case measure => simp [intOf]; omega
              · skip
                have HN := Lib.hid (show ¬ twiP l a b (b + 1) d from fun h => by rw [HCB.out] at h; have := HT.out.1 h; unfold TwiV at this; omega)
                have g1 : decide (xc < xa) = true := decide_eq_true f1
                have g2 : decide (xa < xd) = false := decide_eq_false f2
                have g3 : decide (xb < xd) = true := decide_eq_true f3
                have g4 : decide (xd < xa) = true := decide_eq_true f4
                have g5 : decide (xa < xc) = false := decide_eq_false f5
                clear f1 f2 f3 f4 f5
                go_wp2
                simp only [List.append]
                go_quiet (fail)
                clear hw
                go_wp2
                go_roundw
                case rel => exact ⟨d + 1, by omega, by omega, by go_num, hb4.trans (below_drewN _ _ _), fun d' h hlt => by by_cases e : d' = d; (· subst e; exact HN.out); (· exact HD.out d' h (by omega))⟩
                case measure => simp [intOf]; omega
              · skip
                have HN := Lib.hid (show ¬ twiP l a b (b + 1) d from fun h => by rw [HCB.out] at h; have := HT.out.1 h; unfold TwiV at this; omega)
                have g1 : decide (xc < xa) = true := decide_eq_true f1
                have g2 : decide (xa < xd) = true := decide_eq_true f2
                have g3 : decide (xd < xb) = false := decide_eq_false f3
                have g4 : decide (xb < xd) = false := decide_eq_false f4
                clear f1 f2 f3 f4
                go_wp2
                simp only [List.append]
                go_quiet (fail)
                clear hw
                go_wp2
                go_roundw
                case rel => exact ⟨d + 1, by omega, by omega, by go_num, hb4.trans (below_drewN _ _ _), fun d' h hlt => by by_cases e : d' = d; (· subst e; exact HN.out); (· exact HD.out d' h (by omega))⟩
                case measure => simp [intOf]; omega
              · skip
                have HN := Lib.hid (show ¬ twiP l a b (b + 1) d from fun h => by rw [HCB.out] at h; have := HT.out.1 h; unfold TwiV at this; omega)
                have g1 : decide (xc < xa) = true := decide_eq_true f1
                have g2 : decide (xa < xd) = true := decide_eq_true f2
                have g3 : decide (xd < xb) = false := decide_eq_false f3
                have g4 : decide (xb < xd) = true := decide_eq_true f4
                have g5 : decide (xd < xa) = false := decide_eq_false f5
                clear f1 f2 f3 f4 f5
                go_wp2
                simp only [List.append]
                go_quiet (fail)
                clear hw
                go_wp2
                go_roundw
                case rel => exact ⟨d + 1, by omega, by omega, by go_num, hb4.trans (below_drewN _ _ _), fun d' h hlt => by by_cases e : d' = d; (· subst e; exact HN.out); (· exact HD.out d' h (by omega))⟩
                case measure => simp [intOf]; omega
            · obtain rfl : d = l.length := by omega
              go_wp2
              go_roundw
              case rel => exact ⟨a + 1, by omega, by go_num, hb4, fun a' d h hd hl => by by_cases e : a' = a; (· subst e; exact HD.out d hd hl); (· exact HA.out a' d (by omega) hd hl)⟩
              case measure => simp [intOf]; omega
        · obtain rfl : a = b := by omega
          go_wp2
          go_roundw
          case rel => exact ⟨a + 1, by omega, by omega, by go_num, hb2, fun a' b' d h h' hd hl => by by_cases e : b' = a; (· subst e; exact HA.out a' d h' hd hl); (· exact HB.out a' b' d (by omega) h' hd hl)⟩
          case measure => simp [intOf]; omega
    · have HF := Lib.hid (fairB_iff.2 (show FairP l from fun a b' d h1 h2 h4 => HB.out a b' d (by omega) h1 h2 h4))
      go_wp2
      go_ret
      exact ⟨ret_bool HF.out.symm, hb1⟩

end Go.Proofs.Ytkpjlglfhhdcbaa
