
/-
  Loose permutations: the model's answer. (Walks.)
-/
import Derived.Test.YtkpjlglfhhdcbaaSevG
namespace Go.Proofs.Ytkpjlglfhhdcbaa
open Go.RowKit

set_option maxRecDepth 100000 in
set_option maxHeartbeats 16000000 in
theorem l6Loose_any (ao : Option Addr) (cap : Nat) (l : List Int) (w : World) (h7 : l.length ≤ 7) (hc : CellsAt w ao (l.map (Value.int .i64))) :
    Calls Try.prog 44 #[.slice ao l.length cap] w fun e w' => e = .returned (.bool (looseB l)) ∧ Below w.heap.size w w' := by
  go_enter Try.func44, Try.ntmps44
  go_wp2
  go_loopw [3] (fun va wr => ∃ a : Nat, a ≤ l.length ∧ va = .int .i64 a ∧ Below w.heap.size w wr ∧ ∀ a' b c d, a' < a → a' < b → b < c → c < d → d < l.length → ¬ twiP l a' b c d) (fun va _ => l.length - (intOf va).toNat)
  case atStart => exact ⟨0, Nat.zero_le _, rfl, Below.refl _ _, fun _ _ _ _ h => by omega⟩
  case round =>
    obtain ⟨a, ha, rfl, hb1, hA⟩ := hrel
    have HA := Lib.hid hA; clear hA
    by_cases hla : a < l.length
    · go_wp2_with fail
      go_loopw [4] (fun vb wr => ∃ b : Nat, a + 1 ≤ b ∧ b ≤ l.length ∧ vb = .int .i64 b ∧ Below w.heap.size w wr ∧ ∀ b' c d, a < b' → b' < b → b' < c → c < d → d < l.length → ¬ twiP l a b' c d) (fun vb _ => l.length - (intOf vb).toNat)
      case atStart => exact ⟨a + 1, Nat.le_refl _, hla, by go_num, hb1, fun _ _ _ h h' => by omega⟩
      case round =>
        clear hb1
        obtain ⟨b, h1, hbl, rfl, hb2, hB⟩ := hrel
        have HB := Lib.hid hB; clear hB
        by_cases hlb : b < l.length
        · go_wp2_with fail
          go_loopw [5] (fun vc wr => ∃ c : Nat, b + 1 ≤ c ∧ c ≤ l.length ∧ vc = .int .i64 c ∧ Below w.heap.size w wr ∧ ∀ c' d, b < c' → c' < c → c' < d → d < l.length → ¬ twiP l a b c' d) (fun vc _ => l.length - (intOf vc).toNat)
          case atStart => exact ⟨b + 1, Nat.le_refl _, hlb, by go_num, hb2, fun _ _ h h' => by omega⟩
          case round =>
            clear hb2
            obtain ⟨c, h2, hcl, rfl, hb3, hC⟩ := hrel
            have HCC := Lib.hid hC; clear hC
            by_cases hlc : c < l.length
            · go_wp2_with fail
              go_loopw [6] (fun vd wr => ∃ d : Nat, c + 1 ≤ d ∧ d ≤ l.length ∧ vd = .int .i64 d ∧ Below w.heap.size w wr ∧ ∀ d', c < d' → d' < d → ¬ twiP l a b c d') (fun vd _ => l.length - (intOf vd).toNat)
              case atStart => exact ⟨c + 1, Nat.le_refl _, hlc, by go_num, hb3, fun _ h h' => by omega⟩
              case round =>
                clear hb3
                obtain ⟨d, h3, hdl, rfl, hb4, hD⟩ := hrel
                have HD := Lib.hid hD; clear hD
                by_cases hd4 : d < l.length
                · skip
                  obtain ⟨B, off, rfl, ca, cb, cc, cd⟩ := cells4 (hc.below hb4) (a := a) (b := b) (c := c) (d := d) (by omega) (by omega) (by omega) hd4
                  obtain ⟨xa, ea⟩ : ∃ x, l.getD a 0 = x := ⟨_, rfl⟩
                  obtain ⟨xb, eb⟩ : ∃ x, l.getD b 0 = x := ⟨_, rfl⟩
                  obtain ⟨xc, ec⟩ : ∃ x, l.getD (c) 0 = x := ⟨_, rfl⟩
                  obtain ⟨xd, ed⟩ : ∃ x, l.getD d 0 = x := ⟨_, rfl⟩
                  have HT := Lib.hid (twi_v ea eb ec ed)
                  rw [ea] at ca; rw [eb] at cb; rw [ec] at cc; rw [ed] at cd
                  clear ea eb ec ed
                  have HC := Lib.hid hc; clear hc
                  have ia : (a : Int) < (l.length : Int) := by omega
                  have ib : (b : Int) < (l.length : Int) := by omega
                  have id : (d : Int) < (l.length : Int) := by omega
                  have ic : (c : Int) < (l.length : Int) := by omega
                  have n1 : a < l.length := by omega
                  have n2 : b < l.length := by omega
                  have n3 : c < l.length := by omega
                  rcases six_ways xa xb xc xd with ⟨f1, f2, f3⟩ | ⟨f1, f2, f3, f4⟩ | ⟨f1, f2⟩ | ⟨f1, f2, f3⟩ | ⟨f1, f2, f3, f4⟩ | ⟨f1, f2, f3⟩ | ⟨f1, f2, f3, f4⟩ | ⟨f1, f2, f3, f4, f5⟩ | ⟨f1, f2, f3, f4⟩ | ⟨f1, f2, f3, f4, f5⟩
                  · skip
                    have ht : TwiV xa xb xc xd := by unfold TwiV; omega
                    have HF := Lib.hid (looseB_no (l := l) h1 h2 h3 hd4 (HT.out.2 ht))
                    clear ht
                    have g1 : decide (xc < xa) = true := decide_eq_true f1
                    have g2 : decide (xa < xd) = true := decide_eq_true f2
                    have g3 : decide (xd < xb) = true := decide_eq_true f3
                    clear f1 f2 f3
                    go_wp2
                    go_quiet (fail)
                    go_wp2
                    go_ret
                    exact ⟨ret_bool HF.out.symm, hb4.trans (below_drewN _ _ _)⟩
                  · skip
                    have ht : TwiV xa xb xc xd := by unfold TwiV; omega
                    have HF := Lib.hid (looseB_no (l := l) h1 h2 h3 hd4 (HT.out.2 ht))
                    clear ht
                    have g1 : decide (xc < xa) = false := decide_eq_false f1
                    have g2 : decide (xb < xd) = true := decide_eq_true f2
                    have g3 : decide (xd < xa) = true := decide_eq_true f3
                    have g4 : decide (xa < xc) = true := decide_eq_true f4
                    clear f1 f2 f3 f4
                    go_wp2
                    go_quiet (fail)
                    go_wp2
                    go_ret
                    exact ⟨ret_bool HF.out.symm, hb4.trans (below_drewN _ _ _)⟩
                  · skip
                    have HN := Lib.hid (show ¬ twiP l a b c d from fun h => by have := HT.out.1 h; unfold TwiV at this; omega)
                    have g1 : decide (xc < xa) = false := decide_eq_false f1
                    have g2 : decide (xb < xd) = false := decide_eq_false f2
                    clear f1 f2
                    go_wp2
                    go_quiet (fail)
                    go_wp2
                    go_roundw
                    case rel => exact ⟨d + 1, by omega, by omega, by go_num, hb4.trans (below_drewN _ _ _), fun d' h hlt => by by_cases e : d' = d; (· subst e; exact HN.out); (· exact HD.out d' h (by omega))⟩
                    case measure => simp [intOf]; omega
                  · skip
                    have HN := Lib.hid (show ¬ twiP l a b c d from fun h => by have := HT.out.1 h; unfold TwiV at this; omega)
                    have g1 : decide (xc < xa) = false := decide_eq_false f1
                    have g2 : decide (xb < xd) = true := decide_eq_true f2
                    have g3 : decide (xd < xa) = false := decide_eq_false f3
                    clear f1 f2 f3
                    go_wp2
                    go_quiet (fail)
                    go_wp2
                    go_roundw
                    case rel => exact ⟨d + 1, by omega, by omega, by go_num, hb4.trans (below_drewN _ _ _), fun d' h hlt => by by_cases e : d' = d; (· subst e; exact HN.out); (· exact HD.out d' h (by omega))⟩
                    case measure => simp [intOf]; omega
                  · skip
                    have HN := Lib.hid (show ¬ twiP l a b c d from fun h => by have := HT.out.1 h; unfold TwiV at this; omega)
                    have g1 : decide (xc < xa) = false := decide_eq_false f1
                    have g2 : decide (xb < xd) = true := decide_eq_true f2
                    have g3 : decide (xd < xa) = true := decide_eq_true f3
                    have g4 : decide (xa < xc) = false := decide_eq_false f4
                    clear f1 f2 f3 f4
                    go_wp2
                    go_quiet (fail)
                    go_wp2
                    go_roundw
                    case rel => exact ⟨d + 1, by omega, by omega, by go_num, hb4.trans (below_drewN _ _ _), fun d' h hlt => by by_cases e : d' = d; (· subst e; exact HN.out); (· exact HD.out d' h (by omega))⟩
                    case measure => simp [intOf]; omega
                  · skip
                    have HN := Lib.hid (show ¬ twiP l a b c d from fun h => by have := HT.out.1 h; unfold TwiV at this; omega)
                    have g1 : decide (xc < xa) = true := decide_eq_true f1
                    have g2 : decide (xa < xd) = false := decide_eq_false f2
                    have g3 : decide (xb < xd) = false := decide_eq_false f3
                    clear f1 f2 f3
                    go_wp2
                    go_quiet (fail)
                    go_wp2
                    go_roundw
                    case rel => exact ⟨d + 1, by omega, by omega, by go_num, hb4.trans (below_drewN _ _ _), fun d' h hlt => by by_cases e : d' = d; (· subst e; exact HN.out); (· exact HD.out d' h (by omega))⟩
                    case measure => simp [intOf]; omega
                  · skip
                    have HN := Lib.hid (show ¬ twiP l a b c d from fun h => by have := HT.out.1 h; unfold TwiV at this; omega)
                    have g1 : decide (xc < xa) = true := decide_eq_true f1
                    have g2 : decide (xa < xd) = false := decide_eq_false f2
                    have g3 : decide (xb < xd) = true := decide_eq_true f3
                    have g4 : decide (xd < xa) = false := decide_eq_false f4
                    clear f1 f2 f3 f4
                    go_wp2
                    go_quiet (fail)
                    go_wp2
                    go_roundw
                    case rel => exact ⟨d + 1, by omega, by omega, by go_num, hb4.trans (below_drewN _ _ _), fun d' h hlt => by by_cases e : d' = d; (· subst e; exact HN.out); (· exact HD.out d' h (by omega))⟩
                    case measure => simp [intOf]; omega
                  · skip
                    have HN := Lib.hid (show ¬ twiP l a b c d from fun h => by have := HT.out.1 h; unfold TwiV at this; omega)
                    have g1 : decide (xc < xa) = true := decide_eq_true f1
                    have g2 : decide (xa < xd) = false := decide_eq_false f2
                    have g3 : decide (xb < xd) = true := decide_eq_true f3
                    have g4 : decide (xd < xa) = true := decide_eq_true f4
                    have g5 : decide (xa < xc) = false := decide_eq_false f5
                    clear f1 f2 f3 f4 f5
                    go_wp2
                    go_quiet (fail)
                    go_wp2
                    go_roundw
                    case rel => exact ⟨d + 1, by omega, by omega, by go_num, hb4.trans (below_drewN _ _ _), fun d' h hlt => by by_cases e : d' = d; (· subst e; exact HN.out); (· exact HD.out d' h (by omega))⟩
                    case measure => simp [intOf]; omega
                  · skip
                    have HN := Lib.hid (show ¬ twiP l a b c d from fun h => by have := HT.out.1 h; unfold TwiV at this; omega)
                    have g1 : decide (xc < xa) = true := decide_eq_true f1
                    have g2 : decide (xa < xd) = true := decide_eq_true f2
                    have g3 : decide (xd < xb) = false := decide_eq_false f3
                    have g4 : decide (xb < xd) = false := decide_eq_false f4
                    clear f1 f2 f3 f4
                    go_wp2
                    go_quiet (fail)
                    go_wp2
                    go_roundw
                    case rel => exact ⟨d + 1, by omega, by omega, by go_num, hb4.trans (below_drewN _ _ _), fun d' h hlt => by by_cases e : d' = d; (· subst e; exact HN.out); (· exact HD.out d' h (by omega))⟩
                    case measure => simp [intOf]; omega
                  · skip
                    have HN := Lib.hid (show ¬ twiP l a b c d from fun h => by have := HT.out.1 h; unfold TwiV at this; omega)
                    have g1 : decide (xc < xa) = true := decide_eq_true f1
                    have g2 : decide (xa < xd) = true := decide_eq_true f2
                    have g3 : decide (xd < xb) = false := decide_eq_false f3
                    have g4 : decide (xb < xd) = true := decide_eq_true f4
                    have g5 : decide (xd < xa) = false := decide_eq_false f5
                    clear f1 f2 f3 f4 f5
                    go_wp2
                    go_quiet (fail)
                    go_wp2
                    go_roundw
                    case rel => exact ⟨d + 1, by omega, by omega, by go_num, hb4.trans (below_drewN _ _ _), fun d' h hlt => by by_cases e : d' = d; (· subst e; exact HN.out); (· exact HD.out d' h (by omega))⟩
                    case measure => simp [intOf]; omega
                · obtain rfl : d = l.length := by omega
                  go_wp2
                  go_roundw
                  case rel => exact ⟨c + 1, by omega, by omega, by go_num, hb4, fun c' d h h' hd hl => by by_cases e : c' = c; (· subst e; exact HD.out d hd hl); (· exact HCC.out c' d h (by omega) hd hl)⟩
                  case measure => simp [intOf]; omega
            · obtain rfl : c = l.length := by omega
              go_wp2
              go_roundw
              case rel => exact ⟨b + 1, by omega, by omega, by go_num, hb3, fun b' c d h h' hc hd hl => by by_cases e : b' = b; (· subst e; exact HCC.out c d hc (by omega) hd hl); (· exact HB.out b' c d h (by omega) hc hd hl)⟩
              case measure => simp [intOf]; omega
        · obtain rfl : b = l.length := by omega
          go_wp2
          go_roundw
          case rel => exact ⟨a + 1, by omega, by go_num, hb2, fun a' b c d h hb hc hd hl => by by_cases e : a' = a; (· subst e; exact HB.out b c d hb (by omega) hc hd hl); (· exact HA.out a' b c d (by omega) hb hc hd hl)⟩
          case measure => simp [intOf]; omega
    · obtain rfl : a = l.length := by omega
      have HF := Lib.hid (looseB_iff.2 (show LooseP l from fun a b c d h1 h2 h3 h4 => HA.out a b c d (by omega) h1 h2 h3 h4))
      go_wp2
      go_ret
      exact ⟨ret_bool HF.out.symm, hb1⟩

end Go.Proofs.Ytkpjlglfhhdcbaa
