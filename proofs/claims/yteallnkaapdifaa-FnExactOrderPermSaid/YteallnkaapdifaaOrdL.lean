
/-
  How rooms lead on by way of other rooms: the program's three loops. (Walk.)
-/
import Derived.Test.YteallnkaapdifaaOrdI
namespace Go.Proofs.Yteallnkaapdifaa
open Go.RowKit

theorem grownBy_cell (w : World) (b i : Nat) (v : Value) : w.grownBy (w.setCell ⟨b, i, none⟩ v) (some b) :=
  ⟨rfl, rfl, rfl, (KeepsWalks.setCell w _ v).size, fun k _ hk => Below.heap_setCell _ _ _ k (fun e => hk (by rw [e]))⟩

/-- the world in which the leading on has come so far -/
def LeadSt (w : World) (B : Nat) (C : Array Value) (F : Nat → Nat → Nat → Bool) (way c i j : Nat) (wr : World) : Prop :=
  HeldB wr B 46 (ordC C (wayF' F way (midF (F way) c i j))) ∧ w.grownBy wr (some B)
theorem LeadSt.drew {w : World} {B : Nat} {C : Array Value} {F : Nat → Nat → Nat → Bool} {way c i j : Nat} {wr : World} (h : LeadSt w B C F way c i j wr) : LeadSt w B C F way c i j wr.drew :=
  ⟨h.1.drew, grownBy_trans h.2 (grownBy_of_below (below_drewN _ wr 1) _)⟩
theorem LeadSt.put {w : World} {B : Nat} {C : Array Value} (hC : C.size = 39) {F : Nat → Nat → Nat → Bool} {way c i j : Nat} {wr : World} (hw : way < 2) (hi : i < 9) (hj : j < 9) (h : LeadSt w B C F way c i j wr) :
    LeadSt w B C F way c i (j + 1) (wr.setCell ⟨B, 39 + way * 81 + i * 9 + j, none⟩ (.bool (wars (F way) (c + 1) i j))) := by
  refine ⟨?_, grownBy_trans h.2 (grownBy_cell wr B _ _)⟩
  have := h.1.set (39 + way * 81 + i * 9 + j) (.bool (wars (F way) (c + 1) i j))
  rw [ordC_put hC _ hw hi hj, wayF_put] at this
  exact this

set_option maxRecDepth 100000 in
set_option maxHeartbeats 1600000 in
theorem leadOn_any (B h wd r : Nat) (g : Nat → Nat → Nat) (F : Nat → Nat → Nat → Bool) (way : Nat) (w : World) (hw : way < 2) (hr : r ≤ 9) (hF : ∀ a b, F way a b = true → a < r ∧ b < r)
    (hB : HeldB w B 46 (ordC (planC h wd r g) F)) :
    Calls Try.prog 69 #[.pointer (some ⟨B, 0, none⟩), .int .i64 way] w
      fun e w' => e = .returned (.tuple #[]) ∧ HeldB w' B 46 (ordC (planC h wd r g) (wayF' F way (wars (F way) r))) ∧ w.grownBy w' (some B) := by
  have hC := planC_size h wd r g
  have hst0 : LeadSt w B (planC h wd r g) F way 0 0 0 w := by
    refine ⟨hB.eq (ordC_same fun x a b _ _ _ => ?_), World.grownBy.refl w _⟩
    unfold wayF'
    split
    · rename_i hx; subst hx; rw [midF_zero]; rfl
    · rfl
  have hC2 : ∀ F', (ordC (planC h wd r g) F')[2]? = some (.int .i64 (r : Nat)) := fun F' => by rw [ordC_lo F' (by omega), planC_2]
  have HC2 := Lib.hid hC2; clear hC2
  have HC := Lib.hid hC
  have HF := Lib.hid hF; clear hF hB
  generalize planC h wd r g = C at *
  have hwi : (way : Int) < 2 := by omega
  clear hC
  go_enter Try.func69, Try.ntmps69
  have c2 : w.cell? ⟨B, 2, none⟩ = some (.int .i64 (r : Nat)) := (hst0.1.cell 2).trans (HC2.out _)
  go_wp2
  clear c2
  go_loopw [18] (fun v wr => ∃ c : Nat, c ≤ r ∧ v = .int .i64 c ∧ LeadSt w B C F way c 0 0 wr) (fun v _ => r - (intOf v).toNat)
  case atStart => exact ⟨0, Nat.zero_le _, rfl, hst0⟩
  case round =>
    clear hst0
    obtain ⟨c, hc, rfl, hst⟩ := hrel
    by_cases hcr : c < r
    · have c2 : wr.cell? ⟨B, 2, none⟩ = some (.int .i64 (r : Nat)) := (hst.1.cell 2).trans (HC2.out _)
      go_wp2
      clear c2
      go_loopw [26] (fun v wr => ∃ i : Nat, i ≤ r ∧ v = .int .i64 i ∧ LeadSt w B C F way c i 0 wr) (fun v _ => r - (intOf v).toNat)
      case atStart => exact ⟨0, Nat.zero_le _, rfl, hst⟩
      case round =>
        clear hst
        obtain ⟨i, hi, rfl, hst⟩ := hrel
        by_cases hir : i < r
        · have c2 : wr.cell? ⟨B, 2, none⟩ = some (.int .i64 (r : Nat)) := (hst.1.cell 2).trans (HC2.out _)
          go_wp2
          clear c2
          go_loopw [34] (fun v wr => ∃ j : Nat, j ≤ r ∧ v = .int .i64 j ∧ LeadSt w B C F way c i j wr) (fun v _ => r - (intOf v).toNat)
          case atStart => exact ⟨0, Nat.zero_le _, rfl, hst⟩
          case round =>
            clear hst
            obtain ⟨j, hj, rfl, hst⟩ := hrel
            by_cases hjr : j < r
            · have k1 : wr.cell? ⟨B, 39 + way * 81 + i * 9 + j, none⟩ = some (.bool (wars (F way) c i j)) := (hst.1.cell _).trans ((ordC_at HC.out _ hw (by omega) (by omega)).trans (by rw [wayF_at, midF_here]))
              have k2 : wr.cell? ⟨B, 39 + way * 81 + i * 9 + c, none⟩ = some (.bool (wars (F way) c i c)) := (hst.1.cell _).trans ((ordC_at HC.out _ hw (by omega) (by omega)).trans (by rw [wayF_at, midF_to]))
              have k3 : wr.cell? ⟨B, 39 + way * 81 + c * 9 + j, none⟩ = some (.bool (wars (F way) c c j)) := (hst.1.cell _).trans ((ordC_at HC.out _ hw (by omega) (by omega)).trans (by rw [wayF_at, midF_from]))
              have f1 := hst.1.frozen (39 + way * 81 + i * 9 + j)
              have hst2 := hst.put HC.out hw (by omega) (by omega)
              rw [wars_succ] at hst2
              clear hst
              generalize wars (F way) c i j = x1 at *
              generalize wars (F way) c i c = x2 at *
              generalize wars (F way) c c j = x3 at *
              have hi9 : (i : Int) < 9 := by omega
              have hj9 : (j : Int) < 9 := by omega
              have hc9 : (c : Int) < 9 := by omega
              have hi9' : i < 9 := by omega
              have hj9' : j < 9 := by omega
              have hc9' : c < 9 := by omega
              cases x1
              · cases x2
                · simp only [Bool.false_or, Bool.false_and] at hst2
                  go_wp2
                  go_region
                  all_goals
                    go_wp2
                    go_roundw
                    case rel => exact ⟨j + 1, by omega, by go_num, hst2.drew⟩
                    case measure => simp [intOf]; omega
                · simp only [Bool.false_or, Bool.true_and] at hst2
                  go_wp2
                  go_region
                  all_goals
                    go_wp2
                    go_roundw
                    case rel => exact ⟨j + 1, by omega, by go_num, hst2.drew⟩
                    case measure => simp [intOf]; omega
              · simp only [Bool.true_or] at hst2
                go_wp2
                go_region
                all_goals
                  go_wp2
                  go_roundw
                  case rel => exact ⟨j + 1, by omega, by go_num, hst2.drew⟩
                  case measure => simp [intOf]; omega
            · obtain rfl : j = r := by omega
              have hst2 : LeadSt w B C F way c (i + 1) 0 wr := ⟨hst.1.eq (by rw [wayF_congr F way (fun a b => midF_row HF.out c i a b)]), hst.2⟩
              clear hst
              go_wp2
              go_roundw
              case rel => exact ⟨i + 1, by omega, by go_num, hst2⟩
              case measure => simp [intOf]; omega
        · obtain rfl : i = r := by omega
          have hst2 : LeadSt w B C F way (c + 1) 0 0 wr := ⟨hst.1.eq (by rw [wayF_congr F way (fun a b => (midF_all HF.out c a b).trans (midF_zero _ _ a b).symm)]), hst.2⟩
          clear hst
          go_wp2
          go_roundw
          case rel => exact ⟨c + 1, by omega, by go_num, hst2⟩
          case measure => simp [intOf]; omega
    · obtain rfl : c = r := by omega
      have hst2 : HeldB wr B 46 (ordC C (wayF' F way (wars (F way) c))) := hst.1.eq (by rw [wayF_congr F way (fun a b => midF_zero _ _ a b)])
      have hg := hst.2
      clear hst
      go_wp2
      exact bodyPost_end (v := .tuple #[]) (by simp [results, Try.results69, go_sem]) rfl ⟨rfl, hst2, hg⟩
end Go.Proofs.Yteallnkaapdifaa
