
/-
  Merged texts: OrdI OrdL OrdO.
-/
import Derived.Test.YthlbekookpcacaaOrdMG
import Derived.OrdersHeld
import Derived.BigRegion
import Derived.Deep.MidRow

/-
  Orders of rooms: what they are in memory, and how rooms lead on. (Walks.)
-/
namespace Go.Proofs.Ythlbekookpcacaa
open Go.RowKit

/-- which room leads to which, by the way of the walls, as cells behind a plan's -/
def ldsL (F : Nat → Nat → Nat → Bool) : List Value := (List.range 162).map fun i => .bool (F (i / 81) (i % 81 / 9) (i % 9))
def ordC (C : Array Value) (F : Nat → Nat → Nat → Bool) : Array Value := C ++ (ldsL F).toArray
theorem ldsL_len (F : Nat → Nat → Nat → Bool) : (ldsL F).length = 162 := by simp [ldsL]
theorem ordC_size {C : Array Value} (h : C.size = 39) (F : Nat → Nat → Nat → Bool) : (ordC C F).size = 201 := by simp [ordC, h, ldsL_len]
theorem ordC_lo {C : Array Value} (F : Nat → Nat → Nat → Bool) {k : Nat} (hk : k < C.size) : (ordC C F)[k]? = C[k]? := by
  unfold ordC; rw [Array.getElem?_append_left hk]
theorem ldsL_at (F : Nat → Nat → Nat → Bool) {way a b : Nat} (hw : way < 2) (ha : a < 9) (hb : b < 9) : (ldsL F)[way * 81 + a * 9 + b]? = some (.bool (F way a b)) := by
  unfold ldsL
  rw [List.getElem?_map, List.getElem?_range (by omega)]
  simp only [Option.map_some]
  rw [show (way * 81 + a * 9 + b) / 81 = way by omega, show (way * 81 + a * 9 + b) % 81 / 9 = a by omega, show (way * 81 + a * 9 + b) % 9 = b by omega]
theorem ordC_at {C : Array Value} (h : C.size = 39) (F : Nat → Nat → Nat → Bool) {way a b : Nat} (hw : way < 2) (ha : a < 9) (hb : b < 9) : (ordC C F)[39 + way * 81 + a * 9 + b]? = some (.bool (F way a b)) := by
  unfold ordC
  rw [Array.getElem?_append_right (by omega), h, show 39 + way * 81 + a * 9 + b - 39 = way * 81 + a * 9 + b by omega, List.getElem?_toArray]
  exact ldsL_at F hw ha hb
/-- one lead told -/
def putLd (F : Nat → Nat → Nat → Bool) (way a b : Nat) (v : Bool) : Nat → Nat → Nat → Bool := fun w x y => if w = way ∧ x = a ∧ y = b then v else F w x y
theorem ldsL_put (F : Nat → Nat → Nat → Bool) {way a b : Nat} (hw : way < 2) (ha : a < 9) (hb : b < 9) (v : Bool) : (ldsL F).set (way * 81 + a * 9 + b) (.bool v) = ldsL (putLd F way a b v) := by
  apply List.ext_getElem?
  intro i
  rw [List.getElem?_set]
  by_cases hi : way * 81 + a * 9 + b = i
  · subst hi
    rw [if_pos rfl, if_pos (by rw [ldsL_len]; omega), ldsL_at _ hw ha hb]
    simp [putLd]
  · rw [if_neg hi]
    by_cases hl : i < 162
    · unfold ldsL
      rw [List.getElem?_map, List.getElem?_map, List.getElem?_range hl]
      simp only [Option.map_some, putLd]
      rw [if_neg (by omega)]
    · rw [List.getElem?_eq_none (by rw [ldsL_len]; omega), List.getElem?_eq_none (by rw [ldsL_len]; omega)]
theorem ordC_put {C : Array Value} (h : C.size = 39) (F : Nat → Nat → Nat → Bool) {way a b : Nat} (hw : way < 2) (ha : a < 9) (hb : b < 9) (v : Bool) : (ordC C F).setIfInBounds (39 + way * 81 + a * 9 + b) (.bool v) = ordC C (putLd F way a b v) := by
  unfold ordC
  apply Array.toList_inj.1
  rw [Array.toList_setIfInBounds, Array.toList_append, Array.toList_append, List.set_append_right _ _ (by rw [Array.length_toList]; omega), Array.length_toList, h, show 39 + way * 81 + a * 9 + b - 39 = way * 81 + a * 9 + b by omega]
  congr 1
  exact ldsL_put F hw ha hb v
theorem ordC_same {C : Array Value} {F G : Nat → Nat → Nat → Bool} (h : ∀ w a b, w < 2 → a < 9 → b < 9 → F w a b = G w a b) : ordC C F = ordC C G := by
  unfold ordC ldsL
  congr 2
  refine List.map_congr_left fun i hi => ?_
  have := List.mem_range.1 hi
  rw [h _ _ _ (by omega) (by omega) (by omega)]
theorem ordC_one {C : Array Value} (h : C.all (·.oneCell') = true) (F : Nat → Nat → Nat → Bool) : (ordC C F).all (·.oneCell') = true := by
  unfold ordC
  rw [Array.all_append, h, Bool.true_and, Array.all_eq_true_iff_forall_mem]
  intro v hv
  unfold ldsL at hv
  simp only [List.mem_toArray, List.mem_map] at hv
  obtain ⟨i, _, rfl⟩ := hv
  rfl
theorem ord_info {C : Array Value} (h : C.size = 39) (F : Nat → Nat → Nat → Bool) : (Try.prog.info? 66).map (·.size) = some (ordC C F).size := by rw [ordC_size h]; kernel_rfl
def noF : Nat → Nat → Nat → Bool := fun _ _ _ => false
theorem zero_ord : ordC zeroC noF = #[.int .i64 0, .int .i64 0, .int .i64 0, .int .i64 0, .int .i64 0, .int .i64 0, .int .i64 0, .int .i64 0, .int .i64 0, .int .i64 0, .int .i64 0, .int .i64 0, .int .i64 0, .int .i64 0, .int .i64 0, .int .i64 0, .int .i64 0, .int .i64 0, .int .i64 0, .int .i64 0, .int .i64 0, .int .i64 0, .int .i64 0, .int .i64 0, .int .i64 0, .int .i64 0, .int .i64 0, .int .i64 0, .int .i64 0, .int .i64 0, .int .i64 0, .int .i64 0, .int .i64 0, .int .i64 0, .int .i64 0, .int .i64 0, .int .i64 0, .int .i64 0, .int .i64 0, .bool false, .bool false, .bool false, .bool false, .bool false, .bool false, .bool false, .bool false, .bool false, .bool false, .bool false, .bool false, .bool false, .bool false, .bool false, .bool false, .bool false, .bool false, .bool false, .bool false, .bool false, .bool false, .bool false, .bool false, .bool false, .bool false, .bool false, .bool false, .bool false, .bool false, .bool false, .bool false, .bool false, .bool false, .bool false, .bool false, .bool false, .bool false, .bool false, .bool false, .bool false, .bool false, .bool false, .bool false, .bool false, .bool false, .bool false, .bool false, .bool false, .bool false, .bool false, .bool false, .bool false, .bool false, .bool false, .bool false, .bool false, .bool false, .bool false, .bool false, .bool false, .bool false, .bool false, .bool false, .bool false, .bool false, .bool false, .bool false, .bool false, .bool false, .bool false, .bool false, .bool false, .bool false, .bool false, .bool false, .bool false, .bool false, .bool false, .bool false, .bool false, .bool false, .bool false, .bool false, .bool false, .bool false, .bool false, .bool false, .bool false, .bool false, .bool false, .bool false, .bool false, .bool false, .bool false, .bool false, .bool false, .bool false, .bool false, .bool false, .bool false, .bool false, .bool false, .bool false, .bool false, .bool false, .bool false, .bool false, .bool false, .bool false, .bool false, .bool false, .bool false, .bool false, .bool false, .bool false, .bool false, .bool false, .bool false, .bool false, .bool false, .bool false, .bool false, .bool false, .bool false, .bool false, .bool false, .bool false, .bool false, .bool false, .bool false, .bool false, .bool false, .bool false, .bool false, .bool false, .bool false, .bool false, .bool false, .bool false, .bool false, .bool false, .bool false, .bool false, .bool false, .bool false, .bool false, .bool false, .bool false, .bool false, .bool false, .bool false, .bool false, .bool false, .bool false, .bool false, .bool false, .bool false, .bool false, .bool false, .bool false, .bool false] := by kernel_rfl
theorem zero_ordC (w : World) : (zeroValue 66).run Try.prog w = .ok (.agg (ordC zeroC noF)) w := by
  rw [zero_ord]; exact Try.zeroValue66 w
theorem built_ord (h wd r : Nat) (g : Nat → Nat → Nat) : Try.prog.built 66 [(0, .agg (planC h wd r g))] = some (ordC (planC h wd r g) noF) := by kernel_rfl
theorem built_noord : Try.prog.built 66 [] = some (ordC zeroC noF) := by kernel_rfl
/-- the plan of an order -/
theorem HeldB.planOf {W : World} {B : Nat} {C : Array Value} {F : Nat → Nat → Nat → Bool} (h : HeldB W B 66 (ordC C F)) : W.rangeAt B 0 C.toList := fun j v hv => by
  have hj : j < C.size := by
    have := (List.getElem?_eq_some_iff.1 hv).1
    simpa using this
  rw [Nat.zero_add, h.cell j, ordC_lo F hj, ← hv]; simp
theorem plan_len {C : Array Value} (h : C.size = 39) : (Try.prog.info? 50).map (·.size) = some C.toList.length := by rw [Array.length_toList, h]; kernel_rfl

/-- how far the leading on over one room has come -/
def midF (f : Nat → Nat → Bool) (c i j : Nat) (a b : Nat) : Bool := if a < i ∨ a = i ∧ b < j then wars f (c + 1) a b else wars f c a b
theorem midF_to (f : Nat → Nat → Bool) (c i j a : Nat) : midF f c i j a c = wars f c a c := by
  unfold midF; split
  · exact wars_to f c a
  · rfl
theorem midF_from (f : Nat → Nat → Bool) (c i j b : Nat) : midF f c i j c b = wars f c c b := by
  unfold midF; split
  · exact wars_from f c b
  · rfl
theorem midF_here (f : Nat → Nat → Bool) (c i j : Nat) : midF f c i j i j = wars f c i j := by unfold midF; rw [if_neg (by omega)]
theorem midF_zero (f : Nat → Nat → Bool) (c a b : Nat) : midF f c 0 0 a b = wars f c a b := by unfold midF; rw [if_neg (by omega)]
theorem midF_step (f : Nat → Nat → Bool) (c i j a b : Nat) : midF f c i (j + 1) a b = if a = i ∧ b = j then wars f (c + 1) i j else midF f c i j a b := by
  unfold midF
  by_cases h : a = i ∧ b = j
  · obtain ⟨rfl, rfl⟩ := h; rw [if_pos (by omega), if_pos ⟨rfl, rfl⟩]
  · rw [if_neg h]
    by_cases h2 : a < i ∨ a = i ∧ b < j
    · rw [if_pos h2, if_pos (by omega)]
    · rw [if_neg h2, if_neg (by omega)]
theorem midF_row {f : Nat → Nat → Bool} {n : Nat} (hf : ∀ a b, f a b = true → a < n ∧ b < n) (c i : Nat) (a b : Nat) : midF f c i n a b = midF f c (i + 1) 0 a b := by
  unfold midF
  by_cases h : a < i ∨ a = i ∧ b < n
  · rw [if_pos h, if_pos (by omega)]
  · rw [if_neg h]
    by_cases h2 : a < i + 1 ∨ a = i + 1 ∧ b < 0
    · rw [if_pos h2]
      have hb : n ≤ b := by omega
      have z : ∀ k, wars f k a b = false := fun k => by
        rw [Bool.eq_false_iff]; intro e; have := (wars_in hf k a b e).2; omega
      rw [z, z]
    · rw [if_neg h2]
theorem midF_all {f : Nat → Nat → Bool} {n : Nat} (hf : ∀ a b, f a b = true → a < n ∧ b < n) (c : Nat) (a b : Nat) : midF f c n 0 a b = wars f (c + 1) a b := by
  unfold midF
  by_cases h : a < n ∨ a = n ∧ b < 0
  · rw [if_pos h]
  · rw [if_neg h]
    have z : ∀ k, wars f k a b = false := fun k => by
      rw [Bool.eq_false_iff]; intro e; have := (wars_in hf k a b e).1; omega
    rw [z, z]
/-- leads of one way in place of others -/
def wayF' (F : Nat → Nat → Nat → Bool) (way : Nat) (f : Nat → Nat → Bool) : Nat → Nat → Nat → Bool := fun w a b => if w = way then f a b else F w a b
theorem wayF_at (F : Nat → Nat → Nat → Bool) (way : Nat) (f : Nat → Nat → Bool) (a b : Nat) : wayF' F way f way a b = f a b := if_pos rfl
theorem wayF_put (F : Nat → Nat → Nat → Bool) (way : Nat) (f : Nat → Nat → Bool) (c i j : Nat) : putLd (wayF' F way (midF f c i j)) way i j (wars f (c + 1) i j) = wayF' F way (midF f c i (j + 1)) := by
  funext w a b
  unfold putLd wayF'
  rw [midF_step]
  by_cases h1 : w = way
  · rw [if_pos h1, if_pos h1]
    by_cases h2 : a = i ∧ b = j
    · rw [if_pos ⟨h1, h2⟩, if_pos h2]
    · rw [if_neg (fun e => h2 e.2), if_neg h2]
  · rw [if_neg (fun e => h1 e.1), if_neg h1, if_neg h1]
theorem wayF_congr (F : Nat → Nat → Nat → Bool) (way : Nat) {f f' : Nat → Nat → Bool} (h : ∀ a b, f a b = f' a b) : wayF' F way f = wayF' F way f' := by
  funext w a b; unfold wayF'; split
  · exact h a b
  · rfl

end Go.Proofs.Ythlbekookpcacaa

/-
  How rooms lead on by way of other rooms: the program's three loops. (Walk.)
-/
namespace Go.Proofs.Ythlbekookpcacaa
open Go.RowKit

theorem grownBy_cell (w : World) (b i : Nat) (v : Value) : w.grownBy (w.setCell ⟨b, i, none⟩ v) (some b) :=
  ⟨rfl, rfl, rfl, (KeepsWalks.setCell w _ v).size, fun k _ hk => Below.heap_setCell _ _ _ k (fun e => hk (by rw [e]))⟩

/-- the world in which the leading on has come so far -/
def LeadSt (w : World) (B : Nat) (C : Array Value) (F : Nat → Nat → Nat → Bool) (way c i j : Nat) (wr : World) : Prop :=
  HeldB wr B 66 (ordC C (wayF' F way (midF (F way) c i j))) ∧ w.grownBy wr (some B)
theorem LeadSt.drew {w : World} {B : Nat} {C : Array Value} {F : Nat → Nat → Nat → Bool} {way c i j : Nat} {wr : World} (h : LeadSt w B C F way c i j wr) : LeadSt w B C F way c i j wr.drew :=
  ⟨h.1.drew, grownBy_trans h.2 (grownBy_of_below (below_drewN _ wr 1) _)⟩
theorem LeadSt.put {w : World} {B : Nat} {C : Array Value} (hC : C.size = 39) {F : Nat → Nat → Nat → Bool} {way c i j : Nat} {wr : World} (hw : way < 2) (hi : i < 9) (hj : j < 9) (h : LeadSt w B C F way c i j wr) :
    LeadSt w B C F way c i (j + 1) (wr.setCell ⟨B, 39 + way * 81 + i * 9 + j, none⟩ (.bool (wars (F way) (c + 1) i j))) := by
  refine ⟨?_, grownBy_trans h.2 (grownBy_cell wr B _ _)⟩
  have := h.1.set (39 + way * 81 + i * 9 + j) (.bool (wars (F way) (c + 1) i j))
  rw [ordC_put hC _ hw hi hj, wayF_put] at this
  exact this

set_option maxRecDepth 100000 in
set_option maxHeartbeats 1600000 in
theorem leadOn_any (B h wd r : Nat) (g : Nat → Nat → Nat) (F : Nat → Nat → Nat → Bool) (way : Nat) (w : World) (hw : way < 2) (hr : r ≤ 9) (hF : ∀ a b, F way a b = true → a < r ∧ b < r)
    (hB : HeldB w B 66 (ordC (planC h wd r g) F)) :
    Calls Try.prog 115 #[.pointer (some ⟨B, 0, none⟩), .int .i64 way] w
      fun e w' => e = .returned (.tuple #[]) ∧ HeldB w' B 66 (ordC (planC h wd r g) (wayF' F way (wars (F way) r))) ∧ w.grownBy w' (some B) := by
  have hC := planC_size h wd r g
  have hst0 : LeadSt w B (planC h wd r g) F way 0 0 0 w := by
    refine ⟨hB.eq (ordC_same fun x a b _ _ _ => ?_), World.grownBy.refl w _⟩
    unfold wayF'
    split
    · rename_i hx; subst hx; rw [midF_zero]; rfl
    · rfl
  have hC2 : ∀ F', (ordC (planC h wd r g) F')[2]? = some (.int .i64 (r : Nat)) := fun F' => by rw [ordC_lo F' (by omega), planC_2]
  have HC2 := Lib.hid hC2; clear hC2
  have HC := Lib.hid hC
  have HF := Lib.hid hF; clear hF hB
  generalize planC h wd r g = C at *
  have hwi : (way : Int) < 2 := by omega
  clear hC
  go_enter Try.func115, Try.ntmps115
  have c2 : w.cell? ⟨B, 2, none⟩ = some (.int .i64 (r : Nat)) := (hst0.1.cell 2).trans (HC2.out _)
  go_wp2
  clear c2
  go_loopw [18] (fun v wr => ∃ c : Nat, c ≤ r ∧ v = .int .i64 c ∧ LeadSt w B C F way c 0 0 wr) (fun v _ => r - (intOf v).toNat)
  case atStart => exact ⟨0, Nat.zero_le _, rfl, hst0⟩
  case round =>
    clear hst0
    obtain ⟨c, hc, rfl, hst⟩ := hrel
    by_cases hcr : c < r
    · have c2 : wr.cell? ⟨B, 2, none⟩ = some (.int .i64 (r : Nat)) := (hst.1.cell 2).trans (HC2.out _)
      go_wp2
      clear c2
      go_loopw [26] (fun v wr => ∃ i : Nat, i ≤ r ∧ v = .int .i64 i ∧ LeadSt w B C F way c i 0 wr) (fun v _ => r - (intOf v).toNat)
      case atStart => exact ⟨0, Nat.zero_le _, rfl, hst⟩
      case round =>
        clear hst
        obtain ⟨i, hi, rfl, hst⟩ := hrel
        by_cases hir : i < r
        · have c2 : wr.cell? ⟨B, 2, none⟩ = some (.int .i64 (r : Nat)) := (hst.1.cell 2).trans (HC2.out _)
          go_wp2
          clear c2
          go_loopw [34] (fun v wr => ∃ j : Nat, j ≤ r ∧ v = .int .i64 j ∧ LeadSt w B C F way c i j wr) (fun v _ => r - (intOf v).toNat)
          case atStart => exact ⟨0, Nat.zero_le _, rfl, hst⟩
          case round =>
            clear hst
            obtain ⟨j, hj, rfl, hst⟩ := hrel
            by_cases hjr : j < r
            · have k1 : wr.cell? ⟨B, 39 + way * 81 + i * 9 + j, none⟩ = some (.bool (wars (F way) c i j)) := (hst.1.cell _).trans ((ordC_at HC.out _ hw (by omega) (by omega)).trans (by rw [wayF_at, midF_here]))
              have k2 : wr.cell? ⟨B, 39 + way * 81 + i * 9 + c, none⟩ = some (.bool (wars (F way) c i c)) := (hst.1.cell _).trans ((ordC_at HC.out _ hw (by omega) (by omega)).trans (by rw [wayF_at, midF_to]))
              have k3 : wr.cell? ⟨B, 39 + way * 81 + c * 9 + j, none⟩ = some (.bool (wars (F way) c c j)) := (hst.1.cell _).trans ((ordC_at HC.out _ hw (by omega) (by omega)).trans (by rw [wayF_at, midF_from]))
              have f1 := hst.1.frozen (39 + way * 81 + i * 9 + j)
              have hst2 := hst.put HC.out hw (by omega) (by omega)
              rw [wars_succ] at hst2
              clear hst
              generalize wars (F way) c i j = x1 at *
              generalize wars (F way) c i c = x2 at *
              generalize wars (F way) c c j = x3 at *
              have hi9 : (i : Int) < 9 := by omega
              have hj9 : (j : Int) < 9 := by omega
              have hc9 : (c : Int) < 9 := by omega
              have hi9' : i < 9 := by omega
              have hj9' : j < 9 := by omega
              have hc9' : c < 9 := by omega
              cases x1
              · cases x2
                · simp only [Bool.false_or, Bool.false_and] at hst2
                  go_wp2
                  go_region
                  all_goals
                    go_wp2
                    go_roundw
                    case rel => exact ⟨j + 1, by omega, by go_num, hst2.drew⟩
                    case measure => simp [intOf]; omega
                · simp only [Bool.false_or, Bool.true_and] at hst2
                  go_wp2
                  go_region
                  all_goals
                    go_wp2
                    go_roundw
                    case rel => exact ⟨j + 1, by omega, by go_num, hst2.drew⟩
                    case measure => simp [intOf]; omega
              · simp only [Bool.true_or] at hst2
                go_wp2
                go_region
                all_goals
                  go_wp2
                  go_roundw
                  case rel => exact ⟨j + 1, by omega, by go_num, hst2.drew⟩
                  case measure => simp [intOf]; omega
            · obtain rfl : j = r := by omega
              have hst2 : LeadSt w B C F way c (i + 1) 0 wr := ⟨hst.1.eq (by rw [wayF_congr F way (fun a b => midF_row HF.out c i a b)]), hst.2⟩
              clear hst
              go_wp2
              go_roundw
              case rel => exact ⟨i + 1, by omega, by go_num, hst2⟩
              case measure => simp [intOf]; omega
        · obtain rfl : i = r := by omega
          have hst2 : LeadSt w B C F way (c + 1) 0 0 wr := ⟨hst.1.eq (by rw [wayF_congr F way (fun a b => (midF_all HF.out c a b).trans (midF_zero _ _ a b).symm)]), hst.2⟩
          clear hst
          go_wp2
          go_roundw
          case rel => exact ⟨c + 1, by omega, by go_num, hst2⟩
          case measure => simp [intOf]; omega
    · obtain rfl : c = r := by omega
      have hst2 : HeldB wr B 66 (ordC C (wayF' F way (wars (F way) c))) := hst.1.eq (by rw [wayF_congr F way (fun a b => midF_zero _ _ a b)])
      have hg := hst.2
      clear hst
      go_wp2
      exact bodyPost_end (v := .tuple #[]) (by simp [results, Try.results115, go_sem]) rfl ⟨rfl, hst2, hg⟩
end Go.Proofs.Ythlbekookpcacaa

/-
  The order of a plan: what leads over walls, and on from there. (Walk.)
-/
namespace Go.Proofs.Ythlbekookpcacaa
open Go.RowKit

theorem wpList_load_plan {P : Program} {ops : Array Oper} {rest : List Oper} {op : Oper} {a : Act} {w : World} {Q : Exit → Act → World → Prop} (hgd : op.guard = none) (ty : TypeId) (x : Operand) (ho : op.op = .load ty x)
    (b o : Nat) (hx : a.eval x = .pointer (some ⟨b, o, none⟩)) (C : Array Value) (d : TypeDesc) (hc : w.rangeAt b o C.toList)
    (hu : P.underlying ty = some d) (hd : d.isRow = true) (hi : (P.info? ty).map (·.size) = some C.toList.length)
    (h : wpList P ops Q rest (a.put op.dst (.agg C)) w) : wpList P ops Q (op :: rest) a w :=
  wpList_load_mid hgd ty x ho b o hx C.toList d hc hu hd hi (by simpa using h)
theorem results_ord {fn : Func} {p : Tmp} (h : fn.results = #[.cell p 66]) {tmps : Array Value} {w : World} {B : Nat} {D : Array Value}
    (hp : tmps.getD p undef = .pointer (some ⟨B, 0, none⟩)) (hB : HeldB w B 66 D) (hs : D.size = 201) :
    (results fn tmps).run Try.prog w = .ok (.agg D) w :=
  results_cell_row h tmps w B 66 D (0, 0) _ (by rw [hp]) hB Try.underlying66 rfl (by rw [hs]; kernel_rfl)

/-- where the orders of a plan lie while they are made -/
def OrSt (w : World) (Z C : Array Value) (ro : Option Addr) (L : List Wl) (F : Nat → Nat → Nat → Bool) (wr : World) : Prop :=
  HeldB wr (w.heap.size + 1) 66 Z ∧ HeldB wr (w.heap.size + 2) 66 (ordC C F) ∧ CellsAt wr ro (wlsC L) ∧ Below w.heap.size w wr ∧ w.heap.size + 3 ≤ wr.heap.size
theorem OrSt.below {w : World} {Z C : Array Value} {ro : Option Addr} {L : List Wl} {F : Nat → Nat → Nat → Bool} {wr w1 : World} (h : OrSt w Z C ro L F wr) (hb : Below wr.heap.size wr w1) : OrSt w Z C ro L F w1 :=
  ⟨h.1.below hb, h.2.1.below hb, h.2.2.1.below hb, below_step h.2.2.2.1 h.2.2.2.1.size hb, Nat.le_trans h.2.2.2.2 hb.size⟩
theorem OrSt.put {w : World} {Z C : Array Value} (hC : C.size = 39) {ro : Option Addr} {L : List Wl} {F G : Nat → Nat → Nat → Bool} {wr : World} (h : OrSt w Z C ro L F wr) (hro : ∀ x, ro = some x → x.block ≠ w.heap.size + 2) {way a b : Nat} (hw : way < 2) (ha : a < 9) (hb : b < 9)
    (hG : putLd F way a b true = G) : OrSt w Z C ro L G (wr.setCell ⟨w.heap.size + 2, 39 + way * 81 + a * 9 + b, none⟩ (.bool true)) := by
  subst hG
  have hg := grownBy_cell wr (w.heap.size + 2) (39 + way * 81 + a * 9 + b) (.bool true)
  refine ⟨h.1.other (by simp) _, ?_, h.2.2.1.grown hg (fun x hx e => hro x hx (Option.some.inj e)), h.2.2.2.1.setCell (p := ⟨w.heap.size + 2, 39 + way * 81 + a * 9 + b, none⟩) (by simp) _, Nat.le_trans h.2.2.2.2 hg.size⟩
  have := h.2.1.set (39 + way * 81 + a * 9 + b) (.bool true)
  rwa [ordC_put hC _ hw ha hb] at this

def ledF (h wd r : Nat) (g : Nat → Nat → Nat) : Nat → Nat → Nat → Bool := fun way => leadG h wd r g way

set_option maxRecDepth 100000 in
set_option maxHeartbeats 4000000 in
theorem order_any (h wd r : Nat) (g : Nat → Nat → Nat) (w : World) (hh : h ≤ 6) (hw : wd ≤ 6) (hr : r ≤ 9) (hg : ∀ i j, i < h → j < wd → g i j < r) :
    Calls Try.prog 101 #[.agg (planC h wd r g)] w
      fun e w' => e = .returned (.agg (ordC (planC h wd r g) (ledF h wd r g))) ∧ Below w.heap.size w w' := by
  have HWA := Lib.hid (fun w => walls_any h wd r g w hh hw)
  have HPS := Lib.hid (plan_size h wd r g)
  have HCS := Lib.hid (planC_size h wd r g)
  have HOB := Lib.hid (built_ord h wd r g)
  have HO1 := Lib.hid (fun F => ordC_one (planC_one h wd r g) F)
  have HLO := Lib.hid (fun (B : Nat) (F : Nat → Nat → Nat → Bool) (way : Nat) (w : World) (a1 : way < 2) (a2 : ∀ a b, F way a b = true → a < r ∧ b < r) a3 => leadOn_any B h wd r g F way w a1 hr a2 a3)
  have HSI := Lib.hid (fun (X : Wl) (hX : X ∈ wallsG h wd g) (w : World) => show Calls Try.prog 114 #[.agg (planC h wd r g), .agg (wlC X)] w
      fun e w' => TwoRet w.heap.size (aheadL g X) (behindL g X) e w' ∧ Below w.heap.size w w' from by
    obtain ⟨m1, m2, m3, m4, m5, m6⟩ := wallsG_mem hX
    have a1 : acrossN h wd X.way ≤ 6 := by unfold acrossN; split <;> omega
    have a2 : alongN h wd X.way ≤ 6 := by unfold alongN; split <;> omega
    exact sides_any h wd r g X w m2 (by omega) (by omega))
  have HAR := Lib.hid (fun (X : Wl) (hX : X ∈ wallsG h wd g) (i : Nat) hi => ahead_room hg hX (i := i) hi)
  have HBR := Lib.hid (fun (X : Wl) (hX : X ∈ wallsG h wd g) (i : Nat) hi => behind_room hg hX (i := i) hi)
  have HFE := Lib.hid (fun (X : Wl) (hX : X ∈ wallsG h wd g) => sides_few hh hw hX)
  have HWY := Lib.hid (fun (X : Wl) (hX : X ∈ wallsG h wd g) => (wallsG_mem hX).1)
  have HIN := Lib.hid (fun way => justG_in hg way)
  have HLE := Lib.hid (wallsG_len (g := g) hh hw)
  have HDEF := Lib.hid (show ∀ way, leadG h wd r g way = wars (justL g way (wallsG h wd g)) r from fun _ => rfl)
  have HJG := Lib.hid (show ∀ way, justG h wd g way = justL g way (wallsG h wd g) from fun _ => rfl)
  unfold ledF
  generalize wallsG h wd g = L at *
  generalize leadG h wd r g = lead at *
  generalize justG h wd g = just at *
  generalize planC h wd r g = C at *
  clear hg
  have HSO := Lib.hid (fun F => ordC_size HCS.out F)
  have HPL := Lib.hid (plan_len HCS.out)
  have HI2 := Lib.hid (fun F => ord_info HCS.out F)
  have HZ0 := Lib.hid zero_ordC
  have HZS := Lib.hid (show (ordC zeroC noF).size = 201 from ordC_size (planC_size _ _ _ _) _)
  have HZ1 := Lib.hid (HO1.out noF)
  have HDS := Lib.hid (HSO.out noF)
  have HD2 := Lib.hid (HI2.out noF)
  obtain ⟨D, hD⟩ : ∃ D, D = ordC C noF := ⟨_, rfl⟩
  rw [← hD] at HOB HZ1 HDS HD2
  have HD := Lib.hid hD; clear hD
  generalize ordC zeroC noF = Z at *
  go_enter Try.func101, Try.ntmps101
  have b0 : HeldB ((w.alloc (.cells C 50)).alloc (.cells Z 66)) w.heap.size 50 C := (HeldB.new w _ _).alloc _
  have b1 : HeldB (((w.alloc (.cells C 50)).alloc (.cells Z 66)).alloc (.cells D 66)) (w.heap.size + 1) 66 Z := by
    have := (HeldB.new (w.alloc (.cells C 50)) 66 Z).alloc (.cells D 66)
    rwa [World.size_alloc] at this
  have b2 : HeldB (((w.alloc (.cells C 50)).alloc (.cells Z 66)).alloc (.cells D 66)) (w.heap.size + 2) 66 (ordC C noF) := by
    have := HeldB.new ((w.alloc (.cells C 50)).alloc (.cells Z 66)) 66 D
    rw [World.size_alloc, World.size_alloc] at this
    exact this.eq HD.out
  have p2 := b2.planOf
  go_wp2_with (first
    | (refine wpList_alloc_zero rfl 66 rfl Z HZ0.out ?_)
    | (refine wpList_load_row rfl 50 _ rfl w.heap.size rfl 50 C (0, 0) _ b0 Try.underlying50 rfl HPS.out ?_)
    | (refine wpList_build_as rfl 66 _ rfl D (by simp only [List.map_toArray, List.map_cons, List.map_nil]; exact HOB.out) ?_)
    | (refine wpList_store_new rfl 66 _ _ rfl _ Z D rfl rfl rfl HD2.out (by rw [HZS.out, HDS.out]) HZ1.out ?_)
    | (refine wpList_load_plan rfl 50 _ rfl (w.heap.size + 2) 0 rfl C _ p2 Try.underlying50 rfl HPL.out ?_)
    | (go_at_call 113; refine (HWA.out _).mono ?_; rintro e w2 ⟨ro, rc, rfl, hown2, hb2⟩))
  have hW0 : Below w.heap.size w (((w.alloc (.cells C 50)).alloc (.cells Z 66)).alloc (.cells D 66)) := (((Below.refl _ w).alloc (Nat.le_refl _) _).alloc (by simp) _).alloc (by simp; omega) _
  have hsz : (((w.alloc (.cells C 50)).alloc (.cells Z 66)).alloc (.cells D 66)).heap.size = w.heap.size + 3 := by simp
  generalize (((w.alloc (.cells C 50)).alloc (.cells Z 66)).alloc (.cells D 66)) = W0 at *
  have hro : ∀ x, ro = some x → x.block ≠ w.heap.size + 2 := fun x hx => by have := owns_lt hown2 x hx; omega
  have hs2 : w.heap.size + 3 ≤ w2.heap.size := by have := hb2.size; omega
  have st2 : OrSt w Z C ro L (fun way => justL g way (L.take 0)) w2 := ⟨b1.below hb2, (b2.below hb2).eq (by rw [show (noF : Nat → Nat → Nat → Bool) = fun way => justL g way (L.take 0) from rfl]), ownsK_cells hown2, below_step hW0 hW0.size hb2, hs2⟩
  clear hsz hW0 b0 b1 b2 p2 hown2 hb2 hs2 HD HOB HD2 HDS HZ1
  have HRO := Lib.hid hro; clear hro
  go_loopw [18] (fun v wr => ∃ n : Nat, n ≤ L.length ∧ v = .int .i64 n ∧ OrSt w Z C ro L (fun way => justL g way (L.take n)) wr) (fun v _ => L.length - (intOf v).toNat)
  case atStart => exact ⟨0, Nat.zero_le _, rfl, st2⟩
  case round =>
    clear st2
    obtain ⟨n, hn, rfl, hst⟩ := hrel
    by_cases hnl : n < L.length
    · have hX : L.getD n zeroWl ∈ L := getD_mem zeroWl hnl
      have HTK := Lib.hid (take_snoc L n zeroWl hnl)
      obtain ⟨b, off, hb, hrg⟩ := wls_range hst.2.2.1 hnl
      generalize L.getD n zeroWl = X at *
      have hw2 := HWY.out X hX
      have hw2i : (X.way : Int) < 2 := by omega
      have HSX := Lib.hid (HSI.out X hX)
      have HAX := Lib.hid (HAR.out X hX)
      have HBX := Lib.hid (HBR.out X hX)
      have HAP := Lib.hid (fun (i j : Nat) hi hj x y hx hy => accF_put (g := g) (X := X) (i := i) (j := j) (x := x) (y := y) (L.take n) hi hj hx hy)
      have HAROW := Lib.hid (fun (i : Nat) hi => accF_row (g := g) (X := X) (i := i) (L.take n) hi)
      have HAALL := Lib.hid (accF_all g (L.take n) X)
      obtain ⟨hA6, hB6⟩ := HFE.out X hX
      have hL72 := HLE.out
      have st0 : OrSt w Z C ro L (accF g (L.take n) X 0 0) wr := by rw [accF_zero]; exact hst
      have HRO2 := Lib.hid (show ∀ x, ro = some x → x.block ≠ w.heap.size + 2 from HRO.out)
      have HNX := Lib.hid (show accF g (L.take n) X (aheadL g X).length 0 = fun way => justL g way (L.take (n + 1)) by rw [HTK.out, accF_all])
      have hV3 : w.heap.size + 3 ≤ wr.heap.size := hst.2.2.2.2
      have st3 := st0.below (below_alloc wr (.cells (wlC X) 134))
      have hbX := HeldB.new wr 134 (wlC X)
      have p3 := st3.2.1.planOf
      have hsz3 : (wr.alloc (.cells (wlC X) 134)).heap.size = wr.heap.size + 1 := by simp
      subst hb
      clear hst st0
      go_wp2_with (first
        | (refine wpList_load_wl rfl 134 _ rfl b (off + n * 4) rfl X _ hrg Try.underlying134 rfl Try.sizeWl ?_)
        | (refine wpList_store_new rfl 134 _ _ rfl _ (wlC zeroWl) (wlC X) rfl rfl rfl (wl_size _) rfl (wlC_one _) ?_)
        | (refine wpList_load_plan rfl 50 _ rfl (w.heap.size + 2) 0 rfl C _ p3 Try.underlying50 rfl HPL.out ?_)
        | (refine wpList_load_row rfl 134 _ rfl wr.heap.size rfl 134 (wlC X) (0, 0) _ hbX Try.underlying134 rfl (wl_size _) ?_)
        | (go_at_call 114; refine (HSX.out _).mono ?_; rintro e w4 ⟨⟨r0, q0, r1, q1, rfl, o0, o1, hap⟩, hb4⟩))
      have st4 := st3.below hb4
      have hbX4 := hbX.below hb4
      have cA := owns_cells o0
      have cB := owns_cells o1
      have hr0 : ∀ x, r0 = some x → x.block ≠ w.heap.size + 2 := fun x hx => by have := owns_lt o0 x hx; omega
      have hr1 : ∀ x, r1 = some x → x.block ≠ w.heap.size + 2 := fun x hx => by have := owns_lt o1 x hx; omega
      obtain ⟨V, hV⟩ : ∃ V, V = wr.heap.size := ⟨_, rfl⟩
      rw [← hV] at hbX4 ⊢
      have hVn : V ≠ w.heap.size + 2 := by omega
      clear hb4 o0 o1 hap st3 hbX p3 hsz3 hV hV3 hrg
      have HR0 := Lib.hid hr0; have HR1 := Lib.hid hr1
      clear hr0 hr1
      go_loopw [31] (fun v wm => ∃ i : Nat, i ≤ (aheadL g X).length ∧ v = .int .i64 i ∧ OrSt w Z C (some ⟨b, off, none⟩) L (accF g (L.take n) X i 0) wm ∧ HeldB wm V 134 (wlC X) ∧ CellsAt wm r0 ((aheadL g X).map (Value.int .i64)) ∧ CellsAt wm r1 ((behindL g X).map (Value.int .i64))) (fun v _ => (aheadL g X).length - (intOf v).toNat)
      case atStart => exact ⟨0, Nat.zero_le _, rfl, st4, hbX4, cA, cB⟩
      case round =>
        clear st4 hbX4 cA cB
        obtain ⟨i, hi, rfl, hst, hbX, cA, cB⟩ := hrel
        by_cases hil : i < (aheadL g X).length
        · obtain ⟨x, hx, hxr⟩ := HAX.out i hil
          obtain ⟨ab, ao, rfl, ca⟩ := cA i (.int .i64 (x : Int)) (by rw [List.getElem?_map, List.getElem?_eq_getElem hil, ← hx]; simp [hil])
          have hili : (i : Int) < ((aheadL g X).length : Int) := by omega
          go_wp2
          clear ca
          go_loopw [37] (fun v wm => ∃ j : Nat, j ≤ (behindL g X).length ∧ v = .int .i64 j ∧ OrSt w Z C (some ⟨b, off, none⟩) L (accF g (L.take n) X i j) wm ∧ HeldB wm V 134 (wlC X) ∧ CellsAt wm (some ⟨ab, ao, none⟩) ((aheadL g X).map (Value.int .i64)) ∧ CellsAt wm r1 ((behindL g X).map (Value.int .i64))) (fun v _ => (behindL g X).length - (intOf v).toNat)
          case atStart => exact ⟨0, Nat.zero_le _, rfl, hst, hbX, cA, cB⟩
          case round =>
            clear hst hbX cA cB
            obtain ⟨j, hj, rfl, hst, hbX, cA, cB⟩ := hrel
            by_cases hjl : j < (behindL g X).length
            · obtain ⟨y, hy, hyr⟩ := HBX.out j hjl
              obtain ⟨bb, bo, rfl, cb⟩ := cB j (.int .i64 (y : Int)) (by rw [List.getElem?_map, List.getElem?_eq_getElem hjl, ← hy]; simp [hjl])
              have hjli : (j : Int) < ((behindL g X).length : Int) := by omega
              have x0 : wr.cell? ⟨V, 0, none⟩ = some (.int .i64 (X.way : Nat)) := hbX.cell 0
              have f1 := hst.2.1.frozen (39 + X.way * 81 + x * 9 + y)
              have hx9 : x < 9 := by omega
              have hy9 : y < 9 := by omega
              have hx9i : (x : Int) < 9 := by omega
              have hy9i : (y : Int) < 9 := by omega
              have hst2 := hst.put HCS.out HRO2.out hw2 hx9 hy9 (HAP.out i j hil hjl x y hx hy)
              have hbX2 := hbX.other (a := ⟨w.heap.size + 2, 39 + X.way * 81 + x * 9 + y, none⟩) hVn (.bool true)
              have hgc := grownBy_cell wr (w.heap.size + 2) (39 + X.way * 81 + x * 9 + y) (.bool true)
              have cA2 := cA.grown hgc (fun z hz e => HR0.out z hz (Option.some.inj e))
              have cB2 := cB.grown hgc (fun z hz e => HR1.out z hz (Option.some.inj e))
              have k1 : wr.cell? ⟨w.heap.size + 2, 39 + X.way * 81 + x * 9 + y, none⟩ = some (.bool (accF g (L.take n) X i j X.way x y)) := (hst.2.1.cell _).trans (ordC_at HCS.out _ hw2 hx9 hy9)
              clear hst hbX hgc cA cB
              go_wp2
              go_roundw
              case rel => exact ⟨j + 1, by omega, by go_num, hst2, hbX2, cA2, cB2⟩
              case measure => simp [intOf]; omega
            · obtain rfl : j = (behindL g X).length := by omega
              rw [HAROW.out i hil] at hst
              go_wp2
              go_roundw
              case rel => exact ⟨i + 1, by omega, by go_num, hst, hbX, cA, cB⟩
              case measure => simp [intOf]; omega
        · obtain rfl : i = (aheadL g X).length := by omega
          rw [HNX.out] at hst
          go_wp2
          go_roundw
          case rel => exact ⟨n + 1, by omega, by go_num, hst⟩
          case measure => simp [intOf]; omega
    · obtain rfl : n = L.length := by omega
      rw [List.take_length] at hst
      obtain ⟨F, hF⟩ : ∃ F : Nat → Nat → Nat → Bool, F = fun way => justL g way L := ⟨_, rfl⟩
      rw [← hF] at hst
      have HF := Lib.hid hF; clear hF
      have HL0 := Lib.hid (HLO.out (w.heap.size + 2) F 0 wr (by omega) (by rw [HF.out]; exact fun a b e => HIN.out 0 a b (by rw [HJG.out]; exact e)) hst.2.1)
      have HL1 := Lib.hid (fun (w5 : World) h5 => HLO.out (w.heap.size + 2) (wayF' F 0 (wars (F 0) r)) 1 w5 (by omega) (by unfold wayF'; rw [HF.out]; exact fun a b e => HIN.out 1 a b (by rw [HJG.out]; exact e)) h5)
      obtain ⟨F1, hF1⟩ : ∃ F1, F1 = wayF' F 0 (wars (F 0) r) := ⟨_, rfl⟩
      rw [← hF1] at HL0 HL1
      obtain ⟨F2, hF2⟩ : ∃ F2, F2 = wayF' F1 1 (wars (F1 1) r) := ⟨_, rfl⟩
      rw [← hF2] at HL1
      have HFF := Lib.hid (show ordC C F2 = ordC C (fun way => lead way) from ordC_same fun w a b hw _ _ => by
        rw [hF2, hF1, HDEF.out]
        unfold wayF'
        rw [HF.out]
        rcases (show w = 0 ∨ w = 1 by omega) with rfl | rfl
        · simp
        · simp)
      clear hF1 hF2
      have HA2 := Lib.hid (HI2.out F2)
      have HB2 := Lib.hid (HSO.out F2)
      have HC2 := Lib.hid (HO1.out F2)
      have hz := hst.1
      have hbl := hst.2.2.2.1
      have hsz := hst.2.2.2.2
      clear hst HWA HSI HAR HBR HFE HWY HI2 HSO HO1 HLO HIN HJG HDEF HF
      generalize ordC C F2 = D2 at *
      go_wp2_with (first
        | (go_at_call 115; refine (HL2.out).mono ?_; rintro e w6 ⟨rfl, hb6, hg6⟩; have hz6 := (hz.kept hg5 (by simp)).kept hg6 (by simp))
        | (go_at_call 115; refine HL0.out.mono ?_; rintro e w5 ⟨rfl, hb5, hg5⟩; have HL2 := Lib.hid (HL1.out w5 hb5))
        | (refine wpList_load_row rfl 66 _ rfl (w.heap.size + 2) rfl 66 D2 (0, 0) _ hb6 Try.underlying66 rfl HA2.out ?_)
        | (refine wpList_store_row rfl 66 _ _ rfl (w.heap.size + 1) D2 rfl rfl 66 Z hz6 HA2.out (by rw [HZS.out, HB2.out]) HC2.out ?_))
      have hk : ∀ k, some (w.heap.size + 2) = some k → w.heap.size ≤ k := fun k hk => by have := Option.some.inj hk; omega
      have hg56 := grownBy_trans hg5 hg6
      refine bodyPost_ret (v := .agg D2) (results_ord Try.results101 rfl (hz6.setRow D2) HB2.out) rfl ⟨by rw [HFF.out], ?_⟩
      exact below_setRowB (hbl.trans (below_of_grownBy hg56 hbl.size hk)) (by omega) _
end Go.Proofs.Ythlbekookpcacaa
