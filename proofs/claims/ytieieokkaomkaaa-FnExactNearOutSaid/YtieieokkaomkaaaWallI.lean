
/-
  The program's walls: what lies on both sides of a line, where a wall begins and ends. (Walks.)
-/
import Derived.Test.YtieieokkaomkaaaWallM
import Derived.Test.YtieieokkaomkaaaImplA
namespace Go.Proofs.Ytieieokkaomkaaa
open Go.RowKit

set_option maxHeartbeats 400000 in
theorem measure_any (h wd r : Nat) (g : Nat → Nat → Nat) (way : Nat) (w : World) :
    Calls Try.prog 55 #[.agg (planC h wd r g), .int .i64 way] w
      fun e w' => e = .returned (.tuple #[.int .i64 (acrossN h wd way : Nat), .int .i64 (alongN h wd way : Nat)]) ∧ Below w.heap.size w w' := by
  have hp0 := planC_0 h wd r g
  have hp1 := planC_1 h wd r g
  generalize planC h wd r g = C at *
  by_cases hw : way = 0
  · have hb : ((way : Int) == 0) = true := by simp [hw]
    have HA := Lib.hid (show acrossN h wd way = wd from if_pos hw)
    have HL := Lib.hid (show alongN h wd way = h from if_pos hw)
    clear hw
    go_enter Try.func55, Try.ntmps55
    go_wp2
    have c0 : (w.alloc (.cells C 38)).cell? ⟨w.heap.size, 0, none⟩ = some (.int .i64 h) := ((HeldB.new w _ _).cell 0).trans hp0
    have c1 : (w.alloc (.cells C 38)).cell? ⟨w.heap.size, 1, none⟩ = some (.int .i64 wd) := ((HeldB.new w _ _).cell 1).trans hp1
    go_quiet (fail)
    go_wp2
    go_ret2
    exact ⟨by rw [HA.out, HL.out]; rfl, (below_alloc _ _).trans (below_drewN _ _ _)⟩
  · have hb : ((way : Int) == 0) = false := by rw [beq_eq_false_iff_ne]; omega
    have HA := Lib.hid (show acrossN h wd way = h from if_neg hw)
    have HL := Lib.hid (show alongN h wd way = wd from if_neg hw)
    clear hw
    go_enter Try.func55, Try.ntmps55
    go_wp2
    have c0 : (w.alloc (.cells C 38)).cell? ⟨w.heap.size, 0, none⟩ = some (.int .i64 h) := ((HeldB.new w _ _).cell 0).trans hp0
    have c1 : (w.alloc (.cells C 38)).cell? ⟨w.heap.size, 1, none⟩ = some (.int .i64 wd) := ((HeldB.new w _ _).cell 1).trans hp1
    go_quiet (fail)
    go_wp2
    go_ret2
    exact ⟨by rw [HA.out, HL.out]; rfl, (below_alloc _ _).trans (below_drewN _ _ _)⟩

/-- the rooms on both sides of a line -/
def sideA (g : Nat → Nat → Nat) (way line i : Nat) : Nat := if way = 0 then g i (line - 1) else g (line - 1) i
def sideB (g : Nat → Nat → Nat) (way line i : Nat) : Nat := if way = 0 then g i line else g line i

set_option maxHeartbeats 800000 in
theorem across_any (h wd r : Nat) (g : Nat → Nat → Nat) (way line i : Nat) (w : World) (h1 : 1 ≤ line) (h2 : line < 6) (h3 : i < 6) :
    Calls Try.prog 63 #[.agg (planC h wd r g), .int .i64 way, .int .i64 line, .int .i64 i] w
      fun e w' => e = .returned (.tuple #[.int .i64 (sideA g way line i : Nat), .int .i64 (sideB g way line i : Nat)]) ∧ Below w.heap.size w w' := by
  have hl1 : (line : Int) - 1 = ((line - 1 : Nat) : Int) := by omega
  by_cases hw : way = 0
  · have hb : ((way : Int) == 0) = true := by simp [hw]
    have HA := Lib.hid (show sideA g way line i = g i (line - 1) from if_pos hw)
    have HL := Lib.hid (show sideB g way line i = g i line from if_pos hw)
    have ha := planC_at h wd r g i (line - 1) h3 (by omega)
    have hc := planC_at h wd r g i line h3 h2
    generalize planC h wd r g = C at *
    clear hw
    go_enter Try.func63, Try.ntmps63
    go_wp2
    have c0 : (w.alloc (.cells C 38)).cell? ⟨w.heap.size, 3 + i * 6 + (line - 1), none⟩ = _ := ((HeldB.new w _ _).cell _).trans ha
    have c1 : (w.alloc (.cells C 38)).cell? ⟨w.heap.size, 3 + i * 6 + line, none⟩ = _ := ((HeldB.new w _ _).cell _).trans hc
    go_quiet (fail)
    go_wp2
    go_ret2
    exact ⟨by rw [HA.out, HL.out]; rfl, (below_alloc _ _).trans (below_drewN _ _ _)⟩
  · have hb : ((way : Int) == 0) = false := by rw [beq_eq_false_iff_ne]; omega
    have HA := Lib.hid (show sideA g way line i = g (line - 1) i from if_neg hw)
    have HL := Lib.hid (show sideB g way line i = g line i from if_neg hw)
    have ha := planC_at h wd r g (line - 1) i (by omega) h3
    have hc := planC_at h wd r g line i h2 h3
    generalize planC h wd r g = C at *
    clear hw
    go_enter Try.func63, Try.ntmps63
    go_wp2
    have c0 : (w.alloc (.cells C 38)).cell? ⟨w.heap.size, 3 + (line - 1) * 6 + i, none⟩ = _ := ((HeldB.new w _ _).cell _).trans ha
    have c1 : (w.alloc (.cells C 38)).cell? ⟨w.heap.size, 3 + line * 6 + i, none⟩ = _ := ((HeldB.new w _ _).cell _).trans hc
    go_quiet (fail)
    go_wp2
    go_ret2
    exact ⟨by rw [HA.out, HL.out]; rfl, (below_alloc _ _).trans (below_drewN _ _ _)⟩

def partedB (g : Nat → Nat → Nat) (way line i : Nat) : Bool := decide (sideA g way line i ≠ sideB g way line i)

set_option maxHeartbeats 400000 in
theorem isParted_any (h wd r : Nat) (g : Nat → Nat → Nat) (way line i : Nat) (w : World) (h1 : 1 ≤ line) (h2 : line < 6) (h3 : i < 6) :
    Calls Try.prog 59 #[.agg (planC h wd r g), .int .i64 way, .int .i64 line, .int .i64 i] w
      fun e w' => e = .returned (.bool (partedB g way line i)) ∧ Below w.heap.size w w' := by
  have HAC := Lib.hid (fun w => across_any h wd r g way line i w h1 h2 h3)
  have HCS := Lib.hid (planC_size h wd r g)
  have HB := Lib.hid (show (((sideA g way line i : Nat) : Int) != ((sideB g way line i : Nat) : Int)) = partedB g way line i by
    unfold partedB; rw [Bool.eq_iff_iff, bne_iff_ne, decide_eq_true_eq]; omega)
  generalize planC h wd r g = C at *
  have hsz : (Try.prog.info? 38).map (·.size) = some C.size := by rw [HCS.out]; kernel_rfl
  have HSZ := Lib.hid hsz; clear hsz
  generalize sideA g way line i = a at *
  generalize sideB g way line i = b at *
  go_enter Try.func59, Try.ntmps59
  have hW1 := HeldB.new w 38 C
  go_wp2_with (first
    | (refine wpList_load_row rfl 38 _ rfl w.heap.size rfl 38 C (0, 0) _ hW1 Try.underlying38 rfl HSZ.out ?_)
    | (go_at_call 63; refine (HAC.out _).mono ?_; rintro e w1 ⟨rfl, hb1⟩))
  go_ret
  exact ⟨ret_bool HB.out, (below_alloc w _).trans (hb1.mono (by simp))⟩

/-- the cells of a wall -/
def wlC (x : Wl) : Array Value := #[.int .i64 (x.way : Nat), .int .i64 (x.line : Nat), .int .i64 (x.first : Nat), .int .i64 (x.long : Nat)]
theorem wlC_size (x : Wl) : (wlC x).size = 4 := rfl
theorem wlC_one (x : Wl) : (wlC x).all (·.oneCell') = true := by
  rw [Array.all_eq_true_iff_forall_mem]
  intro v hv
  unfold wlC at hv
  simp only [List.mem_toArray, List.mem_cons, List.not_mem_nil, or_false] at hv
  rcases hv with rfl | rfl | rfl | rfl <;> rfl
theorem wl_size (x : Wl) : (Try.prog.info? 67).map (·.size) = some (wlC x).size := by rw [wlC_size]; kernel_rfl
def zeroWl : Wl := ⟨0, 0, 0, 0⟩
theorem zero_wl : (#[.int .i64 0, .int .i64 0, .int .i64 0, .int .i64 0] : Array Value) = wlC zeroWl := rfl

/-- a wall and a word whether it is one, handed back -/
theorem results_wall {fn : Func} {p u : Tmp} (h : fn.results = #[.cell p 67, .tmp u]) {tmps : Array Value} {w : World} {B : Nat} {x : Wl} {v : Value}
    (hp : tmps.getD p undef = .pointer (some ⟨B, 0, none⟩)) (hB : HeldB w B 67 (wlC x)) (hv : tmps.getD u undef = v) :
    (results fn tmps).run Try.prog w = .ok (.tuple #[.agg (wlC x), v]) w := by
  rw [results_cell_tmp h, hp, hv]
  have hr := run_loadVar_row (P := Try.prog) w B 67 67 (wlC x) (0, 0) _ hB Try.underlying67 rfl (by rw [wlC_size]; kernel_rfl)
  simp [asAddr, hr, Result.andThen]

/-- the wall that a line has at a cell -/
def wallAtW (g : Nat → Nat → Nat) (n way line i : Nat) : Wl :=
  if partedB g way line i = true then ⟨way, line, downTo (partedB g way line) i, runFrom (partedB g way line) n (downTo (partedB g way line) i)⟩ else zeroWl

set_option maxRecDepth 100000 in
set_option maxHeartbeats 2000000 in
theorem wallAt_any (h wd r : Nat) (g : Nat → Nat → Nat) (way line i : Nat) (w : World) (h1 : 1 ≤ line) (h2 : line < 6) (h3 : i < alongN h wd way) (h4 : alongN h wd way ≤ 6) :
    Calls Try.prog 56 #[.agg (planC h wd r g), .int .i64 way, .int .i64 line, .int .i64 i] w
      fun e w' => e = .returned (.tuple #[.agg (wlC (wallAtW g (alongN h wd way) way line i)), .bool (partedB g way line i)]) ∧ Below w.heap.size w w' := by
  have HPA := Lib.hid (fun (k : Nat) (hk : k < 6) w => isParted_any h wd r g way line k w h1 h2 hk)
  have HME := Lib.hid (fun w => measure_any h wd r g way w)
  have HCS := Lib.hid (planC_size h wd r g)
  generalize planC h wd r g = C at *
  have hsz : (Try.prog.info? 38).map (·.size) = some C.size := by rw [HCS.out]; kernel_rfl
  have HSZ := Lib.hid hsz; clear hsz
  unfold wallAtW
  generalize partedB g way line = f at *
  generalize alongN h wd way = n at *
  generalize acrossN h wd way = m at *
  go_enter Try.func56, Try.ntmps56
  have bP : HeldB ((w.alloc (.cells C 38)).alloc (.cells #[.int .i64 0, .int .i64 0, .int .i64 0, .int .i64 0] 67)) w.heap.size 38 C := (HeldB.new w _ _).alloc _
  have bZ : HeldB ((w.alloc (.cells C 38)).alloc (.cells #[.int .i64 0, .int .i64 0, .int .i64 0, .int .i64 0] 67)) (w.heap.size + 1) 67 (wlC zeroWl) := by
    have := HeldB.new (w.alloc (.cells C 38)) 67 (wlC zeroWl)
    rwa [World.size_alloc] at this
  have hB0 : Below w.heap.size w ((w.alloc (.cells C 38)).alloc (.cells #[.int .i64 0, .int .i64 0, .int .i64 0, .int .i64 0] 67)) := ((Below.refl _ w).alloc (Nat.le_refl _) _).alloc (by simp) _
  cases hfi : f i
  · rw [if_neg (by decide)]
    go_wp2_with (first
      | (refine wpList_load_row rfl 38 _ rfl w.heap.size rfl 38 C (0, 0) _ bP Try.underlying38 rfl HSZ.out ?_)
      | (refine wpList_store_row rfl 67 _ _ rfl (w.heap.size + 1) (wlC zeroWl) rfl rfl 67 (wlC zeroWl) bZ1 (wl_size _) rfl (wlC_one _) ?_)
      | (go_at_call 59; refine (HPA.out i (by omega) _).mono ?_; rw [hfi]; rintro e w1 ⟨rfl, hb1⟩; have bZ1 := bZ.below hb1))
    refine bodyPost_ret (v := .tuple #[.agg (wlC zeroWl), .bool false]) (results_wall Try.results56 rfl (bZ1.setRow _) rfl) rfl ⟨rfl, ?_⟩
    exact below_setRowB (below_step hB0 hB0.size hb1) (by omega) _
  · rw [if_pos rfl]
    go_wp2_with (first
      | (refine wpList_load_row rfl 38 _ rfl w.heap.size rfl 38 C (0, 0) _ bP Try.underlying38 rfl HSZ.out ?_)
      | (refine wpList_load_row rfl 38 _ rfl w.heap.size rfl 38 C (0, 0) _ bP1 Try.underlying38 rfl HSZ.out ?_)
      | (go_at_call 59; refine (HPA.out i (by omega) _).mono ?_; rw [hfi]; rintro e w1 ⟨rfl, hb1⟩; have bZ1 := bZ.below hb1; have bP1 := bP.below hb1; have hB1 := below_step hB0 hB0.size hb1)
      | (go_at_call 55; refine (HME.out _).mono ?_; rintro e w2 ⟨rfl, hb2⟩; have bZ2 := bZ1.below hb2; have bP2 := bP1.below hb2; have hB2 := below_step hB1 hB1.size hb2))
    clear bP bZ hB0 bP1 bZ1 hB1
    go_loopw [12] (fun v wr => ∃ k : Nat, k ≤ i ∧ v = .int .i64 k ∧ (∀ j, k ≤ j → j < i → f j = true) ∧ HeldB wr (w.heap.size + 1) 67 (wlC zeroWl) ∧ HeldB wr w.heap.size 38 C ∧ Below w.heap.size w wr) (fun v _ => (intOf v).toNat)
    case atStart => exact ⟨i, Nat.le_refl _, rfl, (fun j a b => by omega), bZ2, bP2, hB2⟩
    case round =>
      clear bZ2 bP2 hB2 hb1 hb2
      obtain ⟨k, hk, rfl, hall, bZ3, bP3, hB3⟩ := hrel
      have HALL := Lib.hid hall; clear hall
      have hgo : ∀ (hstop : 0 < k → f (k - 1) = false), Hid (downTo f i = k) := fun hs => Lib.hid (downTo_eq hk HALL.out hs)
      by_cases hk0 : 0 < k
      · have hk1 : (k : Int) - 1 = ((k - 1 : Nat) : Int) := by omega
        cases hf : f (k - 1)
        · have HD := hgo (fun _ => hf)
          clear hgo
          go_wp2_with (first
            | (refine wpList_load_row_guard rfl 38 _ rfl w.heap.size rfl 38 C (0, 0) _ bP3 Try.underlying38 rfl HSZ.out ?_)
            | (go_at_call 59; refine (HPA.out (k - 1) (by omega) _).mono ?_; rw [hf]; rintro e w3 ⟨rfl, hb3⟩; have bZ4 := bZ3.below hb3; have bP4 := bP3.below hb3; have hB4 := below_step hB3 hB3.size hb3))
          clear bZ3 bP3 hB3 hb3
          go_loopw [13] (fun v wr => ∃ e : Nat, i + 1 ≤ e ∧ e ≤ n ∧ v = .int .i64 e ∧ (∀ j, i ≤ j → j < e → f j = true) ∧ HeldB wr (w.heap.size + 1) 67 (wlC zeroWl) ∧ HeldB wr w.heap.size 38 C ∧ Below w.heap.size w wr) (fun v _ => n - (intOf v).toNat)
          case atStart => exact ⟨i + 1, Nat.le_refl _, h3, by go_num, (fun j a b => by obtain rfl : j = i := by omega
                                                                                       exact hfi), bZ4, bP4, hB4⟩
          case round =>
            clear bZ4 bP4 hB4
            obtain ⟨e, he1, he2, rfl, hall, bZ5, bP5, hB5⟩ := hrel
            have HAL2 := Lib.hid hall; clear hall
            have hek : (e : Int) - (k : Int) = ((e - k : Nat) : Int) := by omega
            have hgo2 : ∀ (hstop : e < n → f e = false), Hid (runFrom f n k = e - k) := fun hs => Lib.hid (runFrom_eq (by omega) he2 (fun j a b => by
              rcases Nat.lt_or_ge j i with h' | h'
              · exact HALL.out j a h'
              · exact HAL2.out j h' b) hs)
            by_cases hen : e < n
            · have hen' : decide ((e : Int) < (n : Int)) = true := by rw [decide_eq_true_eq]; omega
              cases hf2 : f e
              · have HR := hgo2 (fun _ => hf2)
                clear hgo2
                go_wp2_with (first
                  | (refine wpList_load_row_guard rfl 38 _ rfl w.heap.size rfl 38 C (0, 0) _ bP5 Try.underlying38 rfl HSZ.out ?_)
                  | (refine wpList_store_row rfl 67 _ _ rfl (w.heap.size + 1) (wlC ⟨way, line, k, e - k⟩) rfl rfl 67 (wlC zeroWl) bZ6 (wl_size _) rfl (wlC_one _) ?_)
                  | (go_at_call 59; refine (HPA.out e (by omega) _).mono ?_; rw [hf2]; rintro e' w4 ⟨rfl, hb4⟩; have bZ6 := bZ5.below hb4; have hB6 := below_step hB5 hB5.size hb4))
                refine bodyPost_ret (v := .tuple #[.agg (wlC ⟨way, line, k, e - k⟩), .bool true]) (results_wall Try.results56 rfl (bZ6.setRow _) rfl) rfl ⟨by rw [HD.out, HR.out], ?_⟩
                exact below_setRowB hB6 (by omega) _
              · clear hgo2
                go_wp2_with (first
                  | (refine wpList_load_row_guard rfl 38 _ rfl w.heap.size rfl 38 C (0, 0) _ bP5 Try.underlying38 rfl HSZ.out ?_)
                  | (go_at_call 59; refine (HPA.out e (by omega) _).mono ?_; rw [hf2]; rintro e' w4 ⟨rfl, hb4⟩; have bZ6 := bZ5.below hb4; have bP6 := bP5.below hb4; have hB6 := below_step hB5 hB5.size hb4))
                go_roundw
                case rel => exact ⟨e + 1, by omega, by omega, by go_num, (fun j a b => by
                    rcases Nat.lt_or_ge j e with h' | h'
                    · exact HAL2.out j a h'
                    · obtain rfl : j = e := by omega
                      exact hf2), bZ6, bP6, hB6⟩
                case measure => simp [intOf]; omega
            · have hen' : decide ((e : Int) < (n : Int)) = false := by rw [decide_eq_false_iff_not]; omega
              have HR := hgo2 (fun h' => absurd h' hen)
              clear hgo2
              go_wp2_with (refine wpList_store_row rfl 67 _ _ rfl (w.heap.size + 1) (wlC ⟨way, line, k, e - k⟩) rfl rfl 67 (wlC zeroWl) bZ5 (wl_size _) rfl (wlC_one _) ?_)
              refine bodyPost_ret (v := .tuple #[.agg (wlC ⟨way, line, k, e - k⟩), .bool true]) (results_wall Try.results56 rfl (bZ5.setRow _) rfl) rfl ⟨by rw [HD.out, HR.out], ?_⟩
              exact below_setRowB hB5 (by omega) _
        · clear hgo
          go_wp2_with (first
            | (refine wpList_load_row_guard rfl 38 _ rfl w.heap.size rfl 38 C (0, 0) _ bP3 Try.underlying38 rfl HSZ.out ?_)
            | (go_at_call 59; refine (HPA.out (k - 1) (by omega) _).mono ?_; rw [hf]; rintro e w3 ⟨rfl, hb3⟩; have bZ4 := bZ3.below hb3; have bP4 := bP3.below hb3; have hB4 := below_step hB3 hB3.size hb3))
          go_roundw
          case rel => exact ⟨k - 1, by omega, by go_num, (fun j a b => by
              rcases Nat.lt_or_ge j k with h' | h'
              · obtain rfl : j = k - 1 := by omega
                exact hf
              · exact HALL.out j h' b), bZ4, bP4, hB4⟩
          case measure => simp [intOf]; omega
      · have HD := hgo (fun h' => absurd h' hk0)
        clear hgo
        go_wp2
        go_loopw [13] (fun v wr => ∃ e : Nat, i + 1 ≤ e ∧ e ≤ n ∧ v = .int .i64 e ∧ (∀ j, i ≤ j → j < e → f j = true) ∧ HeldB wr (w.heap.size + 1) 67 (wlC zeroWl) ∧ HeldB wr w.heap.size 38 C ∧ Below w.heap.size w wr) (fun v _ => n - (intOf v).toNat)
        case atStart => exact ⟨i + 1, Nat.le_refl _, h3, by go_num, (fun j a b => by obtain rfl : j = i := by omega
                                                                                     exact hfi), bZ3, bP3, hB3⟩
        case round =>
          clear bZ3 bP3 hB3
          obtain ⟨e, he1, he2, rfl, hall, bZ5, bP5, hB5⟩ := hrel
          have HAL2 := Lib.hid hall; clear hall
          have hek : (e : Int) - (k : Int) = ((e - k : Nat) : Int) := by omega
          have hgo2 : ∀ (hstop : e < n → f e = false), Hid (runFrom f n k = e - k) := fun hs => Lib.hid (runFrom_eq (by omega) he2 (fun j a b => by
            rcases Nat.lt_or_ge j i with h' | h'
            · exact HALL.out j a h'
            · exact HAL2.out j h' b) hs)
          by_cases hen : e < n
          · have hen' : decide ((e : Int) < (n : Int)) = true := by rw [decide_eq_true_eq]; omega
            cases hf2 : f e
            · have HR := hgo2 (fun _ => hf2)
              clear hgo2
              go_wp2_with (first
                | (refine wpList_load_row_guard rfl 38 _ rfl w.heap.size rfl 38 C (0, 0) _ bP5 Try.underlying38 rfl HSZ.out ?_)
                | (refine wpList_store_row rfl 67 _ _ rfl (w.heap.size + 1) (wlC ⟨way, line, k, e - k⟩) rfl rfl 67 (wlC zeroWl) bZ6 (wl_size _) rfl (wlC_one _) ?_)
                | (go_at_call 59; refine (HPA.out e (by omega) _).mono ?_; rw [hf2]; rintro e' w4 ⟨rfl, hb4⟩; have bZ6 := bZ5.below hb4; have hB6 := below_step hB5 hB5.size hb4))
              refine bodyPost_ret (v := .tuple #[.agg (wlC ⟨way, line, k, e - k⟩), .bool true]) (results_wall Try.results56 rfl (bZ6.setRow _) rfl) rfl ⟨by rw [HD.out, HR.out], ?_⟩
              exact below_setRowB hB6 (by omega) _
            · clear hgo2
              go_wp2_with (first
                | (refine wpList_load_row_guard rfl 38 _ rfl w.heap.size rfl 38 C (0, 0) _ bP5 Try.underlying38 rfl HSZ.out ?_)
                | (go_at_call 59; refine (HPA.out e (by omega) _).mono ?_; rw [hf2]; rintro e' w4 ⟨rfl, hb4⟩; have bZ6 := bZ5.below hb4; have bP6 := bP5.below hb4; have hB6 := below_step hB5 hB5.size hb4))
              go_roundw
              case rel => exact ⟨e + 1, by omega, by omega, by go_num, (fun j a b => by
                  rcases Nat.lt_or_ge j e with h' | h'
                  · exact HAL2.out j a h'
                  · obtain rfl : j = e := by omega
                    exact hf2), bZ6, bP6, hB6⟩
              case measure => simp [intOf]; omega
          · have hen' : decide ((e : Int) < (n : Int)) = false := by rw [decide_eq_false_iff_not]; omega
            have HR := hgo2 (fun h' => absurd h' hen)
            clear hgo2
            go_wp2_with (refine wpList_store_row rfl 67 _ _ rfl (w.heap.size + 1) (wlC ⟨way, line, k, e - k⟩) rfl rfl 67 (wlC zeroWl) bZ5 (wl_size _) rfl (wlC_one _) ?_)
            refine bodyPost_ret (v := .tuple #[.agg (wlC ⟨way, line, k, e - k⟩), .bool true]) (results_wall Try.results56 rfl (bZ5.setRow _) rfl) rfl ⟨by rw [HD.out, HR.out], ?_⟩
            exact below_setRowB hB5 (by omega) _

end Go.Proofs.Ytieieokkaomkaaa
