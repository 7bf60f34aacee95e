/-
  The rooms of both sides of a wall: the program's answer. (Walks.)
-/
import Derived.Test.YtdipcemiepmanaaSideA
import Derived.Test.YtdipcemiepmanaaLawH
namespace Go.Proofs.Ytdipcemiepmanaa
open Go.RowKit

/-- the rooms on both sides, cell by cell -/
def cellsA (g : Nat → Nat → Nat) (X : Wl) (t : Nat) : List Int := (List.range t).map fun s => ((sideA g X.way X.line (X.first + s) : Nat) : Int)
def cellsB' (g : Nat → Nat → Nat) (X : Wl) (t : Nat) : List Int := (List.range t).map fun s => ((sideB g X.way X.line (X.first + s) : Nat) : Int)
theorem cellsA_succ (g : Nat → Nat → Nat) (X : Wl) (t : Nat) : cellsA g X (t + 1) = cellsA g X t ++ [((sideA g X.way X.line (X.first + t) : Nat) : Int)] := by simp [cellsA, List.range_succ]
theorem cellsB_succ (g : Nat → Nat → Nat) (X : Wl) (t : Nat) : cellsB' g X (t + 1) = cellsB' g X t ++ [((sideB g X.way X.line (X.first + t) : Nat) : Int)] := by simp [cellsB', List.range_succ]
theorem cellsA_len (g : Nat → Nat → Nat) (X : Wl) (t : Nat) : (cellsA g X t).length = t := by simp [cellsA]
theorem cellsB_len (g : Nat → Nat → Nat) (X : Wl) (t : Nat) : (cellsB' g X t).length = t := by simp [cellsB']

/-- two slices of numbers, each of the call's own, apart -/
def TwoRet (base : Nat) (S T : List Int) (e : Ending) (w' : World) : Prop :=
  ∃ r0 q0 r1 q1, e = .returned (.tuple #[.slice r0 S.length q0, .slice r1 T.length q1]) ∧ w'.ownsRow base 3 1 (.slice r0 S.length q0) S.length (S.map (Value.int .i64)) ∧
    w'.ownsRow base 3 1 (.slice r1 T.length q1) T.length (T.map (Value.int .i64)) ∧ Apart r0 r1

set_option maxRecDepth 100000 in
set_option maxHeartbeats 4000000 in
theorem sides_any (h wd r : Nat) (g : Nat → Nat → Nat) (X : Wl) (w : World) (h1 : 1 ≤ X.line) (h2 : X.line < 6) (h3 : X.first + X.long ≤ 6) :
    Calls Try.prog 49 #[.agg (planC h wd r g), .agg (wlC X)] w
      fun e w' => TwoRet w.heap.size (compactL (cellsA g X X.long)) (compactL (cellsB' g X X.long)) e w' ∧ Below w.heap.size w w' := by
  obtain ⟨im, hmi, hmz, hm1, hm2⟩ := info_parts Try.infoNum
  have HAC := Lib.hid (fun (i : Nat) (hi : i < 6) w => across_any h wd r g X.way X.line i w h1 h2 hi)
  have HCS := Lib.hid (planC_size h wd r g)
  generalize planC h wd r g = C at *
  have hsz : (Try.prog.info? 46).map (·.size) = some C.size := by rw [HCS.out]; kernel_rfl
  have HSZ := Lib.hid hsz; clear hsz
  have HA := Lib.hid (fun t => cellsA_succ g X t); have HB := Lib.hid (fun t => cellsB_succ g X t)
  have HAL := Lib.hid (fun t => cellsA_len g X t); have HBL := Lib.hid (fun t => cellsB_len g X t)
  have bP : HeldB ((w.alloc (.cells C 46)).alloc (.cells (wlC X) 53)) w.heap.size 46 C := (HeldB.new w _ _).alloc _
  have bX : HeldB ((w.alloc (.cells C 46)).alloc (.cells (wlC X) 53)) (w.heap.size + 1) 53 (wlC X) := by
    have := HeldB.new (w.alloc (.cells C 46)) 53 (wlC X)
    rwa [World.size_alloc] at this
  have hB0 : Below w.heap.size w ((w.alloc (.cells C 46)).alloc (.cells (wlC X) 53)) := ((Below.refl _ w).alloc (Nat.le_refl _) _).alloc (by simp) _
  have hs0 : w.heap.size + 2 ≤ ((w.alloc (.cells C 46)).alloc (.cells (wlC X) 53)).heap.size := by simp
  have x2 := bX.cell 2
  have y2 : (wlC X)[2]? = some (.int .i64 (X.first : Nat)) := rfl
  rw [y2] at x2
  go_enter Try.func49, Try.ntmps49
  go_wp2
  clear x2 y2
  go_loopw [6, 7, 8] (fun v6 v7 v8 wr => ∃ (t : Nat) (a1 a2 : Option Addr) (c1 c2 : Nat), t ≤ X.long ∧ v8 = .int .i64 ((X.first + t : Nat) : Int) ∧ v6 = .slice a1 t c1 ∧ v7 = .slice a2 t c2 ∧
    wr.ownsRow (w.heap.size + 2) 3 1 (.slice a1 t c1) t ((cellsA g X t).map (Value.int .i64)) ∧ wr.ownsRow (w.heap.size + 2) 3 1 (.slice a2 t c2) t ((cellsB' g X t).map (Value.int .i64)) ∧ Apart a1 a2 ∧
    HeldB wr w.heap.size 46 C ∧ HeldB wr (w.heap.size + 1) 53 (wlC X) ∧ w.heap.size + 2 ≤ wr.heap.size ∧ Below w.heap.size w wr) (fun _ _ v8 _ => X.first + X.long - (intOf v8).toNat)
  case atStart => exact ⟨0, none, none, 0, 0, Nat.zero_le _, rfl, rfl, rfl, ⟨rfl, .inl ⟨rfl, rfl⟩⟩, ⟨rfl, .inl ⟨rfl, rfl⟩⟩, apart_nil _, bP, bX, hs0, hB0⟩
  case round =>
    clear bP bX hB0 hs0
    obtain ⟨t, a1, a2, c1, c2, ht, rfl, rfl, rfl, ho1, ho2, hap, bP, bX, hs, hB⟩ := hrel
    have x0 := bX.cell 0; have x1 := bX.cell 1; have x2 := bX.cell 2; have x3 := bX.cell 3
    have y0 : (wlC X)[0]? = some (.int .i64 (X.way : Nat)) := rfl
    have y1 : (wlC X)[1]? = some (.int .i64 (X.line : Nat)) := rfl
    have y2 : (wlC X)[2]? = some (.int .i64 (X.first : Nat)) := rfl
    have y3 : (wlC X)[3]? = some (.int .i64 (X.long : Nat)) := rfl
    rw [y0] at x0; rw [y1] at x1; rw [y2] at x2; rw [y3] at x3
    clear y0 y1 y2 y3
    by_cases htl : t < X.long
    · have hlt' : decide (((X.first + t : Nat) : Int) < (X.first : Int) + (X.long : Int)) = true := by rw [decide_eq_true_eq]; omega
      have HAt := Lib.hid (HA.out t); have HBt := Lib.hid (HB.out t)
      have HAC2 := Lib.hid (HAC.out (X.first + t) (by omega))
      generalize sideA g X.way X.line (X.first + t) = A at *
      generalize sideB g X.way X.line (X.first + t) = B at *
      have h63 : t + 1 ≤ maxLen := by unfold maxLen; omega
      have h64 : (t + 1) * 8 ≤ 140737488355328 := by omega
      have hlt1 := owns_lt ho1
      have hlt2 := owns_lt ho2
      go_wp2_with (first
        | (refine wpList_load_row rfl 46 _ rfl w.heap.size rfl 46 C (0, 0) _ bP Try.underlying46 rfl HSZ.out ?_)
        | (at_builtin; refine wpList_push _ rfl (.tmp 32) (.tmp 34) 36 rfl (w.heap.size + 2) 3 im (.int .i64 0) 8 Try.underlying36 hmi hmz hm1 hm2 rfl a1 t c1 _ rfl ((ownsRow_below ho1 hb2).alloc _) _ _ _ rfl (cell_new _ _ _) rfl h63 h64 (by simp; omega) ?_; intro n1 d1 w3 ho3 hg3 hnew3; have hs3 := hg3.size)
        | (at_builtin; refine wpList_push _ rfl (.tmp 36) (.tmp 38) 36 rfl (w.heap.size + 2) 3 im (.int .i64 0) 8 Try.underlying36 hmi hmz hm1 hm2 rfl a2 t c2 _ rfl ((owns_push_other (ownsRow_below ho2 hb2) hg3 hap.symm).alloc _) _ _ _ rfl (cell_new _ _ _) rfl h63 h64 (by simp at hs3; simp; omega) ?_; intro n2 d2 w4 ho4 hg4 hnew4)
        | (go_at_call 71; refine (HAC2.out _).mono ?_; rintro e w2 ⟨rfl, hb2⟩; have hbs2 := hb2.size))
      have hs3' : w2.heap.size + 1 ≤ w3.heap.size := by simpa using hs3
      have hap3 : Apart n1 a2 := hap.push hnew3 (fun a ha => by have := (hlt2 a ha).2; simp; omega)
      have hap4 : Apart n2 n1 := hap3.symm.push hnew4 (fun a ha => by have := (owns_lt ho3 a ha).2; simp; omega)
      have ho5 := owns_push_other ho3 hg4 hap3
      have k1 : ∀ {bb : Nat} {ty : TypeId} {cs : Array Value}, bb < w.heap.size + 2 → HeldB wr bb ty cs → HeldB w4 bb ty cs := fun hbb hh =>
        kept_own ((kept_own ((hh.below hb2).alloc _) hg3 (fun a ha => by have := (hlt1 a ha).1; omega)).alloc _) hg4 (fun a ha => by have := (hlt2 a ha).1; omega)
      have hB3 := below_push (below_step hB hB.size hb2) (by omega) hg3 (fun a ha => by have := (hlt1 a ha).1; omega)
      have hB4 := below_push hB3 (by omega) hg4 (fun a ha => by have := (hlt2 a ha).1; omega)
      have hs4 : w3.heap.size + 1 ≤ w4.heap.size := by have := hg4.size; simpa using this
      go_roundw
      case rel => exact ⟨t + 1, n1, n2, d1, d2, by omega, by go_num, rfl, rfl, owns_eq ho5 (by rw [HAt.out, List.map_append]; rfl), owns_eq ho4 (by rw [HBt.out, List.map_append]; rfl), hap4.symm, k1 (by omega) bP, k1 (by omega) bX, by omega, hB4⟩
      case measure => simp [intOf]; omega
    · obtain rfl : t = X.long := by omega
      have hlt' : decide (((X.first + X.long : Nat) : Int) < (X.first : Int) + (X.long : Int)) = false := by rw [decide_eq_false_iff_not]; omega
      have hlt1 := owns_lt ho1
      have hlt2 := owns_lt ho2
      go_wp2_with (first
        | (go_at_call 72; refine (compact_any (w.heap.size + 2) a2 c2 X.long (cellsB' g X X.long) _ (HBL.out _) (by omega) ho3).mono ?_; rintro e w5 ⟨rfl, ho5, hg5⟩)
        | (go_at_call 72; refine (compact_any (w.heap.size + 2) a1 c1 X.long (cellsA g X X.long) _ (HAL.out _) (by omega) ho1).mono ?_; rintro e w2 ⟨rfl, ho2', hg2⟩; have ho3 := owns_kept ho2 hg2 hap.symm))
      have ho6 := owns_kept ho2' hg5 (m' := X.long) (cap' := c2) hap
      have hB2 := below_of_grownBy' hB hg2 (fun a ha => by have := (hlt1 a ha).1; omega)
      have hB5 := below_of_grownBy' hB2 hg5 (fun a ha => by have := (hlt2 a ha).1; omega)
      go_ret2
      exact ⟨⟨a1, c1, a2, c2, rfl, ownsRow_base ho6 (by omega), ownsRow_base ho5 (by omega), hap⟩, hB5⟩

end Go.Proofs.Ytdipcemiepmanaa
