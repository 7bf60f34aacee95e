
/-
  The program finds the box of a room. (Walk inside a fence.)
-/
import Derived.Test.YtcapagegeomebaaTurns
namespace Go.Proofs.Ytcapagegeomebaa
open Go.RowKit Go.Shelf

attribute [local go_sem] Oper.semAt_some

/-- the box of a room among those told -/
def findB (L : List Bx) (room : Int) : Option Bx := L.find? fun x => (x.room : Int) == room
def foundC (o : Option Bx) : Array Value := match o with | some x => #[.int .i64 x.row, .int .i64 x.col, .int .i64 x.high, .int .i64 x.wide] | none => #[.int .i64 0, .int .i64 0, .int .i64 0, .int .i64 0]
theorem findB_none {L : List Bx} {room : Int} (h : ∀ x ∈ L, ¬ (x.room : Int) = room) : findB L room = none := by
  unfold findB
  rw [List.find?_eq_none]
  intro x hx
  simpa using h x hx
theorem findB_some {L R : List Bx} {x : Bx} {room : Int} (h : ∀ x ∈ L, ¬ (x.room : Int) = room) (hx : (x.room : Int) = room) : findB (L ++ [x] ++ R) room = some x := by
  unfold findB
  have h1 : L.find? (fun x => (x.room : Int) == room) = none := findB_none h
  rw [List.append_assoc, List.find?_append, h1]
  simp [hx]

theorem findB_last {L : List Bx} {x : Bx} {room : Int} (h : ∀ x ∈ L, ¬ (x.room : Int) = room) (hx : (x.room : Int) = room) : findB (L ++ [x]) room = some x := by
  have := findB_some (R := []) h hx
  rwa [List.append_nil] at this

set_option maxRecDepth 100000 in
set_option maxHeartbeats 4000000 in
theorem boxOf_in (n : Nat) (hn : 6 ≤ n) (h wd r : Nat) (g : Nat → Nat → Nat) (hh : h ≤ 6) (hw : wd ≤ 6) (room : Int) (w : World) :
    CallsIn Fence.wide n Try.prog 38 #[.agg (planC h wd r g), .int .i64 room] w fun e W' =>
      e = .returned (.tuple #[.agg (foundC (findB (scanB h wd g (h * wd)) room)), .bool (findB (scanB h wd g (h * wd)) room).isSome]) ∧ Below w.heap.size w W' := by
  have hF : ∀ k, Fence.wide.fn k := fun _ => trivial
  have hn1 : 1 ≤ n := by omega
  have HCS := Lib.hid (planC_size h wd r g)
  have HST := Lib.hid (fun (b : Nat) (w : World) (hp : w.heap[b]? = some (.cells (planC h wd r g) 45 (0, 0))) => boxes_stops (n - 1) (by omega) b h wd r g hh hw w hp)
  generalize planC h wd r g = C at *
  have hsz : (Try.prog.info? 45).map (·.size) = some C.size := by rw [HCS.out]; kernel_rfl
  have HSZ := Lib.hid hsz; clear hsz
  refine callsIn_of_wp_marks Try.func38 rfl trivial ?_ rfl
  simp only [Try.ntmps38, List.size_toArray, List.length_cons, List.length_nil, Nat.reduceAdd, Nat.reduceSub, Array.replicate_succ, Array.replicate_zero, List.push_toArray, List.append_toArray, List.nil_append, List.cons_append]
  have hW1 : ((((w.alloc (.cells C 45)).alloc (.cells #[.int .i64 room] 3)).alloc (.cells #[.int .i64 0, .int .i64 0, .int .i64 0, .int .i64 0] 58)).alloc (.cells #[.bool false] 4)).heap[w.heap.size]? = some (.cells C 45 (0, 0)) := (((HeldB.new w _ _).alloc _).alloc _).alloc _
  have fin : ∀ (o : Option Bx) (D : Nat) (W5 : World) (v16 : Value), HeldB W5 (w.heap.size + 1 + 1) 58 (foundC o) → HeldB W5 (w.heap.size + 1 + 1 + 1) 4 #[.bool o.isSome] → Below w.heap.size w W5 → w.heap.size + 5 ≤ D → W5.heap[D]? = some (.deferred (some [])) → findB (scanB h wd g (h * wd)) room = o →
      bodyPostM Fence.wide n Try.prog Try.f38 (fun e W' => e = .returned (.tuple #[.agg (foundC (findB (scanB h wd g (h * wd)) room)), .bool (findB (scanB h wd g (h * wd)) room).isSome]) ∧ Below w.heap.size w W') Exit.ret
        { tmps := #[.agg C, .int .i64 room, .pointer (some ⟨w.heap.size, 0, none⟩), .pointer (some ⟨w.heap.size + 1, 0, none⟩), .pointer (some ⟨w.heap.size + 1 + 1, 0, none⟩), .pointer (some ⟨w.heap.size + 1 + 1 + 1, 0, none⟩), undef, undef, .agg C, .func (.func 74) #[] #[.pointer (some ⟨w.heap.size + 1 + 1 + 1 + 1, 0, none⟩)], undef, undef, undef, undef, undef, undef, v16], defers := [{ target := .collected D, args := #[] }] } W5 := by
    intro o D W5 v16 bR bO hB hD hK ho
    rw [ho]
    refine ⟨by simp, .inl ⟨_, _, rfl, run_takeDeferred hK, ?_⟩⟩
    have kr : ∀ B t cs, HeldB W5 B t cs → HeldB (W5.putObj D (.deferred none)) B t cs := fun B t cs hb => hb.kept (grownBy_putObj' W5 D (.deferred none)) (fun e => by
      simp only [Option.some.injEq] at e
      subst e
      rw [show W5.heap[B]? = _ from hb] at hK; cases hK)
    have bR2 := kr _ _ _ bR
    have bO2 := kr _ _ _ bO
    refine ⟨.tuple #[.agg (foundC o), .bool o.isSome], ?_, rfl, hB.trans (belowK_b (w := w) (Nat.le_refl _) W5 D _ _ (by omega) hK rfl rfl)⟩
    have c0 := bR2.cell 0; have c1 := bR2.cell 1; have c2 := bR2.cell 2; have c3 := bR2.cell 3
    have cO := bO2.cell 0
    cases o <;> simp [foundC] at c0 c1 c2 c3 cO ⊢ <;> simp [results, Try.f38, go_sem, c0, c1, c2, c3, cO]
  have HFIN := Lib.hid fin; clear fin
  gi_wp2_with (first
    | (refine wpListIn_load_row rfl 45 _ rfl w.heap.size rfl 45 C (0, 0) _ hW1 Try.underlying45 rfl HSZ.out ?_)
    | (gi_at_call 59; refine (boxes_in _ C _).mono ?_; rintro e w' ⟨rfl, rfl⟩))
  have bP := ((((HeldB.new w 45 C).alloc (.cells #[.int .i64 room] 3)).alloc (.cells #[.int .i64 0, .int .i64 0, .int .i64 0, .int .i64 0] 58)).alloc (.cells #[.bool false] 4)).alloc (.cells C 45)
  have bN := (((HeldB.new (w.alloc (.cells C 45)) 3 #[.int .i64 room]).alloc (.cells #[.int .i64 0, .int .i64 0, .int .i64 0, .int .i64 0] 58)).alloc (.cells #[.bool false] 4)).alloc (.cells C 45)
  have bR := ((HeldB.new ((w.alloc (.cells C 45)).alloc (.cells #[.int .i64 room] 3)) 58 #[.int .i64 0, .int .i64 0, .int .i64 0, .int .i64 0]).alloc (.cells #[.bool false] 4)).alloc (.cells C 45)
  have bO := (HeldB.new (((w.alloc (.cells C 45)).alloc (.cells #[.int .i64 room] 3)).alloc (.cells #[.int .i64 0, .int .i64 0, .int .i64 0, .int .i64 0] 58)) 4 #[.bool false]).alloc (.cells C 45)
  have bG := HeldB.new ((((w.alloc (.cells C 45)).alloc (.cells #[.int .i64 room] 3)).alloc (.cells #[.int .i64 0, .int .i64 0, .int .i64 0, .int .i64 0] 58)).alloc (.cells #[.bool false] 4)) 45 C
  simp only [World.size_alloc] at bN bR bO bG
  have hB0 : Below w.heap.size w (((((w.alloc (.cells C 45)).alloc (.cells #[.int .i64 room] 3)).alloc (.cells #[.int .i64 0, .int .i64 0, .int .i64 0, .int .i64 0] 58)).alloc (.cells #[.bool false] 4)).alloc (.cells C 45)) := (((((Below.refl _ w).alloc (Nat.le_refl _) _).alloc (by simp) _).alloc (by simp; omega) _).alloc (by simp; omega) _).alloc (by simp; omega) _
  have hsz0 : (((((w.alloc (.cells C 45)).alloc (.cells #[.int .i64 room] 3)).alloc (.cells #[.int .i64 0, .int .i64 0, .int .i64 0, .int .i64 0] 58)).alloc (.cells #[.bool false] 4)).alloc (.cells C 45)).heap.size = w.heap.size + 5 := by simp
  obtain ⟨W0, hW0⟩ : ∃ W0, ((((w.alloc (.cells C 45)).alloc (.cells #[.int .i64 room] 3)).alloc (.cells #[.int .i64 0, .int .i64 0, .int .i64 0, .int .i64 0] 58)).alloc (.cells #[.bool false] 4)).alloc (.cells C 45) = W0 := ⟨_, rfl⟩
  rw [hW0] at bP bN bR bO bG hB0 hsz0 ⊢
  clear hW0 hW1
  refine wpIn_rangeFunc_ownH rfl hn1 (gf := 74) (lb := #[.pointer (some ⟨w.heap.size + 1 + 1 + 1 + 1, 0, none⟩)]) rfl trivial (enters_of Try.func74 (by kernel_rfl) rfl)
    (HST.out (w.heap.size + 1 + 1 + 1 + 1) W0 bG) (fun {A B D} (h1 : B.heap[w.heap.size + 1 + 1 + 1 + 1]? = A.heap[w.heap.size + 1 + 1 + 1 + 1]?) (h2 : D.heap[w.heap.size + 1 + 1 + 1 + 1]? = B.heap[w.heap.size + 1 + 1 + 1 + 1]?) => h2.trans h1)
    (fun W l o o' hl _ _ _ => World.putObj_heap_other (by omega)) (Below.refl _ _) (fun _ => rfl)
    (fun pre W => ((HeldB W (w.heap.size + 1 + 1) 58 #[.int .i64 0, .int .i64 0, .int .i64 0, .int .i64 0] ∧ HeldB W (w.heap.size + 1 + 1 + 1) 4 #[.bool false]) ∧ (HeldB W (w.heap.size + 1) 3 #[.int .i64 room] ∧ HeldB W (w.heap.size + 1 + 1 + 1 + 1) 45 C) ∧ ∀ x ∈ pre, ¬ ((x : Bx).room : Int) = room) ∧ Below w.heap.size w W)
    (fun c pre W => ((c = .ret ∧ ∃ pre' x, pre = pre' ++ [x] ∧ (∀ y ∈ pre', ¬ ((y : Bx).room : Int) = room) ∧ (x.room : Int) = room) ∧ (HeldB W (w.heap.size + 1 + 1) 58 (foundC (findB pre room)) ∧ HeldB W (w.heap.size + 1 + 1 + 1) 4 #[.bool true])) ∧ Below w.heap.size w W)
    (OwnFrom.and (OwnFrom.and (OwnFrom.and (Own.from (heldB_own _ _ (fun _ => #[.int .i64 0, .int .i64 0, .int .i64 0, .int .i64 0])) _) (Own.from (heldB_own _ _ (fun _ => #[.bool false])) _)) (OwnFrom.and (OwnFrom.and (Own.from (heldB_own _ _ (fun _ => #[.int .i64 room])) _) (Own.from (heldB_own _ _ (fun _ => C)) _)) (ownFrom_pure _ _))) (ownFrom_below (Nat.le_refl _) (by omega)))
    (fun c => OwnFrom.and (OwnFrom.and (ownFrom_pure _ (fun pre => c = .ret ∧ ∃ pre' x, pre = pre' ++ [x] ∧ (∀ y ∈ pre', ¬ ((y : Bx).room : Int) = room) ∧ (x.room : Int) = room)) (OwnFrom.and (Own.from (heldB_own _ _ (fun pre => foundC (findB pre room))) _) (Own.from (heldB_own _ _ (fun _ => #[.bool true])) _))) (ownFrom_below (Nat.le_refl _) (by omega)))
    ⟨⟨⟨bR, bO⟩, ⟨bN, bG⟩, fun x hx => by cases hx⟩, hB0⟩
    (fun x a' W => ∃ B, w.heap.size + 1 + 1 + 1 + 1 < B ∧ HeldB W B 58 #[.int .i64 x.row, .int .i64 x.col, .int .i64 x.high, .int .i64 x.wide] ∧ a' = { tmps := #[.agg C, .int .i64 room, .pointer (some ⟨w.heap.size, 0, none⟩), .pointer (some ⟨w.heap.size + 1, 0, none⟩), .pointer (some ⟨w.heap.size + 1 + 1, 0, none⟩), .pointer (some ⟨w.heap.size + 1 + 1 + 1, 0, none⟩), .int .i64 x.room, .pointer (some ⟨B, 0, none⟩), .agg C, .func (.func 74) #[] #[.pointer (some ⟨w.heap.size + 1 + 1 + 1 + 1, 0, none⟩)], .int .i64 x.room, .agg #[.int .i64 x.row, .int .i64 x.col, .int .i64 x.high, .int .i64 x.wide], undef, undef, undef, undef, undef], defers := [] })
    (fun x a' _ X Y row hs hg hr => by obtain ⟨B, h1, h2, h3⟩ := hs; exact ⟨B, h1, heldB_own B 58 (fun (_ : Unit) => #[.int .i64 x.row, .int .i64 x.col, .int .i64 x.high, .int .i64 x.wide]) () X Y row h2 hg (fun r e => (hr r e).2), h3⟩)
    ?assign ?body ?done ?stop
  case assign =>
    rintro l pre x W K ⟨⟨⟨bR1, bO1⟩, ⟨bN1, bG1⟩, hall⟩, hB1⟩ hK
    simp only [encB]
    gi_wp2
    exact hK _ _ ((KeepsOthers.alloc _ _).from _) (Below.heap_alloc W _ _ bG1.lt) ⟨⟨⟨bR1.alloc _, bO1.alloc _⟩, ⟨bN1.alloc _, bG1.alloc _⟩, hall⟩, hB1.alloc hB1.size _⟩ ⟨W.heap.size, bG1.lt, HeldB.new W _ _, rfl⟩
  case body =>
    rintro l pre x a' W hl ⟨rl, hr⟩ ⟨⟨⟨bR1, bO1⟩, ⟨bN1, bG1⟩, hall⟩, hB1⟩ ⟨B, hBB, bX, rfl⟩ hlt
    have cN : W.cell? ⟨w.heap.size + 1, 0, none⟩ = some (.int .i64 room) := bN1.cell 0
    have cX0 : W.cell? ⟨B, 0, none⟩ = some (.int .i64 x.row) := bX.cell 0
    have cX1 : W.cell? ⟨B, 1, none⟩ = some (.int .i64 x.col) := bX.cell 1
    have cX2 : W.cell? ⟨B, 2, none⟩ = some (.int .i64 x.high) := bX.cell 2
    have cX3 : W.cell? ⟨B, 3, none⟩ = some (.int .i64 x.wide) := bX.cell 3
    have cR0 : W.cell? ⟨w.heap.size + 1 + 1, 0, none⟩ = some (.int .i64 0) := bR1.cell 0
    have cR1 : W.cell? ⟨w.heap.size + 1 + 1, 1, none⟩ = some (.int .i64 0) := bR1.cell 1
    have cR2 : W.cell? ⟨w.heap.size + 1 + 1, 2, none⟩ = some (.int .i64 0) := bR1.cell 2
    have cR3 : W.cell? ⟨w.heap.size + 1 + 1, 3, none⟩ = some (.int .i64 0) := bR1.cell 3
    have cO : W.cell? ⟨w.heap.size + 1 + 1 + 1, 0, none⟩ = some (.bool false) := bO1.cell 0
    have fR0 := bR1.frozen 0; have fR1 := bR1.frozen 1; have fR2 := bR1.frozen 2; have fR3 := bR1.frozen 3; have fO := bO1.frozen 0
    have HALL := Lib.hid hall; clear hall
    by_cases hx : (x.room : Int) = room
    · have hbe : ((x.room : Int) == room) = true := beq_iff_eq.2 hx
      have HX := Lib.hid hx; clear hx
      gi_wp2
      have bR2 := (((((bR1.set 0 (.int .i64 x.row)).set 1 (.int .i64 x.col)).set 2 (.int .i64 x.high)).set 3 (.int .i64 x.wide)).other (a := ⟨w.heap.size + 1 + 1 + 1, 0, none⟩) (by simp) (.bool true))
      have bO2 := ((((bO1.other (a := ⟨w.heap.size + 1 + 1, 0, none⟩) (by simp) (.int .i64 x.row)).other (a := ⟨w.heap.size + 1 + 1, 1, none⟩) (by simp) (.int .i64 x.col)).other (a := ⟨w.heap.size + 1 + 1, 2, none⟩) (by simp) (.int .i64 x.high)).other (a := ⟨w.heap.size + 1 + 1, 3, none⟩) (by simp) (.int .i64 x.wide)).set1 (.bool true)
      refine ⟨(((((KeepsOthers.setCell _ _ _).trans (KeepsOthers.setCell _ _ _)).trans (KeepsOthers.setCell _ _ _)).trans (KeepsOthers.setCell _ _ _)).trans (KeepsOthers.setCell _ _ _)).from _, ⟨⟨rfl, pre, x, rfl, HALL.out, HX.out⟩, ?_, bO2⟩, ?_⟩
      · rw [findB_last HALL.out HX.out]; exact bR2
      · exact ((((hB1.setCell (by simp; omega) _).setCell (by simp; omega) _).setCell (by simp; omega) _).setCell (by simp; omega) _).setCell (by simp; omega) _
    · have hbe : ((x.room : Int) == room) = false := beq_eq_false_iff_ne.2 hx
      have HX := Lib.hid hx; clear hx
      gi_wp2
      refine ⟨(KeepsOthers.refl _).from _, rfl, ⟨⟨bR1, bO1⟩, ⟨bN1, bG1⟩, ?_⟩, hB1⟩
      intro y hy
      rw [List.mem_append, List.mem_singleton] at hy
      rcases hy with hy | rfl
      · exact HALL.out y hy
      · exact HX.out
  case done =>
    rintro D ys W hD rfl ⟨⟨⟨bR1, bO1⟩, ⟨bN1, bG1⟩, hall⟩, hB1⟩ hK
    have HFN := Lib.hid (findB_none hall)
    clear hall
    have cR0 : W.cell? ⟨w.heap.size + 1 + 1, 0, none⟩ = some (.int .i64 0) := bR1.cell 0
    have cR1 : W.cell? ⟨w.heap.size + 1 + 1, 1, none⟩ = some (.int .i64 0) := bR1.cell 1
    have cR2 : W.cell? ⟨w.heap.size + 1 + 1, 2, none⟩ = some (.int .i64 0) := bR1.cell 2
    have cR3 : W.cell? ⟨w.heap.size + 1 + 1, 3, none⟩ = some (.int .i64 0) := bR1.cell 3
    have cO : W.cell? ⟨w.heap.size + 1 + 1 + 1, 0, none⟩ = some (.bool false) := bO1.cell 0
    have fR0 := bR1.frozen 0; have fR1 := bR1.frozen 1; have fR2 := bR1.frozen 2; have fR3 := bR1.frozen 3; have fO := bO1.frozen 0
    gi_wp2
    have bR2 := (((((bR1.set 0 (.int .i64 0)).set 1 (.int .i64 0)).set 2 (.int .i64 0)).set 3 (.int .i64 0)).other (a := ⟨w.heap.size + 1 + 1 + 1, 0, none⟩) (by simp) (.bool false))
    have bO2 := ((((bO1.other (a := ⟨w.heap.size + 1 + 1, 0, none⟩) (by simp) (.int .i64 0)).other (a := ⟨w.heap.size + 1 + 1, 1, none⟩) (by simp) (.int .i64 0)).other (a := ⟨w.heap.size + 1 + 1, 2, none⟩) (by simp) (.int .i64 0)).other (a := ⟨w.heap.size + 1 + 1, 3, none⟩) (by simp) (.int .i64 0)).set1 (.bool false)
    refine HFIN.out none D _ _ bR2 bO2 ?_ (by omega) ?_ HFN.out
    · exact ((((hB1.setCell (by simp; omega) _).setCell (by simp; omega) _).setCell (by simp; omega) _).setCell (by simp; omega) _).setCell (by simp; omega) _
    · exact (((((KeepsOthers.setCell _ _ _).trans (KeepsOthers.setCell _ _ _)).trans (KeepsOthers.setCell _ _ _)).trans (KeepsOthers.setCell _ _ _)).trans (KeepsOthers.setCell _ _ _)).same D _ hK rfl
  case stop =>
    rintro D c pre W hD ⟨t, ht, hpre⟩ ⟨⟨⟨rfl, pre', x, hpx, hall, hx⟩, bR1, bO1⟩, hB1⟩ hK
    have hfn : findB (scanB h wd g (h * wd)) room = some x := by
      obtain ⟨u, hu⟩ : ∃ u, h * wd = t + u := ⟨h * wd - t, by omega⟩
      obtain ⟨rest, hrest⟩ := scanB_prefix h wd g t u
      rw [hu, ← hrest, ← hpre, hpx]
      exact findB_some hall hx
    have hfp : findB pre room = some x := by rw [hpx]; exact findB_last hall hx
    rw [hfp] at bR1
    have HFN := Lib.hid hfn
    clear hfn hfp hpre hpx hall hx
    gi_wp2
    exact HFIN.out (some x) D _ _ bR1 bO1 hB1 (by omega) hK HFN.out

theorem boxOf_any (h wd r : Nat) (g : Nat → Nat → Nat) (hh : h ≤ 6) (hw : wd ≤ 6) (room : Int) (w : World) :
    Calls Try.prog 38 #[.agg (planC h wd r g), .int .i64 room] w fun e W' =>
      e = .returned (.tuple #[.agg (foundC (findB (scanB h wd g (h * wd)) room)), .bool (findB (scanB h wd g (h * wd)) room).isSome]) ∧ Below w.heap.size w W' :=
  callsIn_wide.1 (boxOf_in 6 (Nat.le_refl _) h wd r g hh hw room w)

end Go.Proofs.Ytcapagegeomebaa
