
/-
  Is a permutation fair, or loose: the program asks all four places. (Walks inside a fence.)
-/
import Derived.Test.YtkpjlglfhhdcbaaSevZ
namespace Go.Proofs.Ytkpjlglfhhdcbaa
open Go.RowKit Go.Shelf

attribute [local go_sem] Oper.semAt_some

theorem wpListIn_load_r7 {F : Fence} {n : Nat} {P : Program} {ops : Array Oper} {rest : List Oper} {o : Oper} {a : Act} {w : World} {Q : Exit → Act → World → Prop} (hgd : o.guard = none) (ty : TypeId) (x : Operand) (ho : o.op = .load ty x)
    (g : Nat) (hx : a.eval x = .pointer (some ⟨g, 0, none⟩)) (t : TypeId) (cs : Array Value) (fr : Nat × Nat) (d : TypeDesc) (hg : w.heap[g]? = some (.cells cs t fr))
    (hu : P.underlying ty = some d) (hd : (match d with | .struct _ | .array _ _ => true | _ => false) = true) (hi : (P.info? ty).map (·.size) = some cs.size)
    (h : wpListIn F n P ops Q rest (a.put o.dst (.agg cs)) w) : wpListIn F n P ops Q (o :: rest) a w := by
  refine wpListIn_plain hgd fun K hK' => ?_
  unfold Oper.wpIn
  refine ⟨?_, ?_⟩
  · simp [Oper.about, ho]
  · rw [Oper.semAt_plain F _ _ (by rw [ho]; intro c hc'; cases hc')]
    have hr := run_loadVar_row (P := P) w g t ty cs fr d hg hu hd hi
    unfold execOp
    simp only [ho, hx, Instr.loadAt, Instr.sureAddr, Sem.run_bind, Sem.run_pure, Result.andThen_ok, hr]
    exact hK' _ _ h
theorem held_own {β : Type} (B : Nat) (t : TypeId) (f : β → Array Value) : Own (fun s W => HeldB W B t (f s)) := fun s X Y row hs hg hrow =>
  hs.kept hg (fun e' => by obtain ⟨o, ho, hc⟩ := hrow B e'.symm; rw [show X.heap[B]? = _ from hs] at ho; cases ho; cases hc)
theorem keeps_other {W W' : World} (hb : Below W.heap.size W W') : KeepsOthers W W' := ⟨hb.size, fun k _ hk _ => (hb.block k (Array.getElem?_eq_some_iff.1 hk).1).trans hk⟩

def twT (P : List Int) (x : Fr) : Bool := decide (twiP P x.a x.b x.c x.d)
def brT (P : List Int) (x : Fr) : Bool := decide (x.c = x.b + 1) && decide (twiP P x.a x.b x.c x.d)
theorem twi_pad {l : List Int} {a b c d : Nat} (h1 : a < b) (h2 : b < c) (h3 : c < d) (h4 : d < l.length) : twiP (padL l) a b c d ↔ twiP l a b c d := by
  unfold twiP
  rw [padL_lt (show a < l.length by omega), padL_lt (show b < l.length by omega), padL_lt (show c < l.length by omega), padL_lt h4]
  omega
theorem upto_has {n : Nat} (hn : n ≤ 7) {ys : List Fr} (h : Upto n 2401 ys) {a b c d : Nat} (h1 : a < b) (h2 : b < c) (h3 : c < d) (h4 : d < n) : (⟨a, b, c, d, h1, h2, h3, by omega⟩ : Fr) ∈ ys :=
  h.all _ h4 (by unfold Fr.code; simp only; omega)
theorem isFair_done {l : List Int} (h7 : l.length ≤ 7) (ys : List Fr) (h : Upto l.length 2401 ys) (hno : ∀ x ∈ ys, brT (padL l) x = false) : fairB l = true := by
  rw [fairB_iff]
  intro a b d h1 h2 h4 ht
  have := hno _ (upto_has h7 h h1 (show b < b + 1 by omega) h2 h4)
  unfold brT at this
  simp only [decide_true, Bool.true_and, decide_eq_false_iff_not] at this
  exact this ((twi_pad h1 (by omega) h2 h4).2 ht)
theorem isFair_stop {l : List Int} (x : Fr) (hd : x.d < l.length) (ht : brT (padL l) x = true) : fairB l = false := by
  unfold brT at ht
  rw [Bool.and_eq_true, decide_eq_true_eq, decide_eq_true_eq] at ht
  obtain ⟨hc, ht⟩ := ht
  have hcd := x.hcd
  have := (twi_pad x.hab x.hbc x.hcd hd).1 ht
  rw [hc] at this hcd
  exact fairB_no x.hab hcd hd this
theorem isLoose_done {l : List Int} (h7 : l.length ≤ 7) (ys : List Fr) (h : Upto l.length 2401 ys) (hno : ∀ x ∈ ys, twT (padL l) x = false) : looseB l = true := by
  rw [looseB_iff]
  intro a b c d h1 h2 h3 h4 ht
  have := hno _ (upto_has h7 h h1 h2 h3 h4)
  unfold twT at this
  rw [decide_eq_false_iff_not] at this
  exact this ((twi_pad h1 h2 h3 h4).2 ht)
theorem isLoose_stop {l : List Int} (x : Fr) (hd : x.d < l.length) (ht : twT (padL l) x = true) : looseB l = false := by
  unfold twT at ht
  rw [decide_eq_true_eq] at ht
  exact looseB_no x.hab x.hbc x.hcd hd ((twi_pad x.hab x.hbc x.hcd hd).1 ht)

set_option maxRecDepth 100000 in
set_option maxHeartbeats 8000000 in
theorem isFair_in (n : Nat) (hn : 6 ≤ n) {l : List Int} (hf : Few l) (w : World) :
    CallsIn Fence.wide n Try.prog 43 #[.agg (numC (padL l))] w fun e W' => e = .returned (.bool (fairB l)) ∧ Below w.heap.size w W' := by
  have hF : ∀ k, Fence.wide.fn k := fun _ => trivial
  have hn1 : 1 ≤ n := by omega
  have h7 := hf.len
  have HSZ := Lib.hid (perm_size hf.sev.len)
  have HAS := Lib.hid (fun (x : Fr) (w : World) => isBreak_any hf.sev x.hab x.hbc x.hcd x.hd7 w)
  have HFO := Lib.hid (fun (w : World) => fours_any hf.lo w)
  have HST := Lib.hid (fun (B : Nat) (w : World) (hp : HeldB w B 3 #[.int .i64 (l.length : Int)]) => fours_stops (n - 1) (by omega) B l.length h7 w hp)
  have HDONE := Lib.hid (@isFair_done l h7)
  have HSTOP := Lib.hid (@isFair_stop l)
  change Hid (∀ (x : Fr) (w : World), Calls Try.prog 59 #[.agg (numC (padL l)), .agg #[.int .i64 (x.a : Int), .int .i64 (x.b : Int), .int .i64 (x.c : Int), .int .i64 (x.d : Int)]] w fun e w' => e = .returned (.bool (brT (padL l) x)) ∧ Below w.heap.size w w') at HAS
  have bP := (HeldB.new w 35 (numC (padL l))).alloc (.cells #[.bool false] 4)
  have bR := HeldB.new (w.alloc (.cells (numC (padL l)) 35)) 4 #[.bool false]
  simp only [World.size_alloc] at bR
  have hB0 : Below w.heap.size w ((w.alloc (.cells (numC (padL l)) 35)).alloc (.cells #[.bool false] 4)) := ((Below.refl _ w).alloc (Nat.le_refl _) _).alloc (by simp) _
  have hsz1 : ((w.alloc (.cells (numC (padL l)) 35)).alloc (.cells #[.bool false] 4)).heap.size = w.heap.size + 2 := by simp
  generalize brT (padL l) = tst at *
  generalize fairB l = res at *
  generalize numC (padL l) = C at *
  have hW1 : ((w.alloc (.cells C 35)).alloc (.cells #[.bool false] 4)).heap[w.heap.size]? = some (.cells C 35 (0, 0)) := bP
  refine callsIn_of_wp_marks Try.func43 rfl trivial ?_ rfl
  simp only [Try.ntmps43, List.size_toArray, List.length_cons, List.length_nil, Nat.reduceAdd, Nat.reduceSub, Array.replicate_succ, Array.replicate_zero, List.push_toArray, List.append_toArray, List.nil_append, List.cons_append]
  gi_wp2_with (first
    | (refine wpListIn_load_r7 rfl 35 _ rfl w.heap.size rfl 35 C (0, 0) _ hW1 Try.underlying35 rfl HSZ.out ?_)
    | (gi_at_call 58; refine (callsIn_wide.2 (HFO.out _)).mono ?_; rintro e W0 ⟨B, rfl, hBB, bN, hb1⟩))
  have bP := bP.below hb1
  have bR := bR.below hb1
  have hB0 := below_step hB0 hB0.size hb1
  rw [hsz1] at hBB
  have hBW := bN.lt
  clear hb1 hW1 hsz1
  refine wpIn_rangeFunc_ownH rfl hn1 (gf := 64) (lb := #[.pointer (some ⟨B, 0, none⟩)]) rfl trivial (enters_of Try.func64 (by kernel_rfl) rfl)
    (HST.out B W0 bN) (fun {A B' D} (h1 : B'.heap[B]? = A.heap[B]?) (h2 : D.heap[B]? = B'.heap[B]?) => h2.trans h1)
    (fun W l o o' hl _ _ _ => World.putObj_heap_other (by omega)) (Below.refl _ _) (fun _ => rfl)
    (fun pre W => ((HeldB W w.heap.size 35 C ∧ HeldB W (w.heap.size + 1) 4 #[.bool false]) ∧ HeldB W B 3 #[.int .i64 (l.length : Int)] ∧ ∀ x ∈ pre, tst x = false) ∧ Below w.heap.size w W)
    (fun c pre W => ((c = .ret ∧ ∃ x ∈ pre, tst x = true) ∧ HeldB W (w.heap.size + 1) 4 #[.bool false]) ∧ Below w.heap.size w W)
    (OwnFrom.and (OwnFrom.and (OwnFrom.and (Own.from (held_own _ _ (fun _ => C)) _) (Own.from (held_own _ _ (fun _ => #[.bool false])) _)) (OwnFrom.and (Own.from (held_own _ _ (fun _ => #[.int .i64 (l.length : Int)])) _) (ownFrom_pure _ _))) (ownFrom_below (Nat.le_refl _) (by omega)))
    (fun c => OwnFrom.and (OwnFrom.and (ownFrom_pure _ (fun pre => c = .ret ∧ ∃ x ∈ pre, tst x = true)) (Own.from (held_own _ _ (fun _ => #[.bool false])) _)) (ownFrom_below (Nat.le_refl _) (by omega)))
    ⟨⟨⟨bP, bR⟩, bN, fun x hx => by cases hx⟩, hB0⟩
    (fun x a' W => ∃ G, B < G ∧ HeldB W G 54 #[.int .i64 (x.a : Int), .int .i64 (x.b : Int), .int .i64 (x.c : Int), .int .i64 (x.d : Int)] ∧ a' = { tmps := #[.agg C, .pointer (some ⟨w.heap.size, 0, none⟩), .pointer (some ⟨w.heap.size + 1, 0, none⟩), .pointer (some ⟨G, 0, none⟩), .agg C, .func (.func 64) #[] #[.pointer (some ⟨B, 0, none⟩)], .agg #[.int .i64 (x.a : Int), .int .i64 (x.b : Int), .int .i64 (x.c : Int), .int .i64 (x.d : Int)], undef, undef, undef], defers := [] })
    (fun x a' _ X Y row hs hg hr => by obtain ⟨G, h1, h2, h3⟩ := hs; exact ⟨G, h1, held_own G 54 (fun (_ : Unit) => #[.int .i64 (x.a : Int), .int .i64 (x.b : Int), .int .i64 (x.c : Int), .int .i64 (x.d : Int)]) () X Y row h2 hg (fun r e => (hr r e).2), h3⟩)
    ?assign ?body ?done ?stop
  case assign =>
    rintro l pre x W K ⟨⟨⟨bP1, bR1⟩, bN1, hall⟩, hB1⟩ hK
    simp only [encF]
    gi_wp2
    exact hK _ _ ((KeepsOthers.alloc _ _).from _) (Below.heap_alloc W _ _ bN1.lt) ⟨⟨⟨bP1.alloc _, bR1.alloc _⟩, bN1.alloc _, hall⟩, hB1.alloc hB1.size _⟩ ⟨W.heap.size, bN1.lt, HeldB.new W _ _, rfl⟩
  case body =>
    rintro l pre x a' W hl ⟨rl, hr⟩ ⟨⟨⟨bP1, bR1⟩, bN1, hall⟩, hB1⟩ ⟨G, hGG, bX, rfl⟩ hlt
    have h1' : 1 ≤ n - 1 - 1 := by omega
    have cX0 : W.cell? ⟨G, 0, none⟩ = some (.int .i64 (x.a : Int)) := bX.cell 0
    have cX1 : W.cell? ⟨G, 1, none⟩ = some (.int .i64 (x.b : Int)) := bX.cell 1
    have cX2 : W.cell? ⟨G, 2, none⟩ = some (.int .i64 (x.c : Int)) := bX.cell 2
    have cX3 : W.cell? ⟨G, 3, none⟩ = some (.int .i64 (x.d : Int)) := bX.cell 3
    have hHELD : W.heap[w.heap.size]? = some (.cells C 35 (0, 0)) := bP1
    have HALL := Lib.hid hall; clear hall
    have HAX := Lib.hid (HAS.out x)
    cases hal : tst x
    · rw [hal] at HAX
      have HAL := Lib.hid hal; clear hal
      gi_wp2_with (first
        | (refine wpListIn_load_r7 rfl 35 _ rfl w.heap.size rfl 35 C (0, 0) _ hHELD Try.underlying35 rfl HSZ.out ?_)
        | (refine ⟨trivial, ?_⟩; gi_at_call 59; refine (CallsIn.inRound l (callsIn_wide.2 (HAX.out _))).mono ?_; rintro e w2 ⟨rfl, hb2⟩)
        | (gi_at_call 59; refine (CallsIn.inRound l (callsIn_wide.2 (HAX.out _))).mono ?_; rintro e w2 ⟨rfl, hb2⟩))
      refine ⟨(keeps_other hb2).from _, (show w2.heap[B]? = W.heap[B]? from hb2.block B bN1.lt), ⟨⟨bP1.below hb2, bR1.below hb2⟩, bN1.below hb2, ?_⟩, below_step hB1 hB1.size hb2⟩
      intro y hy
      rw [List.mem_append, List.mem_singleton] at hy
      rcases hy with hy | rfl
      · exact HALL.out y hy
      · exact HAL.out
    · rw [hal] at HAX
      have HAL := Lib.hid hal; clear hal
      gi_wp2_with (first
        | (refine wpListIn_load_r7 rfl 35 _ rfl w.heap.size rfl 35 C (0, 0) _ hHELD Try.underlying35 rfl HSZ.out ?_)
        | (refine ⟨trivial, ?_⟩; gi_at_call 59; refine (CallsIn.inRound l (callsIn_wide.2 (HAX.out _))).mono ?_; rintro e w2 ⟨rfl, hb2⟩; have fR := (bR1.below hb2).frozen 0; have cR := (bR1.below hb2).cell 0)
        | (gi_at_call 59; refine (CallsIn.inRound l (callsIn_wide.2 (HAX.out _))).mono ?_; rintro e w2 ⟨rfl, hb2⟩; have fR := (bR1.below hb2).frozen 0; have cR := (bR1.below hb2).cell 0))
      exact ⟨((keeps_other hb2).trans (KeepsOthers.setCell _ _ _)).from _, ⟨⟨rfl, x, by simp, HAL.out⟩, (bR1.below hb2).set1 _⟩, (below_step hB1 hB1.size hb2).setCell (by simp) _⟩
  case done =>
    rintro D ys W hD hys ⟨⟨⟨bP1, bR1⟩, bN1, hall⟩, hB1⟩ hK
    have hfin : res = true := HDONE.out ys hys hall
    have HFIN := Lib.hid hfin
    clear hfin hall hys
    have cR := bR1.cell 0
    have fR := bR1.frozen 0
    gi_wp2
    have hK' := (KeepsOthers.setCell W ⟨w.heap.size + 1, 0, none⟩ (.bool true)).same D _ hK rfl
    have hc5 := cell_kept (World.cell?_setCell_same' W ⟨w.heap.size + 1, 0, none⟩ (.bool true) (by rw [cR]; rfl)) (grownBy_putObj' _ D (.deferred none)) (fun r e => by cases e; exact ⟨_, hK', rfl⟩)
    refine ⟨by simp, .inl ⟨_, _, rfl, run_takeDeferred hK', ?_⟩⟩
    refine ⟨.bool true, ?_, ret_bool HFIN.out.symm, (hB1.setCell (p := ⟨w.heap.size + 1, 0, none⟩) (by simp) _).trans (belowK_b (w := w) (Nat.le_refl _) _ D _ _ (by omega) hK' rfl rfl)⟩
    simp [results, Try.f43, go_sem, hc5]
  case stop =>
    rintro D c pre W hD hpre ⟨⟨⟨rfl, x, hx, htx⟩, bR1⟩, hB1⟩ hK
    have hfin : res = false := HSTOP.out x (hpre x hx) htx
    have HFIN := Lib.hid hfin
    clear hfin hpre hx htx
    gi_wp2
    refine ⟨by simp, .inl ⟨_, _, rfl, run_takeDeferred hK, ?_⟩⟩
    have hc5 := cell_kept (bR1.cell 0) (grownBy_putObj' _ D (.deferred none)) (fun r e => by cases e; exact ⟨_, hK, rfl⟩)
    refine ⟨.bool false, ?_, ret_bool HFIN.out.symm, hB1.trans (belowK_b (w := w) (Nat.le_refl _) W D _ _ (by omega) hK rfl rfl)⟩
    simp [results, Try.f43, go_sem, hc5]

theorem isFair_any {l : List Int} (hf : Few l) (w : World) :
    Calls Try.prog 43 #[.agg (numC (padL l))] w fun e W' => e = .returned (.bool (fairB l)) ∧ Below w.heap.size w W' :=
  callsIn_wide.1 (isFair_in 6 (Nat.le_refl _) hf w)

set_option maxRecDepth 100000 in
set_option maxHeartbeats 8000000 in
theorem isLoose_in (n : Nat) (hn : 6 ≤ n) {l : List Int} (hf : Few l) (w : World) :
    CallsIn Fence.wide n Try.prog 45 #[.agg (numC (padL l))] w fun e W' => e = .returned (.bool (looseB l)) ∧ Below w.heap.size w W' := by
  have hF : ∀ k, Fence.wide.fn k := fun _ => trivial
  have hn1 : 1 ≤ n := by omega
  have h7 := hf.len
  have HSZ := Lib.hid (perm_size hf.sev.len)
  have HAS := Lib.hid (fun (x : Fr) (w : World) => isTwist_any hf.sev x.hab x.hbc x.hcd x.hd7 w)
  have HFO := Lib.hid (fun (w : World) => fours_any hf.lo w)
  have HST := Lib.hid (fun (B : Nat) (w : World) (hp : HeldB w B 3 #[.int .i64 (l.length : Int)]) => fours_stops (n - 1) (by omega) B l.length h7 w hp)
  have HDONE := Lib.hid (@isLoose_done l h7)
  have HSTOP := Lib.hid (@isLoose_stop l)
  change Hid (∀ (x : Fr) (w : World), Calls Try.prog 60 #[.agg (numC (padL l)), .agg #[.int .i64 (x.a : Int), .int .i64 (x.b : Int), .int .i64 (x.c : Int), .int .i64 (x.d : Int)]] w fun e w' => e = .returned (.bool (twT (padL l) x)) ∧ Below w.heap.size w w') at HAS
  have bP := (HeldB.new w 35 (numC (padL l))).alloc (.cells #[.bool false] 4)
  have bR := HeldB.new (w.alloc (.cells (numC (padL l)) 35)) 4 #[.bool false]
  simp only [World.size_alloc] at bR
  have hB0 : Below w.heap.size w ((w.alloc (.cells (numC (padL l)) 35)).alloc (.cells #[.bool false] 4)) := ((Below.refl _ w).alloc (Nat.le_refl _) _).alloc (by simp) _
  have hsz1 : ((w.alloc (.cells (numC (padL l)) 35)).alloc (.cells #[.bool false] 4)).heap.size = w.heap.size + 2 := by simp
  generalize twT (padL l) = tst at *
  generalize looseB l = res at *
  generalize numC (padL l) = C at *
  have hW1 : ((w.alloc (.cells C 35)).alloc (.cells #[.bool false] 4)).heap[w.heap.size]? = some (.cells C 35 (0, 0)) := bP
  refine callsIn_of_wp_marks Try.func45 rfl trivial ?_ rfl
  simp only [Try.ntmps45, List.size_toArray, List.length_cons, List.length_nil, Nat.reduceAdd, Nat.reduceSub, Array.replicate_succ, Array.replicate_zero, List.push_toArray, List.append_toArray, List.nil_append, List.cons_append]
  gi_wp2_with (first
    | (refine wpListIn_load_r7 rfl 35 _ rfl w.heap.size rfl 35 C (0, 0) _ hW1 Try.underlying35 rfl HSZ.out ?_)
    | (gi_at_call 58; refine (callsIn_wide.2 (HFO.out _)).mono ?_; rintro e W0 ⟨B, rfl, hBB, bN, hb1⟩))
  have bP := bP.below hb1
  have bR := bR.below hb1
  have hB0 := below_step hB0 hB0.size hb1
  rw [hsz1] at hBB
  have hBW := bN.lt
  clear hb1 hW1 hsz1
  refine wpIn_rangeFunc_ownH rfl hn1 (gf := 64) (lb := #[.pointer (some ⟨B, 0, none⟩)]) rfl trivial (enters_of Try.func64 (by kernel_rfl) rfl)
    (HST.out B W0 bN) (fun {A B' D} (h1 : B'.heap[B]? = A.heap[B]?) (h2 : D.heap[B]? = B'.heap[B]?) => h2.trans h1)
    (fun W l o o' hl _ _ _ => World.putObj_heap_other (by omega)) (Below.refl _ _) (fun _ => rfl)
    (fun pre W => ((HeldB W w.heap.size 35 C ∧ HeldB W (w.heap.size + 1) 4 #[.bool false]) ∧ HeldB W B 3 #[.int .i64 (l.length : Int)] ∧ ∀ x ∈ pre, tst x = false) ∧ Below w.heap.size w W)
    (fun c pre W => ((c = .ret ∧ ∃ x ∈ pre, tst x = true) ∧ HeldB W (w.heap.size + 1) 4 #[.bool false]) ∧ Below w.heap.size w W)
    (OwnFrom.and (OwnFrom.and (OwnFrom.and (Own.from (held_own _ _ (fun _ => C)) _) (Own.from (held_own _ _ (fun _ => #[.bool false])) _)) (OwnFrom.and (Own.from (held_own _ _ (fun _ => #[.int .i64 (l.length : Int)])) _) (ownFrom_pure _ _))) (ownFrom_below (Nat.le_refl _) (by omega)))
    (fun c => OwnFrom.and (OwnFrom.and (ownFrom_pure _ (fun pre => c = .ret ∧ ∃ x ∈ pre, tst x = true)) (Own.from (held_own _ _ (fun _ => #[.bool false])) _)) (ownFrom_below (Nat.le_refl _) (by omega)))
    ⟨⟨⟨bP, bR⟩, bN, fun x hx => by cases hx⟩, hB0⟩
    (fun x a' W => ∃ G, B < G ∧ HeldB W G 54 #[.int .i64 (x.a : Int), .int .i64 (x.b : Int), .int .i64 (x.c : Int), .int .i64 (x.d : Int)] ∧ a' = { tmps := #[.agg C, .pointer (some ⟨w.heap.size, 0, none⟩), .pointer (some ⟨w.heap.size + 1, 0, none⟩), .pointer (some ⟨G, 0, none⟩), .agg C, .func (.func 64) #[] #[.pointer (some ⟨B, 0, none⟩)], .agg #[.int .i64 (x.a : Int), .int .i64 (x.b : Int), .int .i64 (x.c : Int), .int .i64 (x.d : Int)], undef, undef, undef], defers := [] })
    (fun x a' _ X Y row hs hg hr => by obtain ⟨G, h1, h2, h3⟩ := hs; exact ⟨G, h1, held_own G 54 (fun (_ : Unit) => #[.int .i64 (x.a : Int), .int .i64 (x.b : Int), .int .i64 (x.c : Int), .int .i64 (x.d : Int)]) () X Y row h2 hg (fun r e => (hr r e).2), h3⟩)
    ?assign ?body ?done ?stop
  case assign =>
    rintro l pre x W K ⟨⟨⟨bP1, bR1⟩, bN1, hall⟩, hB1⟩ hK
    simp only [encF]
    gi_wp2
    exact hK _ _ ((KeepsOthers.alloc _ _).from _) (Below.heap_alloc W _ _ bN1.lt) ⟨⟨⟨bP1.alloc _, bR1.alloc _⟩, bN1.alloc _, hall⟩, hB1.alloc hB1.size _⟩ ⟨W.heap.size, bN1.lt, HeldB.new W _ _, rfl⟩
  case body =>
    rintro l pre x a' W hl ⟨rl, hr⟩ ⟨⟨⟨bP1, bR1⟩, bN1, hall⟩, hB1⟩ ⟨G, hGG, bX, rfl⟩ hlt
    have h1' : 1 ≤ n - 1 - 1 := by omega
    have cX0 : W.cell? ⟨G, 0, none⟩ = some (.int .i64 (x.a : Int)) := bX.cell 0
    have cX1 : W.cell? ⟨G, 1, none⟩ = some (.int .i64 (x.b : Int)) := bX.cell 1
    have cX2 : W.cell? ⟨G, 2, none⟩ = some (.int .i64 (x.c : Int)) := bX.cell 2
    have cX3 : W.cell? ⟨G, 3, none⟩ = some (.int .i64 (x.d : Int)) := bX.cell 3
    have hHELD : W.heap[w.heap.size]? = some (.cells C 35 (0, 0)) := bP1
    have HALL := Lib.hid hall; clear hall
    have HAX := Lib.hid (HAS.out x)
    cases hal : tst x
    · rw [hal] at HAX
      have HAL := Lib.hid hal; clear hal
      gi_wp2_with (first
        | (refine wpListIn_load_r7 rfl 35 _ rfl w.heap.size rfl 35 C (0, 0) _ hHELD Try.underlying35 rfl HSZ.out ?_)
        | (refine ⟨trivial, ?_⟩; gi_at_call 60; refine (CallsIn.inRound l (callsIn_wide.2 (HAX.out _))).mono ?_; rintro e w2 ⟨rfl, hb2⟩)
        | (gi_at_call 60; refine (CallsIn.inRound l (callsIn_wide.2 (HAX.out _))).mono ?_; rintro e w2 ⟨rfl, hb2⟩))
      refine ⟨(keeps_other hb2).from _, (show w2.heap[B]? = W.heap[B]? from hb2.block B bN1.lt), ⟨⟨bP1.below hb2, bR1.below hb2⟩, bN1.below hb2, ?_⟩, below_step hB1 hB1.size hb2⟩
      intro y hy
      rw [List.mem_append, List.mem_singleton] at hy
      rcases hy with hy | rfl
      · exact HALL.out y hy
      · exact HAL.out
    · rw [hal] at HAX
      have HAL := Lib.hid hal; clear hal
      gi_wp2_with (first
        | (refine wpListIn_load_r7 rfl 35 _ rfl w.heap.size rfl 35 C (0, 0) _ hHELD Try.underlying35 rfl HSZ.out ?_)
        | (refine ⟨trivial, ?_⟩; gi_at_call 60; refine (CallsIn.inRound l (callsIn_wide.2 (HAX.out _))).mono ?_; rintro e w2 ⟨rfl, hb2⟩; have fR := (bR1.below hb2).frozen 0; have cR := (bR1.below hb2).cell 0)
        | (gi_at_call 60; refine (CallsIn.inRound l (callsIn_wide.2 (HAX.out _))).mono ?_; rintro e w2 ⟨rfl, hb2⟩; have fR := (bR1.below hb2).frozen 0; have cR := (bR1.below hb2).cell 0))
      exact ⟨((keeps_other hb2).trans (KeepsOthers.setCell _ _ _)).from _, ⟨⟨rfl, x, by simp, HAL.out⟩, (bR1.below hb2).set1 _⟩, (below_step hB1 hB1.size hb2).setCell (by simp) _⟩
  case done =>
    rintro D ys W hD hys ⟨⟨⟨bP1, bR1⟩, bN1, hall⟩, hB1⟩ hK
    have hfin : res = true := HDONE.out ys hys hall
    have HFIN := Lib.hid hfin
    clear hfin hall hys
    have cR := bR1.cell 0
    have fR := bR1.frozen 0
    gi_wp2
    have hK' := (KeepsOthers.setCell W ⟨w.heap.size + 1, 0, none⟩ (.bool true)).same D _ hK rfl
    have hc5 := cell_kept (World.cell?_setCell_same' W ⟨w.heap.size + 1, 0, none⟩ (.bool true) (by rw [cR]; rfl)) (grownBy_putObj' _ D (.deferred none)) (fun r e => by cases e; exact ⟨_, hK', rfl⟩)
    refine ⟨by simp, .inl ⟨_, _, rfl, run_takeDeferred hK', ?_⟩⟩
    refine ⟨.bool true, ?_, ret_bool HFIN.out.symm, (hB1.setCell (p := ⟨w.heap.size + 1, 0, none⟩) (by simp) _).trans (belowK_b (w := w) (Nat.le_refl _) _ D _ _ (by omega) hK' rfl rfl)⟩
    simp [results, Try.f45, go_sem, hc5]
  case stop =>
    rintro D c pre W hD hpre ⟨⟨⟨rfl, x, hx, htx⟩, bR1⟩, hB1⟩ hK
    have hfin : res = false := HSTOP.out x (hpre x hx) htx
    have HFIN := Lib.hid hfin
    clear hfin hpre hx htx
    gi_wp2
    refine ⟨by simp, .inl ⟨_, _, rfl, run_takeDeferred hK, ?_⟩⟩
    have hc5 := cell_kept (bR1.cell 0) (grownBy_putObj' _ D (.deferred none)) (fun r e => by cases e; exact ⟨_, hK, rfl⟩)
    refine ⟨.bool false, ?_, ret_bool HFIN.out.symm, hB1.trans (belowK_b (w := w) (Nat.le_refl _) W D _ _ (by omega) hK rfl rfl)⟩
    simp [results, Try.f45, go_sem, hc5]

theorem isLoose_any {l : List Int} (hf : Few l) (w : World) :
    Calls Try.prog 45 #[.agg (numC (padL l))] w fun e W' => e = .returned (.bool (looseB l)) ∧ Below w.heap.size w W' :=
  callsIn_wide.1 (isLoose_in 6 (Nat.le_refl _) hf w)

end Go.Proofs.Ytkpjlglfhhdcbaa
