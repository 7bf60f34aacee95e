/-
  Merged texts: ImplD ImplE.
-/
import Derived.Test.YtpgcpmfemcfoaaaImplABR
import Derived.Test.YtpgcpmfemcfoaaaRowR
import Derived.RangeFuncNested
import Derived.RangeFuncBound
import Derived.RangeFuncCalls
import Derived.RangeFuncLeaves
import Derived.Shelf.Abstract
import Derived.Shelf.RegionOpen
import Derived.WalkKit
import Derived.OwnWalkIn
import Derived.TacticsInMore
import Derived.LoopNIn
import Derived.LoopIn

/-
  The program's iterator over boxes. (Walk inside a fence.)
-/
namespace Go.Proofs.Ytpgcpmfemcfoaaa
open Go.RowKit Go.Shelf

attribute [local go_sem] Oper.semAt_some

theorem wpListIn_load_row {F : Fence} {n : Nat} {P : Program} {ops : Array Oper} {rest : List Oper} {o : Oper} {a : Act} {w : World} {Q : Exit → Act → World → Prop} (hgd : o.guard = none) (ty : TypeId) (x : Operand) (ho : o.op = .load ty x)
    (g : Nat) (hx : a.eval x = .pointer (some ⟨g, 0, none⟩)) (t : TypeId) (cs : Array Value) (fr : Nat × Nat) (d : TypeDesc) (hg : w.heap[g]? = some (.cells cs t fr))
    (hu : P.underlying ty = some d) (hd : (match d with | .struct _ | .array _ _ => true | _ => false) = true) (hi : (P.info? ty).map (·.size) = some cs.size)
    (h : wpListIn F n P ops Q rest (a.put o.dst (.agg cs)) w) : wpListIn F n P ops Q (o :: rest) a w := by
  refine wpListIn_plain hgd fun K hK' => ?_
  unfold Oper.wpIn
  refine ⟨?_, ?_⟩
  · simp [Oper.about, ho]
  · rw [Oper.semAt_plain F _ _ (by rw [ho]; intro c hc'; cases hc')]
    have hr := run_loadVar_row (P := P) w g t ty cs fr d hg hu hd hi
    unfold execOp
    simp only [ho, hx, Instr.loadAt, Instr.sureAddr, Sem.run_bind, Sem.run_pure, Result.andThen_ok, hr]
    exact hK' _ _ h

/-- a room and its box, within six rows and columns -/
structure Bx where
  room : Nat
  row : Nat
  col : Nat
  high : Nat
  wide : Nat
  hrow : row + high ≤ 6
  hcol : col + wide ≤ 6
  hroom : room ≤ 36

def Bx.val (x : Bx) : Value := .agg #[.int .i64 x.row, .int .i64 x.col, .int .i64 x.high, .int .i64 x.wide]
def encB (x : Bx) : Array Value := #[.int .i64 x.room, .agg #[.int .i64 x.row, .int .i64 x.col, .int .i64 x.high, .int .i64 x.wide]]

/-- the box that is told for a first cell; nothing of it matters beyond the plan -/
def mkBx (h wd : Nat) (g : Nat → Nat → Nat) (room row col : Nat) : Bx :=
  if hx : row + boxHigh h g row col ≤ 6 ∧ col + boxWide wd g row col ≤ 6 ∧ room ≤ 36 then ⟨room, row, col, boxHigh h g row col, boxWide wd g row col, hx.1, hx.2.1, hx.2.2⟩
  else ⟨0, 0, 0, 0, 0, by omega, by omega, by omega⟩

theorem boxHigh_le (h : Nat) (g : Nat → Nat → Nat) (row col : Nat) (hr : row ≤ h) : row + boxHigh h g row col ≤ h := by
  have := runLen_le (h - row) (fun t => g (row + t) col == g row col)
  unfold boxHigh; omega
theorem boxWide_le (wd : Nat) (g : Nat → Nat → Nat) (row col : Nat) (hc : col ≤ wd) : col + boxWide wd g row col ≤ wd := by
  have := runLen_le (wd - col) (fun t => g row (col + t) == g row col)
  unfold boxWide; omega

theorem mkBx_eq {h wd : Nat} {g : Nat → Nat → Nat} {room row col : Nat} (hh : h ≤ 6) (hw : wd ≤ 6) (h1 : row < h) (h2 : col < wd) (hr : room ≤ 36) :
    encB (mkBx h wd g room row col) = #[.int .i64 room, .agg #[.int .i64 row, .int .i64 col, .int .i64 (boxHigh h g row col : Nat), .int .i64 (boxWide wd g row col : Nat)]] := by
  have a := boxHigh_le h g row col (by omega)
  have b := boxWide_le wd g row col (by omega)
  unfold mkBx
  rw [dif_pos ⟨by omega, by omega, hr⟩]
  rfl

/-- the boxes that have come when t cells are over -/
def scanB (h wd : Nat) (g : Nat → Nat → Nat) : Nat → List Bx
  | 0 => []
  | t + 1 => if g (t / wd) (t % wd) = (scanB h wd g t).length then scanB h wd g t ++ [mkBx h wd g (scanB h wd g t).length (t / wd) (t % wd)] else scanB h wd g t

theorem scanB_len (h wd : Nat) (g : Nat → Nat → Nat) : ∀ t, (scanB h wd g t).length ≤ t
  | 0 => Nat.le_refl _
  | t + 1 => by
    have := scanB_len h wd g t
    rw [scanB]
    split
    · rw [List.length_append]; simp; omega
    · omega

theorem scanB_prefix (h wd : Nat) (g : Nat → Nat → Nat) (t : Nat) : ∀ u, scanB h wd g t <+: scanB h wd g (t + u)
  | 0 => List.prefix_refl _
  | u + 1 => by
    refine (scanB_prefix h wd g t u).trans ?_
    rw [← Nat.add_assoc, scanB]
    split
    · exact List.prefix_append _ _
    · exact List.prefix_refl _

theorem cell_div (i j wd : Nat) (hj : j < wd) : (i * wd + j) / wd = i ∧ (i * wd + j) % wd = j := by
  constructor
  · rw [Nat.mul_comm, Nat.mul_add_div (by omega), Nat.div_eq_of_lt hj, Nat.add_zero]
  · rw [Nat.mul_comm, Nat.mul_add_mod, Nat.mod_eq_of_lt hj]

theorem scanB_yes {h wd : Nat} {g : Nat → Nat → Nat} {i j : Nat} (hj : j < wd) (hg : g i j = (scanB h wd g (i * wd + j)).length) : scanB h wd g (i * wd + j + 1) = scanB h wd g (i * wd + j) ++ [mkBx h wd g (scanB h wd g (i * wd + j)).length i j] := by
  obtain ⟨h1, h2⟩ := cell_div i j wd hj
  rw [scanB, h1, h2, if_pos hg]
theorem scanB_no {h wd : Nat} {g : Nat → Nat → Nat} {i j : Nat} (hj : j < wd) (hg : ¬ g i j = (scanB h wd g (i * wd + j)).length) : scanB h wd g (i * wd + j + 1) = scanB h wd g (i * wd + j) := by
  obtain ⟨h1, h2⟩ := cell_div i j wd hj
  rw [scanB, h1, h2, if_neg hg]

/-- what a round of a loop over boxes keeps: the iterator's own plan -/
def KeepB (b : Nat) (W W' : World) : Prop := W'.heap[b]? = W.heap[b]?

set_option maxRecDepth 100000 in
set_option maxHeartbeats 2000000 in
theorem boxes1_in (n : Nat) (hn : 3 ≤ n) (l b h wd r : Nat) (g : Nat → Nat → Nat) (hh : h ≤ 6) (hw : wd ≤ 6) (J Jx : List Bx → World → Prop)
    (hY : ∀ pre x W, J pre W → pre.length < 36 → YieldAt Fence.wide (n - 1) Try.prog l (encB x) W fun e W' =>
      (e = .returned (.bool true) ∧ J (pre ++ [x]) W' ∧ KeepB b W W') ∨ (e = .returned (.bool false) ∧ Jx (pre ++ [x]) W'))
    (W : World) (hJb : AbidesFrom W.heap.size J)
    (hp : W.heap[b]? = some (.cells (planC h wd r g) 47 (0, 0))) (h0 : J [] W) :
    CallsIn Fence.wide n Try.prog 108 #[.func (.yield l) #[] #[], .pointer (some ⟨b, 0, none⟩)] W fun e W' => (∃ v, e = .returned v) ∧
      ((∃ ys, ys = scanB h wd g (h * wd) ∧ J ys W') ∨ (∃ pre, (∃ t, t ≤ h * wd ∧ pre = scanB h wd g t) ∧ Jx pre W')) := by
  have hF : ∀ k, Fence.wide.fn k := fun _ => trivial
  have hn1 : 1 ≤ n := by omega
  have hp0 := planC_0 h wd r g
  have hp1 := planC_1 h wd r g
  have hcell : ∀ i j, i < 6 → j < 6 → (planC h wd r g)[3 + i * 6 + j]? = some (.int .i64 (g i j : Nat)) := planC_at h wd r g
  have HCELL := Lib.hid hcell; clear hcell
  have hmul : h * wd ≤ 36 := Nat.mul_le_mul hh hw
  have HBC := Lib.hid (fun (row col : Nat) (w : World) (h1 : row < h) (h2 : col < wd) => boxAt_any h wd r g row col w hh hw h1 h2)
  have HCS := Lib.hid (planC_size h wd r g)
  generalize planC h wd r g = C at *
  refine callsIn_of_wp Try.func108 rfl trivial ?_ rfl
  simp only [Try.ntmps108, List.size_toArray, List.length_cons, List.length_nil, Nat.reduceAdd, Nat.reduceSub, Array.replicate_succ, Array.replicate_zero, List.push_toArray, List.append_toArray, List.nil_append, List.cons_append]
  have hsz : (Try.prog.info? 47).map (·.size) = some C.size := by rw [HCS.out]; kernel_rfl
  have HSZ := Lib.hid hsz; clear hsz
  have hce : ∀ (wr : World), wr.heap[b]? = some (.cells C 47 (0, 0)) → ∀ k, wr.cell? ⟨b, k, none⟩ = C[k]? := fun wr hB k => cell_of_row wr b k C _ (0, 0) hB
  have HCE := Lib.hid hce
  have hcw := hce W hp
  clear hce
  gi_wp2
  gi_loopw [3, 8] (fun vn vi wr => ∃ i : Nat, i ≤ h ∧ vi = .int .i64 i ∧ vn = .int .i64 ((scanB h wd g (i * wd)).length : Nat) ∧ J (scanB h wd g (i * wd)) wr ∧ wr.heap[b]? = some (.cells C 47 (0, 0))) (fun _ i _ => h - (intOf i).toNat)
  case atStart => exact ⟨0, Nat.zero_le _, rfl, by rw [Nat.zero_mul]; rfl, by rw [Nat.zero_mul]; exact h0, hp⟩
  case round =>
    obtain ⟨i, hi, rfl, rfl, hJi, hB⟩ := hrel
    have hcr := HCE.out wr hB
    by_cases hlt : i < h
    · have hm1 : i * wd + wd ≤ h * wd := by rw [← Nat.succ_mul]; exact Nat.mul_le_mul_right _ hlt
      have e0 : i * wd + 0 = i * wd := rfl
      have HM := Lib.hid hm1
      gi_wp2
      gi_loopw [3, 13] (fun vn vj wr => ∃ j : Nat, j ≤ wd ∧ vj = .int .i64 j ∧ vn = .int .i64 ((scanB h wd g (i * wd + j)).length : Nat) ∧ J (scanB h wd g (i * wd + j)) wr ∧ wr.heap[b]? = some (.cells C 47 (0, 0))) (fun _ j _ => wd - (intOf j).toNat)
      case atStart => exact ⟨0, Nat.zero_le _, rfl, rfl, hJi, hB⟩
      case round =>
        clear hJi hB hcr
        obtain ⟨j, hj, rfl, rfl, hJ, hB⟩ := hrel
        have hcr := HCE.out wr hB
        have hrow := hB
        by_cases hjl : j < wd
        · have hat := HCELL.out i j (by omega) (by omega)
          have HY1 := Lib.hid (@scanB_yes h wd g i j hjl)
          have HN1 := Lib.hid (@scanB_no h wd g i j hjl)
          have hle := scanB_len h wd g (i * wd + j)
          have HMB := Lib.hid (mkBx_eq (g := g) (room := (scanB h wd g (i * wd + j)).length) hh hw hlt hjl (by omega))
          by_cases hgx : g i j = (scanB h wd g (i * wd + j)).length
          · have hne : ((g i j : Int) != ((scanB h wd g (i * wd + j)).length : Int)) = false := by rw [bne_eq_false_iff_eq, hgx]
            have HGX := Lib.hid hgx; clear hgx
            gi_wp2_with (first
              | (refine wpListIn_load_row rfl 47 _ rfl b rfl 47 C (0, 0) _ hrow Try.underlying47 rfl HSZ.out ?_)
              | (gi_at_call 94; refine (callsIn_wide.2 (HBC.out i j _ (by omega) (by omega))).mono ?_; rintro e w2 ⟨rfl, hb2⟩; obtain ⟨fn, tmps, assign, body, hy, hR⟩ := hY _ (mkBx h wd g (scanB h wd g (i * wd + j)).length i j) w2 (hJb _ _ _ none hJ (grownBy_of_below hb2 none) (by simp)) (by omega); rw [HMB.out] at hy))
            have hB2 : w2.heap[b]? = some (.cells C 47 (0, 0)) := (hb2.block b (Array.getElem?_eq_some_iff.1 hB).1).trans hB
            refine hR.mono ?_
            rintro e W3 (⟨rfl, hJ3, hk3⟩ | ⟨rfl, hJx3⟩)
            · rw [← HY1.out HGX.out] at hJ3
              have hB3 : W3.heap[b]? = some (.cells C 47 (0, 0)) := (show W3.heap[b]? = w2.heap[b]? from hk3).trans hB2
              have hlen : (scanB h wd g (i * wd + j + 1)).length = (scanB h wd g (i * wd + j)).length + 1 := by rw [HY1.out HGX.out, List.length_append]; rfl
              have HLEN := Lib.hid hlen; clear hlen
              clear hy hR
              gi_wp2
              go_roundw
              case rel => exact ⟨j + 1, by omega, by go_num, by rw [← Nat.add_assoc, HLEN.out]; go_num, by rw [← Nat.add_assoc]; exact hJ3, hB3⟩
              case measure => simp [intOf]; omega
            · rw [← HY1.out HGX.out] at hJx3
              have HMM := HM.out
              clear hy hR
              gi_wp2
              refine bodyPost_ret (results_none rfl _ _ _) rfl ?_
              exact ⟨⟨_, rfl⟩, .inr ⟨_, ⟨i * wd + j + 1, by omega, rfl⟩, hJx3⟩⟩
          · have hne : ((g i j : Int) != ((scanB h wd g (i * wd + j)).length : Int)) = true := by rw [bne_iff_ne]; omega
            have HGX := Lib.hid hgx; clear hgx
            gi_wp2
            go_roundw
            case rel => exact ⟨j + 1, by omega, by go_num, by rw [← Nat.add_assoc, HN1.out HGX.out], by rw [← Nat.add_assoc, HN1.out HGX.out]; exact hJ, hB⟩
            case measure => simp [intOf]; omega
        · obtain rfl : j = wd := by omega
          gi_wp2
          go_roundw
          case rel => exact ⟨i + 1, by omega, by go_num, by rw [Nat.succ_mul], by rw [Nat.succ_mul]; exact hJ, hB⟩
          case measure => simp [intOf]; omega
    · obtain rfl : i = h := by omega
      gi_wp2
      go_end0
      exact ⟨⟨_, rfl⟩, .inl ⟨_, rfl, hJi⟩⟩

set_option maxHeartbeats 1000000 in
/-- what a plan's boxes() hands back: the plan is boxed; the function value captures the box -/
theorem boxes_in (n : Nat) (C : Array Value) (w : World) :
    CallsIn Fence.wide n Try.prog 82 #[.agg C] w fun e w' => e = .returned (.func (.func 108) #[] #[.pointer (some ⟨w.heap.size, 0, none⟩)]) ∧ w' = w.alloc (.cells C 47) := by
  have hF : ∀ k, Fence.wide.fn k := fun _ => trivial
  refine callsIn_of_wp Try.func82 rfl trivial ?_ rfl
  simp only [Try.ntmps82, List.size_toArray, List.length_cons, List.length_nil, Nat.reduceAdd, Nat.reduceSub, Array.replicate_succ, Array.replicate_zero, List.push_toArray, List.append_toArray, List.nil_append, List.cons_append]
  gi_wp2
  go_ret
  exact ⟨rfl, rfl⟩

theorem boxes_stops (n : Nat) (hn : 3 ≤ n) (b h wd r : Nat) (g : Nat → Nat → Nat) (hh : h ≤ 6) (hw : wd ≤ 6) (w : World) (hp : w.heap[b]? = some (.cells (planC h wd r g) 47 (0, 0))) :
    SeqStopsK Fence.wide n Try.prog 108 #[.pointer (some ⟨b, 0, none⟩)] encB (KeepB b) (fun ys => ys = scanB h wd g (h * wd)) (fun pre => ∃ t, t ≤ h * wd ∧ pre = scanB h wd g t) 36 w := fun l J Jx W hW hJ _ hY h0 =>
  boxes1_in n hn l b h wd r g hh hw J Jx hY W hJ ((hW.block b (Array.getElem?_eq_some_iff.1 hp).1).trans hp) h0

end Go.Proofs.Ytpgcpmfemcfoaaa

/-
  The program asks whether a plan is filled by boxes. (Walk inside a fence.)
-/
namespace Go.Proofs.Ytpgcpmfemcfoaaa
open Go.RowKit Go.Shelf

attribute [local go_sem] Oper.semAt_some

theorem heldB_own {β : Type} (B : Nat) (t : TypeId) (f : β → Array Value) : Own (fun s W => HeldB W B t (f s)) := fun s X Y row hs hg hrow =>
  hs.kept hg (fun e' => by obtain ⟨o, ho, hc⟩ := hrow B e'.symm; rw [show X.heap[B]? = _ from hs] at ho; cases ho; cases hc)

theorem keeps_below {W W' : World} (hb : Below W.heap.size W W') : KeepsOthers W W' := ⟨hb.size, fun k _ hk _ => (hb.block k (Array.getElem?_eq_some_iff.1 hk).1).trans hk⟩

def Bx.alone (g : Nat → Nat → Nat) (x : Bx) : Bool := aloneB g x.room x.row x.col x.high x.wide
def sumB (l : List Bx) : Nat := (l.map fun x => x.high * x.wide).foldl (· + ·) 0
theorem sumB_snoc (l : List Bx) (x : Bx) : sumB (l ++ [x]) = sumB l + x.high * x.wide := by simp [sumB]
theorem allB_snoc (g : Nat → Nat → Nat) (l : List Bx) (x : Bx) : (l ++ [x]).all (Bx.alone g) = (l.all (Bx.alone g) && x.alone g) := by simp
/-- a plan is filled by its boxes -/
def filledB (h wd : Nat) (g : Nat → Nat → Nat) : Bool := (scanB h wd g (h * wd)).all (Bx.alone g) && (sumB (scanB h wd g (h * wd)) == h * wd)

theorem Bx.area_le (x : Bx) : x.high * x.wide ≤ 36 := Nat.mul_le_mul (show x.high ≤ 6 by have := x.hrow; omega) (show x.wide ≤ 6 by have := x.hcol; omega)
theorem sumB_le (l : List Bx) : sumB l ≤ l.length * 36 := by
  induction l using snoc_ind with
  | h0 => simp [sumB]
  | h1 l x ih => rw [sumB_snoc, List.length_append]; have := x.area_le; simp only [List.length_singleton]; omega

set_option maxRecDepth 100000 in
set_option maxHeartbeats 4000000 in
theorem isFilled_in (n : Nat) (hn : 6 ≤ n) (h wd r : Nat) (g : Nat → Nat → Nat) (hh : h ≤ 6) (hw : wd ≤ 6) (w : World) :
    CallsIn Fence.wide n Try.prog 105 #[.agg (planC h wd r g)] w fun e W' => e = .returned (.bool (filledB h wd g)) ∧ Below w.heap.size w W' := by
  have hF : ∀ k, Fence.wide.fn k := fun _ => trivial
  have hn1 : 1 ≤ n := by omega
  have hp0 := planC_0 h wd r g
  have hp1 := planC_1 h wd r g
  have HCS := Lib.hid (planC_size h wd r g)
  have HAL := Lib.hid (fun (x : Bx) (w : World) => isAlone_any h wd r g x.room x.row x.col x.high x.wide w x.hrow x.hcol)
  have HST := Lib.hid (fun (b : Nat) (w : World) (hp : w.heap[b]? = some (.cells (planC h wd r g) 47 (0, 0))) => boxes_stops (n - 1) (by omega) b h wd r g hh hw w hp)
  generalize planC h wd r g = C at *
  have hsz : (Try.prog.info? 47).map (·.size) = some C.size := by rw [HCS.out]; kernel_rfl
  have HSZ := Lib.hid hsz; clear hsz
  refine callsIn_of_wp_marks Try.func105 rfl trivial ?_ rfl
  simp only [Try.ntmps105, List.size_toArray, List.length_cons, List.length_nil, Nat.reduceAdd, Nat.reduceSub, Array.replicate_succ, Array.replicate_zero, List.push_toArray, List.append_toArray, List.nil_append, List.cons_append]
  have hW1 : ((((w.alloc (.cells C 47)).alloc (.cells #[.bool false] 4)).alloc (.cells #[.int .i64 0] 3))).heap[w.heap.size]? = some (.cells C 47 (0, 0)) := ((HeldB.new w _ _).alloc _).alloc _
  gi_wp2_with (first
    | (refine wpListIn_load_row rfl 47 _ rfl w.heap.size rfl 47 C (0, 0) _ hW1 Try.underlying47 rfl HSZ.out ?_)
    | (gi_at_call 82; refine (boxes_in _ C _).mono ?_; rintro e w' ⟨rfl, rfl⟩))
  have bP := (((HeldB.new w 47 C).alloc (.cells #[.bool false] 4)).alloc (.cells #[.int .i64 0] 3)).alloc (.cells C 47)
  have bR := ((HeldB.new (w.alloc (.cells C 47)) 4 #[.bool false]).alloc (.cells #[.int .i64 0] 3)).alloc (.cells C 47)
  have bA := (HeldB.new ((w.alloc (.cells C 47)).alloc (.cells #[.bool false] 4)) 3 #[.int .i64 0]).alloc (.cells C 47)
  have bG := HeldB.new (((w.alloc (.cells C 47)).alloc (.cells #[.bool false] 4)).alloc (.cells #[.int .i64 0] 3)) 47 C
  simp only [World.size_alloc] at bR bA bG
  have hB0 : Below w.heap.size w ((((w.alloc (.cells C 47)).alloc (.cells #[.bool false] 4)).alloc (.cells #[.int .i64 0] 3)).alloc (.cells C 47)) := ((((Below.refl _ w).alloc (Nat.le_refl _) _).alloc (by simp) _).alloc (by simp; omega) _).alloc (by simp; omega) _
  have hsz0 : ((((w.alloc (.cells C 47)).alloc (.cells #[.bool false] 4)).alloc (.cells #[.int .i64 0] 3)).alloc (.cells C 47)).heap.size = w.heap.size + 4 := by simp
  obtain ⟨W0, hW0⟩ : ∃ W0, (((w.alloc (.cells C 47)).alloc (.cells #[.bool false] 4)).alloc (.cells #[.int .i64 0] 3)).alloc (.cells C 47) = W0 := ⟨_, rfl⟩
  rw [hW0] at bP bR bA bG hB0 hsz0 ⊢
  clear hW0 hW1
  refine wpIn_rangeFunc_ownH rfl hn1 (gf := 108) (lb := #[.pointer (some ⟨w.heap.size + 1 + 1 + 1, 0, none⟩)]) rfl trivial (enters_of Try.func108 (by kernel_rfl) rfl)
    (HST.out (w.heap.size + 1 + 1 + 1) W0 bG) (fun {A B D} (h1 : B.heap[w.heap.size + 1 + 1 + 1]? = A.heap[w.heap.size + 1 + 1 + 1]?) (h2 : D.heap[w.heap.size + 1 + 1 + 1]? = B.heap[w.heap.size + 1 + 1 + 1]?) => h2.trans h1)
    (fun W l o o' hl _ _ _ => World.putObj_heap_other (by omega)) (Below.refl _ _) (fun _ => rfl)
    (fun pre W => ((HeldB W (w.heap.size + 1 + 1) 3 #[.int .i64 ((sumB pre : Nat) : Int)] ∧ HeldB W (w.heap.size + 1) 4 #[.bool false]) ∧ (HeldB W w.heap.size 47 C ∧ HeldB W (w.heap.size + 1 + 1 + 1) 47 C) ∧ pre.all (Bx.alone g) = true) ∧ Below w.heap.size w W)
    (fun c pre W => ((c = .ret ∧ pre.all (Bx.alone g) = false) ∧ HeldB W (w.heap.size + 1) 4 #[.bool false]) ∧ Below w.heap.size w W)
    (OwnFrom.and (OwnFrom.and (OwnFrom.and (Own.from (heldB_own _ _ _) _) (Own.from (heldB_own _ _ _) _)) (OwnFrom.and (OwnFrom.and (Own.from (heldB_own _ _ _) _) (Own.from (heldB_own _ _ _) _)) (ownFrom_pure _ _))) (ownFrom_below (Nat.le_refl _) (by omega)))
    (fun c => OwnFrom.and (OwnFrom.and (ownFrom_pure _ (fun pre => c = .ret ∧ List.all pre (Bx.alone g) = false)) (Own.from (heldB_own _ _ _) _)) (ownFrom_below (Nat.le_refl _) (by omega)))
    ⟨⟨⟨bA, bR⟩, ⟨bP, bG⟩, rfl⟩, hB0⟩
    (fun x a' W => ∃ B, w.heap.size + 1 + 1 + 1 < B ∧ HeldB W B 100 #[.int .i64 x.row, .int .i64 x.col, .int .i64 x.high, .int .i64 x.wide] ∧ a' = { tmps := #[.agg C, .pointer (some ⟨w.heap.size, 0, none⟩), .pointer (some ⟨w.heap.size + 1, 0, none⟩), .pointer (some ⟨w.heap.size + 1 + 1, 0, none⟩), .int .i64 x.room, .pointer (some ⟨B, 0, none⟩), .agg C, .func (.func 108) #[] #[.pointer (some ⟨w.heap.size + 1 + 1 + 1, 0, none⟩)], .int .i64 x.room, .agg #[.int .i64 x.row, .int .i64 x.col, .int .i64 x.high, .int .i64 x.wide], undef, undef, undef, undef, undef, undef, undef, undef, undef, undef, undef, undef, undef, undef, undef, undef], defers := [] })
    (fun x a' _ X Y row hs hg hr => by obtain ⟨B, h1, h2, h3⟩ := hs; exact ⟨B, h1, heldB_own B 100 (fun (_ : Unit) => #[.int .i64 x.row, .int .i64 x.col, .int .i64 x.high, .int .i64 x.wide]) () X Y row h2 hg (fun r e => (hr r e).2), h3⟩)
    ?assign ?body ?done ?stop
  case assign =>
    rintro l pre x W K ⟨⟨⟨bA1, bR1⟩, ⟨bP1, bG1⟩, hall⟩, hB1⟩ hK
    simp only [encB]
    gi_wp2
    exact hK _ _ ((KeepsOthers.alloc _ _).from _) (Below.heap_alloc W _ _ bG1.lt) ⟨⟨⟨bA1.alloc _, bR1.alloc _⟩, ⟨bP1.alloc _, bG1.alloc _⟩, hall⟩, hB1.alloc hB1.size _⟩ ⟨W.heap.size, bG1.lt, HeldB.new W _ _, rfl⟩
  case body =>
    rintro l pre x a' W hl ⟨rl, hr⟩ ⟨⟨⟨bA1, bR1⟩, ⟨bP1, bG1⟩, hall⟩, hB1⟩ ⟨B, hBB, bX, rfl⟩ hlt
    have h1' : 1 ≤ n - 1 - 1 := by omega
    have cX0 : W.cell? ⟨B, 0, none⟩ = some (.int .i64 x.row) := bX.cell 0
    have cX1 : W.cell? ⟨B, 1, none⟩ = some (.int .i64 x.col) := bX.cell 1
    have cX2 : W.cell? ⟨B, 2, none⟩ = some (.int .i64 x.high) := bX.cell 2
    have cX3 : W.cell? ⟨B, 3, none⟩ = some (.int .i64 x.wide) := bX.cell 3
    have hHELD : W.heap[w.heap.size]? = some (.cells C 47 (0, 0)) := bP1
    cases hal : x.alone g
    · unfold Bx.alone at hal
      gi_wp2_with (first
        | (refine wpListIn_load_row rfl 47 _ rfl w.heap.size rfl 47 C (0, 0) _ hHELD Try.underlying47 rfl HSZ.out ?_)
        | (refine ⟨trivial, ?_⟩; gi_at_call 129; refine (CallsIn.inRound l (callsIn_wide.2 (HAL.out x _))).mono ?_; rintro e w2 ⟨rfl, hb2⟩; have fR := (bR1.below hb2).frozen 0; have cR := (bR1.below hb2).cell 0)
        | (gi_at_call 129; refine (CallsIn.inRound l (callsIn_wide.2 (HAL.out x _))).mono ?_; rintro e w2 ⟨rfl, hb2⟩; have fR := (bR1.below hb2).frozen 0; have cR := (bR1.below hb2).cell 0))
      exact ⟨((keeps_below hb2).trans (KeepsOthers.setCell _ _ _)).from _, ⟨⟨rfl, by rw [allB_snoc]; unfold Bx.alone; rw [hal, Bool.and_false]⟩, (bR1.below hb2).set1 _⟩, (below_step hB1 hB1.size hb2).setCell (by simp) _⟩
    · have hsum := sumB_snoc pre x
      have hle := sumB_le pre
      have harea := x.area_le
      have hwr : IntKind.i64.wrap (((sumB pre : Nat) : Int) + (x.high : Int) * (x.wide : Int)) = ((sumB (pre ++ [x]) : Nat) : Int) := by
        rw [← Int.natCast_mul, IntWalk.i64_in _ (by omega), hsum, Int.natCast_add]
      have HWR := Lib.hid hwr; clear hwr hsum
      have hall2 : (pre ++ [x]).all (Bx.alone g) = true := by rw [allB_snoc, hall, hal]; rfl
      have HALL2 := Lib.hid hall2; clear hall2
      unfold Bx.alone at hal
      have hmx : Try.prog.follows .mixedOrders = true := by kernel_rfl
      have haw : ∀ W2 : World, HeldB W2 (w.heap.size + 1 + 1) 3 #[.int .i64 ((sumB pre : Nat) : Int)] → HeldB W2 B 100 #[.int .i64 x.row, .int .i64 x.col, .int .i64 x.high, .int .i64 x.wide] →
          (W2.cell? ⟨w.heap.size + 1 + 1, 0, none⟩ = some (.int .i64 ((sumB pre : Nat) : Int)) ∧ W2.frozen? ⟨w.heap.size + 1 + 1, 0, none⟩ = false) ∧
          (W2.cell? ⟨B, 0, none⟩ = some (.int .i64 x.row) ∧ W2.cell? ⟨B, 1, none⟩ = some (.int .i64 x.col) ∧ W2.cell? ⟨B, 2, none⟩ = some (.int .i64 x.high) ∧ W2.cell? ⟨B, 3, none⟩ = some (.int .i64 x.wide)) := fun W2 a b => ⟨⟨a.cell 0, a.frozen 0⟩, b.cell 0, b.cell 1, b.cell 2, b.cell 3⟩
      have HAW := Lib.hid haw; clear haw
      gi_wp2_with (first
        | (refine wpListIn_load_row rfl 47 _ rfl w.heap.size rfl 47 C (0, 0) _ hHELD Try.underlying47 rfl HSZ.out ?_)
        | (refine ⟨trivial, ?_⟩; gi_at_call 129; refine (CallsIn.inRound l (callsIn_wide.2 (HAL.out x _))).mono ?_; rintro e w2 ⟨rfl, hb2⟩)
        | (gi_at_call 129; refine (CallsIn.inRound l (callsIn_wide.2 (HAL.out x _))).mono ?_; rintro e w2 ⟨rfl, hb2⟩))
      have bA2 := bA1.below hb2
      have bX2 := bX.below hb2
      obtain ⟨⟨ca, fa⟩, c0, c1, c2, c3⟩ := HAW.out w2 bA2 bX2
      clear cX0 cX1 cX2 cX3
      gi_region_with_o (gi_at_call 130; refine (CallsIn.inRound l (callsIn_wide.2 (area_any _ _ _ _ _ (by have := x.hrow; omega) (by have := x.hcol; omega)))).mono ?_; rintro e w3 ⟨rfl, hb3⟩; obtain ⟨⟨ca3, fa3⟩, d0, d1, d2, d3⟩ := HAW.out w3 (HeldB.below (by exact bA2) hb3) (HeldB.below (by exact bX2) hb3))
      all_goals gi_wp2
      all_goals
        have hb4 : Below w2.heap.size w2 w3 := ⟨hb3.os, hb3.tape, hb3.output, hb3.size, hb3.block⟩
        have hB3 := below_step hB1 hB1.size (below_step hb2 hb2.size hb4)
        have bG4 := ((bG1.below hb2).below hb4).other (a := ⟨w.heap.size + 1 + 1, 0, none⟩) (by simp) (.int .i64 (IntKind.i64.wrap (((sumB pre : Nat) : Int) + (x.high : Int) * (x.wide : Int))))
        refine ⟨((keeps_below (below_step hb2 hb2.size hb4)).trans (KeepsOthers.setCell _ _ _)).from _, bG4.trans (Eq.symm bG1), ⟨⟨?_, ?_⟩, ⟨?_, bG4⟩, HALL2.out⟩, hB3.setCell (by simp; omega) _⟩
        · rw [← HWR.out]; exact (bA2.below hb4).set1 _
        · exact ((bR1.below hb2).below hb4).other (by simp) _
        · exact ((bP1.below hb2).below hb4).other (by simp; omega) _
  case done =>
    rintro D ys W hD rfl ⟨⟨⟨bA1, bR1⟩, ⟨bP1, bG1⟩, hall⟩, hB1⟩ hK
    have cA := bA1.cell 0
    have cR := bR1.cell 0
    have fR := bR1.frozen 0
    have ch : W.cell? ⟨w.heap.size, 0, none⟩ = some (.int .i64 h) := (bP1.cell 0).trans hp0
    have cw : W.cell? ⟨w.heap.size, 1, none⟩ = some (.int .i64 wd) := (bP1.cell 1).trans hp1
    have hle := sumB_le (scanB h wd g (h * wd))
    have hmul : h * wd ≤ 36 := Nat.mul_le_mul hh hw
    have hwr : wrap64 ((h : Int) * (wd : Int)) = ((h * wd : Nat) : Int) := by
      rw [← Int.natCast_mul, IntWalk.wrap64_in _ ⟨by omega, by omega⟩]
    have hfin : (((sumB (scanB h wd g (h * wd)) : Nat) : Int) == wrap64 ((h : Int) * (wd : Int))) = filledB h wd g := by
      unfold filledB
      rw [hwr, hall, Bool.true_and, Bool.eq_iff_iff, beq_iff_eq, beq_iff_eq]
      omega
    have HFIN := Lib.hid hfin
    clear hfin hwr hall hle hmul
    generalize sumB (scanB h wd g (h * wd)) = S at *
    gi_wp2
    have hK' := (KeepsOthers.setCell W ⟨w.heap.size + 1, 0, none⟩ (.bool (((S : Nat) : Int) == wrap64 ((h : Int) * (wd : Int))))).same D _ hK rfl
    have hc5 := cell_kept (World.cell?_setCell_same' W ⟨w.heap.size + 1, 0, none⟩ (.bool (((S : Nat) : Int) == wrap64 ((h : Int) * (wd : Int)))) (by rw [cR]; rfl)) (grownBy_putObj' _ D (.deferred none)) (fun r e => by cases e; exact ⟨_, hK', rfl⟩)
    refine ⟨by simp, .inl ⟨_, _, rfl, run_takeDeferred hK', ?_⟩⟩
    refine ⟨.bool (((S : Nat) : Int) == wrap64 ((h : Int) * (wd : Int))), ?_, ret_bool HFIN.out, (hB1.setCell (p := ⟨w.heap.size + 1, 0, none⟩) (by simp) _).trans (belowK_b (w := w) (Nat.le_refl _) _ D _ _ (by omega) hK' rfl rfl)⟩
    simp [results, Try.f105, go_sem, hc5]
  case stop =>
    rintro D c pre W hD ⟨t, ht, rfl⟩ ⟨⟨⟨rfl, hall⟩, bR1⟩, hB1⟩ hK
    have hfin : filledB h wd g = false := by
      obtain ⟨u, hu⟩ : ∃ u, h * wd = t + u := ⟨h * wd - t, by omega⟩
      obtain ⟨rest, hrest⟩ := scanB_prefix h wd g t u
      unfold filledB
      rw [hu, ← hrest, List.all_append, hall]
      rfl
    have HFIN := Lib.hid hfin
    clear hfin
    gi_wp2
    refine ⟨by simp, .inl ⟨_, _, rfl, run_takeDeferred hK, ?_⟩⟩
    have hc5 := cell_kept (bR1.cell 0) (grownBy_putObj' _ D (.deferred none)) (fun r e => by cases e; exact ⟨_, hK, rfl⟩)
    refine ⟨.bool false, ?_, ret_bool HFIN.out.symm, hB1.trans (belowK_b (w := w) (Nat.le_refl _) W D _ _ (by omega) hK rfl rfl)⟩
    simp [results, Try.f105, go_sem, hc5]

theorem isFilled_any (h wd r : Nat) (g : Nat → Nat → Nat) (hh : h ≤ 6) (hw : wd ≤ 6) (w : World) :
    Calls Try.prog 105 #[.agg (planC h wd r g)] w fun e W' => e = .returned (.bool (filledB h wd g)) ∧ Below w.heap.size w W' :=
  callsIn_wide.1 (isFilled_in 6 (Nat.le_refl _) h wd r g hh hw w)

end Go.Proofs.Ytpgcpmfemcfoaaa
