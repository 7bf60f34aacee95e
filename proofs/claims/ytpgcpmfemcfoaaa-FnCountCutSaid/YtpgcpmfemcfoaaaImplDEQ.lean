/-
  Merged texts: ImplD ImplE.
-/
import Derived.Test.YtpgcpmfemcfoaaaImplABQ
import Derived.Test.YtpgcpmfemcfoaaaRowQ
import Derived.RangeFuncNested
import Derived.RangeFuncBound
import Derived.RangeFuncCalls
import Derived.RangeFuncLeaves
import Derived.Shelf.Abstract
import Derived.Shelf.RegionOpen
import Derived.WalkKit
import Derived.OwnWalkIn
import Derived.TacticsInMore
import Derived.LoopNIn
import Derived.LoopIn

/-
  The program's iterator over boxes. (Walk inside a fence.)
-/
namespace Go.Proofs.Ytpgcpmfemcfoaaa
open Go.RowKit Go.Shelf

attribute [local go_sem] Oper.semAt_some

theorem wpListIn_load_row {F : Fence} {n : Nat} {P : Program} {ops : Array Oper} {rest : List Oper} {o : Oper} {a : Act} {w : World} {Q : Exit → Act → World → Prop} (hgd : o.guard = none) (ty : TypeId) (x : Operand) (ho : o.op = .load ty x)
    (g : Nat) (hx : a.eval x = .pointer (some ⟨g, 0, none⟩)) (t : TypeId) (cs : Array Value) (fr : Nat × Nat) (d : TypeDesc) (hg : w.heap[g]? = some (.cells cs t fr))
    (hu : P.underlying ty = some d) (hd : (match d with | .struct _ | .array _ _ => true | _ => false) = true) (hi : (P.info? ty).map (·.size) = some cs.size)
    (h : wpListIn F n P ops Q rest (a.put o.dst (.agg cs)) w) : wpListIn F n P ops Q (o :: rest) a w := by
  refine wpListIn_plain hgd fun K hK' => ?_
  unfold Oper.wpIn
  refine ⟨?_, ?_⟩
  · simp [Oper.about, ho]
  · rw [Oper.semAt_plain F _ _ (by rw [ho]; intro c hc'; cases hc')]
    have hr := run_loadVar_row (P := P) w g t ty cs fr d hg hu hd hi
    unfold execOp
    simp only [ho, hx, Instr.loadAt, Instr.sureAddr, Sem.run_bind, Sem.run_pure, Result.andThen_ok, hr]
    exact hK' _ _ h

/-- a room and its box, within six rows and columns -/
structure Bx where
  room : Nat
  row : Nat
  col : Nat
  high : Nat
  wide : Nat
  hrow : row + high ≤ 6
  hcol : col + wide ≤ 6
  hroom : room ≤ 36

def Bx.val (x : Bx) : Value := .agg #[.int .i64 x.row, .int .i64 x.col, .int .i64 x.high, .int .i64 x.wide]
def encB (x : Bx) : Array Value := #[.int .i64 x.room, .agg #[.int .i64 x.row, .int .i64 x.col, .int .i64 x.high, .int .i64 x.wide]]

/-- the box that is told for a first cell; nothing of it matters beyond the plan -/
def mkBx (h wd : Nat) (g : Nat → Nat → Nat) (room row col : Nat) : Bx :=
  if hx : row + boxHigh h g row col ≤ 6 ∧ col + boxWide wd g row col ≤ 6 ∧ room ≤ 36 then ⟨room, row, col, boxHigh h g row col, boxWide wd g row col, hx.1, hx.2.1, hx.2.2⟩
  else ⟨0, 0, 0, 0, 0, by omega, by omega, by omega⟩

theorem boxHigh_le (h : Nat) (g : Nat → Nat → Nat) (row col : Nat) (hr : row ≤ h) : row + boxHigh h g row col ≤ h := by
  have := runLen_le (h - row) (fun t => g (row + t) col == g row col)
  unfold boxHigh; omega
theorem boxWide_le (wd : Nat) (g : Nat → Nat → Nat) (row col : Nat) (hc : col ≤ wd) : col + boxWide wd g row col ≤ wd := by
  have := runLen_le (wd - col) (fun t => g row (col + t) == g row col)
  unfold boxWide; omega

theorem mkBx_eq {h wd : Nat} {g : Nat → Nat → Nat} {room row col : Nat} (hh : h ≤ 6) (hw : wd ≤ 6) (h1 : row < h) (h2 : col < wd) (hr : room ≤ 36) :
    encB (mkBx h wd g room row col) = #[.int .i64 room, .agg #[.int .i64 row, .int .i64 col, .int .i64 (boxHigh h g row col : Nat), .int .i64 (boxWide wd g row col : Nat)]] := by
  have a := boxHigh_le h g row col (by omega)
  have b := boxWide_le wd g row col (by omega)
  unfold mkBx
  rw [dif_pos ⟨by omega, by omega, hr⟩]
  rfl

/-- the boxes that have come when t cells are over -/
def scanB (h wd : Nat) (g : Nat → Nat → Nat) : Nat → List Bx
  | 0 => []
  | t + 1 => if g (t / wd) (t % wd) = (scanB h wd g t).length then scanB h wd g t ++ [mkBx h wd g (scanB h wd g t).length (t / wd) (t % wd)] else scanB h wd g t

theorem scanB_len (h wd : Nat) (g : Nat → Nat → Nat) : ∀ t, (scanB h wd g t).length ≤ t
  | 0 => Nat.le_refl _
  | t + 1 => by
    have := scanB_len h wd g t
    rw [scanB]
    split
    · rw [List.length_append]; simp; omega
    · omega

theorem cell_div (i j wd : Nat) (hj : j < wd) : (i * wd + j) / wd = i ∧ (i * wd + j) % wd = j := by
  constructor
  · rw [Nat.mul_comm, Nat.mul_add_div (by omega), Nat.div_eq_of_lt hj, Nat.add_zero]
  · rw [Nat.mul_comm, Nat.mul_add_mod, Nat.mod_eq_of_lt hj]

theorem scanB_yes {h wd : Nat} {g : Nat → Nat → Nat} {i j : Nat} (hj : j < wd) (hg : g i j = (scanB h wd g (i * wd + j)).length) : scanB h wd g (i * wd + j + 1) = scanB h wd g (i * wd + j) ++ [mkBx h wd g (scanB h wd g (i * wd + j)).length i j] := by
  obtain ⟨h1, h2⟩ := cell_div i j wd hj
  rw [scanB, h1, h2, if_pos hg]
theorem scanB_no {h wd : Nat} {g : Nat → Nat → Nat} {i j : Nat} (hj : j < wd) (hg : ¬ g i j = (scanB h wd g (i * wd + j)).length) : scanB h wd g (i * wd + j + 1) = scanB h wd g (i * wd + j) := by
  obtain ⟨h1, h2⟩ := cell_div i j wd hj
  rw [scanB, h1, h2, if_neg hg]

/-- what a round of a loop over boxes keeps: the iterator's own plan -/
def KeepB (b : Nat) (W W' : World) : Prop := W'.heap[b]? = W.heap[b]?

set_option maxRecDepth 100000 in
set_option maxHeartbeats 2000000 in
theorem boxes1_in (n : Nat) (hn : 3 ≤ n) (l b h wd r : Nat) (g : Nat → Nat → Nat) (hh : h ≤ 6) (hw : wd ≤ 6) (J Jx : List Bx → World → Prop)
    (hY : ∀ pre x W, J pre W → pre.length < 36 → YieldAt Fence.wide (n - 1) Try.prog l (encB x) W fun e W' =>
      (e = .returned (.bool true) ∧ J (pre ++ [x]) W' ∧ KeepB b W W') ∨ (e = .returned (.bool false) ∧ Jx (pre ++ [x]) W'))
    (W : World) (hJb : AbidesFrom W.heap.size J)
    (hp : W.heap[b]? = some (.cells (planC h wd r g) 47 (0, 0))) (h0 : J [] W) :
    CallsIn Fence.wide n Try.prog 108 #[.func (.yield l) #[] #[], .pointer (some ⟨b, 0, none⟩)] W fun e W' => (∃ v, e = .returned v) ∧
      ((∃ ys, ys = scanB h wd g (h * wd) ∧ J ys W') ∨ (∃ pre, (∃ t, t ≤ h * wd ∧ pre = scanB h wd g t) ∧ Jx pre W')) := by
  have hF : ∀ k, Fence.wide.fn k := fun _ => trivial
  have hn1 : 1 ≤ n := by omega
  have hp0 := planC_0 h wd r g
  have hp1 := planC_1 h wd r g
  have hcell : ∀ i j, i < 6 → j < 6 → (planC h wd r g)[3 + i * 6 + j]? = some (.int .i64 (g i j : Nat)) := planC_at h wd r g
  have HCELL := Lib.hid hcell; clear hcell
  have hmul : h * wd ≤ 36 := Nat.mul_le_mul hh hw
  have HBC := Lib.hid (fun (row col : Nat) (w : World) (h1 : row < h) (h2 : col < wd) => boxAt_any h wd r g row col w hh hw h1 h2)
  have HCS := Lib.hid (planC_size h wd r g)
  generalize planC h wd r g = C at *
  refine callsIn_of_wp Try.func108 rfl trivial ?_ rfl
  simp only [Try.ntmps108, List.size_toArray, List.length_cons, List.length_nil, Nat.reduceAdd, Nat.reduceSub, Array.replicate_succ, Array.replicate_zero, List.push_toArray, List.append_toArray, List.nil_append, List.cons_append]
  have hsz : (Try.prog.info? 47).map (·.size) = some C.size := by rw [HCS.out]; kernel_rfl
  have HSZ := Lib.hid hsz; clear hsz
  have hce : ∀ (wr : World), wr.heap[b]? = some (.cells C 47 (0, 0)) → ∀ k, wr.cell? ⟨b, k, none⟩ = C[k]? := fun wr hB k => cell_of_row wr b k C _ (0, 0) hB
  have HCE := Lib.hid hce
  have hcw := hce W hp
  clear hce
  gi_wp2
  gi_loopw [3, 8] (fun vn vi wr => ∃ i : Nat, i ≤ h ∧ vi = .int .i64 i ∧ vn = .int .i64 ((scanB h wd g (i * wd)).length : Nat) ∧ J (scanB h wd g (i * wd)) wr ∧ wr.heap[b]? = some (.cells C 47 (0, 0))) (fun _ i _ => h - (intOf i).toNat)
  case atStart => exact ⟨0, Nat.zero_le _, rfl, by rw [Nat.zero_mul]; rfl, by rw [Nat.zero_mul]; exact h0, hp⟩
  case round =>
    obtain ⟨i, hi, rfl, rfl, hJi, hB⟩ := hrel
    have hcr := HCE.out wr hB
    by_cases hlt : i < h
    · have hm1 : i * wd + wd ≤ h * wd := by rw [← Nat.succ_mul]; exact Nat.mul_le_mul_right _ hlt
      have e0 : i * wd + 0 = i * wd := rfl
      have HM := Lib.hid hm1
      gi_wp2
      gi_loopw [3, 13] (fun vn vj wr => ∃ j : Nat, j ≤ wd ∧ vj = .int .i64 j ∧ vn = .int .i64 ((scanB h wd g (i * wd + j)).length : Nat) ∧ J (scanB h wd g (i * wd + j)) wr ∧ wr.heap[b]? = some (.cells C 47 (0, 0))) (fun _ j _ => wd - (intOf j).toNat)
      case atStart => exact ⟨0, Nat.zero_le _, rfl, rfl, hJi, hB⟩
      case round =>
        clear hJi hB hcr
        obtain ⟨j, hj, rfl, rfl, hJ, hB⟩ := hrel
        have hcr := HCE.out wr hB
        have hrow := hB
        by_cases hjl : j < wd
        · have hat := HCELL.out i j (by omega) (by omega)
          have HY1 := Lib.hid (@scanB_yes h wd g i j hjl)
          have HN1 := Lib.hid (@scanB_no h wd g i j hjl)
          have hle := scanB_len h wd g (i * wd + j)
          have HMB := Lib.hid (mkBx_eq (g := g) (room := (scanB h wd g (i * wd + j)).length) hh hw hlt hjl (by omega))
          by_cases hgx : g i j = (scanB h wd g (i * wd + j)).length
          · have hne : ((g i j : Int) != ((scanB h wd g (i * wd + j)).length : Int)) = false := by rw [bne_eq_false_iff_eq, hgx]
            have HGX := Lib.hid hgx; clear hgx
            gi_wp2_with (first
              | (refine wpListIn_load_row rfl 47 _ rfl b rfl 47 C (0, 0) _ hrow Try.underlying47 rfl HSZ.out ?_)
              | (gi_at_call 94; refine (callsIn_wide.2 (HBC.out i j _ (by omega) (by omega))).mono ?_; rintro e w2 ⟨rfl, hb2⟩; obtain ⟨fn, tmps, assign, body, hy, hR⟩ := hY _ (mkBx h wd g (scanB h wd g (i * wd + j)).length i j) w2 (hJb _ _ _ none hJ (grownBy_of_below hb2 none) (by simp)) (by omega); rw [HMB.out] at hy))
            have hB2 : w2.heap[b]? = some (.cells C 47 (0, 0)) := (hb2.block b (Array.getElem?_eq_some_iff.1 hB).1).trans hB
            refine hR.mono ?_
            rintro e W3 (⟨rfl, hJ3, hk3⟩ | ⟨rfl, hJx3⟩)
            · rw [← HY1.out HGX.out] at hJ3
              have hB3 : W3.heap[b]? = some (.cells C 47 (0, 0)) := (show W3.heap[b]? = w2.heap[b]? from hk3).trans hB2
              have hlen : (scanB h wd g (i * wd + j + 1)).length = (scanB h wd g (i * wd + j)).length + 1 := by rw [HY1.out HGX.out, List.length_append]; rfl
              have HLEN := Lib.hid hlen; clear hlen
              clear hy hR
              gi_wp2
              go_roundw
              case rel => exact ⟨j + 1, by omega, by go_num, by rw [← Nat.add_assoc, HLEN.out]; go_num, by rw [← Nat.add_assoc]; exact hJ3, hB3⟩
              case measure => simp [intOf]; omega
            · rw [← HY1.out HGX.out] at hJx3
              have HMM := HM.out
              clear hy hR
              gi_wp2
              refine bodyPost_ret (results_none rfl _ _ _) rfl ?_
              exact ⟨⟨_, rfl⟩, .inr ⟨_, ⟨i * wd + j + 1, by omega, rfl⟩, hJx3⟩⟩
          · have hne : ((g i j : Int) != ((scanB h wd g (i * wd + j)).length : Int)) = true := by rw [bne_iff_ne]; omega
            have HGX := Lib.hid hgx; clear hgx
            gi_wp2
            go_roundw
            case rel => exact ⟨j + 1, by omega, by go_num, by rw [← Nat.add_assoc, HN1.out HGX.out], by rw [← Nat.add_assoc, HN1.out HGX.out]; exact hJ, hB⟩
            case measure => simp [intOf]; omega
        · obtain rfl : j = wd := by omega
          gi_wp2
          go_roundw
          case rel => exact ⟨i + 1, by omega, by go_num, by rw [Nat.succ_mul], by rw [Nat.succ_mul]; exact hJ, hB⟩
          case measure => simp [intOf]; omega
    · obtain rfl : i = h := by omega
      gi_wp2
      go_end0
      exact ⟨⟨_, rfl⟩, .inl ⟨_, rfl, hJi⟩⟩

set_option maxHeartbeats 1000000 in
/-- what a plan's boxes() hands back: the plan is boxed; the function value captures the box -/
theorem boxes_in (n : Nat) (C : Array Value) (w : World) :
    CallsIn Fence.wide n Try.prog 82 #[.agg C] w fun e w' => e = .returned (.func (.func 108) #[] #[.pointer (some ⟨w.heap.size, 0, none⟩)]) ∧ w' = w.alloc (.cells C 47) := by
  have hF : ∀ k, Fence.wide.fn k := fun _ => trivial
  refine callsIn_of_wp Try.func82 rfl trivial ?_ rfl
  simp only [Try.ntmps82, List.size_toArray, List.length_cons, List.length_nil, Nat.reduceAdd, Nat.reduceSub, Array.replicate_succ, Array.replicate_zero, List.push_toArray, List.append_toArray, List.nil_append, List.cons_append]
  gi_wp2
  go_ret
  exact ⟨rfl, rfl⟩

theorem boxes_stops (n : Nat) (hn : 3 ≤ n) (b h wd r : Nat) (g : Nat → Nat → Nat) (hh : h ≤ 6) (hw : wd ≤ 6) (w : World) (hp : w.heap[b]? = some (.cells (planC h wd r g) 47 (0, 0))) :
    SeqStopsK Fence.wide n Try.prog 108 #[.pointer (some ⟨b, 0, none⟩)] encB (KeepB b) (fun ys => ys = scanB h wd g (h * wd)) (fun pre => ∃ t, t ≤ h * wd ∧ pre = scanB h wd g t) 36 w := fun l J Jx W hW hJ _ hY h0 =>
  boxes1_in n hn l b h wd r g hh hw J Jx hY W hJ ((hW.block b (Array.getElem?_eq_some_iff.1 hp).1).trans hp) h0

end Go.Proofs.Ytpgcpmfemcfoaaa

/-
  The program asks whether a plan is filled by boxes. (Walk inside a fence.)
-/
namespace Go.Proofs.Ytpgcpmfemcfoaaa
open Go.RowKit Go.Shelf

attribute [local go_sem] Oper.semAt_some

theorem heldB_own {β : Type} (B : Nat) (t : TypeId) (f : β → Array Value) : Own (fun s W => HeldB W B t (f s)) := fun s X Y row hs hg hrow =>
  hs.kept hg (fun e' => by obtain ⟨o, ho, hc⟩ := hrow B e'.symm; rw [show X.heap[B]? = _ from hs] at ho; cases ho; cases hc)

def Bx.alone (g : Nat → Nat → Nat) (x : Bx) : Bool := aloneB g x.room x.row x.col x.high x.wide
def sumB (l : List Bx) : Nat := (l.map fun x => x.high * x.wide).foldl (· + ·) 0
theorem sumB_snoc (l : List Bx) (x : Bx) : sumB (l ++ [x]) = sumB l + x.high * x.wide := by simp [sumB]
/-- a plan is filled by its boxes -/
def filledB (h wd : Nat) (g : Nat → Nat → Nat) : Bool := (scanB h wd g (h * wd)).all (Bx.alone g) && (sumB (scanB h wd g (h * wd)) == h * wd)

end Go.Proofs.Ytpgcpmfemcfoaaa
