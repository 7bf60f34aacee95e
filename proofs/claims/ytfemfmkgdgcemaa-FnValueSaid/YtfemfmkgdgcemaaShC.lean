
/-
  Tables of sheets, and the program's iterator over cuts. (Walks.)
-/
import Derived.Test.YtfemfmkgdgcemaaShA
import Derived.RangeFuncNested
import Derived.RangeFuncBound
import Derived.RangeFuncCalls
import Derived.RangeFuncLeaves
import Derived.Shelf.Abstract
import Derived.Shelf.RegionOpen
import Derived.WalkKit
import Derived.OwnWalkIn
import Derived.TacticsInMore
import Derived.LoopNIn
import Derived.LoopIn
namespace Go.Proofs.Ytfemfmkgdgcemaa
open Go.RowKit Go.Shelf

attribute [local go_sem] Oper.semAt_some

/-- the cells of a table: thirteen rows of thirteen -/
def tbC (T : Nat → Nat → Int) : Array Value := ((List.range 169).map fun i => Value.int .i64 (T (i % 13) (i / 13))).toArray
theorem tbC_size (T : Nat → Nat → Int) : (tbC T).size = 169 := by simp [tbC]
theorem tbC_at (T : Nat → Nat → Int) (w h : Nat) (hw : w < 13) (hh : h < 13) : (tbC T)[h * 13 + w]? = some (.int .i64 (T w h)) := by
  have h1 : (h * 13 + w) / 13 = h := by omega
  have h2 : (h * 13 + w) % 13 = w := by omega
  have h3 : h * 13 + w < 169 := by omega
  unfold tbC
  rw [List.getElem?_toArray, List.getElem?_map, List.getElem?_range h3]
  simp [h1, h2]
def updT (T : Nat → Nat → Int) (w h : Nat) (x : Int) : Nat → Nat → Int := fun a b => if a = w ∧ b = h then x else T a b
theorem tbC_set (T : Nat → Nat → Int) (w h : Nat) (hw : w < 13) (_hh : h < 13) (x : Int) : (tbC T).setIfInBounds (h * 13 + w) (.int .i64 x) = tbC (updT T w h x) := by
  apply Array.ext_getElem?
  intro i
  rw [Array.getElem?_setIfInBounds]
  by_cases hi : i < 169
  · have e1 : (tbC T)[i]? = some (.int .i64 (T (i % 13) (i / 13))) := by
      have := tbC_at T (i % 13) (i / 13) (by omega) (by omega)
      rwa [show i / 13 * 13 + i % 13 = i by omega] at this
    have e2 : (tbC (updT T w h x))[i]? = some (.int .i64 (updT T w h x (i % 13) (i / 13))) := by
      have := tbC_at (updT T w h x) (i % 13) (i / 13) (by omega) (by omega)
      rwa [show i / 13 * 13 + i % 13 = i by omega] at this
    rw [e1, e2, tbC_size]
    by_cases hc : h * 13 + w = i
    · subst hc
      rw [if_pos rfl, if_pos hi]
      have h1 : (h * 13 + w) / 13 = h := by omega
      have h2 : (h * 13 + w) % 13 = w := by omega
      rw [h1, h2]
      unfold updT
      rw [if_pos ⟨rfl, rfl⟩]
    · rw [if_neg hc]
      unfold updT
      rw [if_neg (by omega)]
  · rw [if_neg (by omega)]
    rw [Array.getElem?_eq_none (by rw [tbC_size]; omega), Array.getElem?_eq_none (by rw [tbC_size]; omega)]

/-- both parts of a cut -/
structure Pr where
  a : Nat
  b : Nat
  c : Nat
  d : Nat
  ha : a ≤ 12
  hb : b ≤ 12
  hc : c ≤ 12
  hd : d ≤ 12
def encP (x : Pr) : Array Value := #[.agg #[.int .i64 (x.a : Int), .int .i64 (x.b : Int)], .agg #[.int .i64 (x.c : Int), .int .i64 (x.d : Int)]]
def Pr.pair (x : Pr) : (Nat × Nat) × (Nat × Nat) := ((x.a, x.b), (x.c, x.d))
/-- the cuts ahead of a place from left to right, and behind these those from top to bottom -/
def wideL (w h n : Nat) : List ((Nat × Nat) × (Nat × Nat)) := (List.range n).map fun c => ((c + 1, h), (w - (c + 1), h))
def highL (w h n : Nat) : List ((Nat × Nat) × (Nat × Nat)) := (List.range n).map fun c => ((w, c + 1), (w, h - (c + 1)))
theorem wideL_succ (w h n : Nat) : wideL w h (n + 1) = wideL w h n ++ [((n + 1, h), (w - (n + 1), h))] := by unfold wideL; rw [List.range_succ, List.map_append]; rfl
theorem highL_succ (w h n : Nat) : highL w h (n + 1) = highL w h n ++ [((w, n + 1), (w, h - (n + 1)))] := by unfold highL; rw [List.range_succ, List.map_append]; rfl
theorem cutsL_eq (w h : Nat) : cutsL w h = wideL w h (w - 1) ++ highL w h (h - 1) := rfl
/-- so many cuts have been told, and no more than there may be -/
structure Told (L : List ((Nat × Nat) × (Nat × Nat))) (n : Nat) (pre : List Pr) : Prop where
  eq : pre.map Pr.pair = L
  len : pre.length = n
theorem told_nil : Told [] 0 [] := ⟨rfl, rfl⟩
theorem Told.add {L : List ((Nat × Nat) × (Nat × Nat))} {n : Nat} {pre : List Pr} (h : Told L n pre) (x : Pr) {y : (Nat × Nat) × (Nat × Nat)} (hy : x.pair = y) : Told (L ++ [y]) (n + 1) (pre ++ [x]) :=
  ⟨by rw [List.map_append, h.eq, ← hy]; rfl, by rw [List.length_append, h.len]; rfl⟩
/-- what a round keeps: the sheet that is cut -/
def KeepS (b : Nat) (W W' : World) : Prop := W'.heap[b]? = W.heap[b]?

set_option maxRecDepth 100000 in
set_option maxHeartbeats 1000000 in
theorem shCuts_any (w h : Int) (W : World) :
    Calls Try.prog 58 #[.agg #[.int .i64 w, .int .i64 h]] W fun e W' =>
      ∃ B, e = .returned (.func (.func 59) #[] #[.pointer (some ⟨B, 0, none⟩)]) ∧ W.heap.size ≤ B ∧ HeldB W' B 36 #[.int .i64 w, .int .i64 h] ∧ Below W.heap.size W W' := by
  go_enter Try.func58, Try.ntmps58
  go_wp2
  go_ret
  exact ⟨W.heap.size, rfl, Nat.le_refl _, HeldB.new W _ _, (Below.refl _ W).alloc (Nat.le_refl _) _⟩

set_option maxRecDepth 100000 in
set_option maxHeartbeats 4000000 in
theorem cuts1_in (f : Nat) (hf : 3 ≤ f) (l B w h : Nat) (hw : w ≤ 12) (hh : h ≤ 12) (J Jx : List Pr → World → Prop)
    (hY : ∀ pre x W, J pre W → pre.length < 24 → YieldAt Fence.wide (f - 1) Try.prog l (encP x) W fun e W' =>
      (e = .returned (.bool true) ∧ J (pre ++ [x]) W' ∧ KeepS B W W') ∨ (e = .returned (.bool false) ∧ Jx (pre ++ [x]) W'))
    (W : World) (hp : HeldB W B 36 #[.int .i64 (w : Int), .int .i64 (h : Int)]) (h0 : J [] W) :
    CallsIn Fence.wide f Try.prog 59 #[.func (.yield l) #[] #[], .pointer (some ⟨B, 0, none⟩)] W fun e W' => (∃ v, e = .returned v) ∧
      ((∃ ys, (ys : List Pr).map Pr.pair = cutsL w h ∧ J ys W') ∨ (∃ pre, True ∧ Jx pre W')) := by
  have hF : ∀ k, Fence.wide.fn k := fun _ => trivial
  have hn1 : 1 ≤ f := by omega
  refine callsIn_of_wp Try.func59 rfl trivial ?_ rfl
  simp only [Try.ntmps59, List.size_toArray, List.length_cons, List.length_nil, Nat.reduceAdd, Nat.reduceSub, Array.replicate_succ, Array.replicate_zero, List.push_toArray, List.append_toArray, List.nil_append, List.cons_append]
  gi_wp2
  gi_loopw [3] (fun va wr => ∃ (a : Nat) (pre : List Pr), 1 ≤ a ∧ a ≤ 13 ∧ (a ≤ w ∨ a = 1) ∧ va = .int .i64 a ∧ Told (wideL w h (a - 1)) (a - 1) pre ∧ J pre wr ∧ HeldB wr B 36 #[.int .i64 (w : Int), .int .i64 (h : Int)]) (fun va _ => 13 - (intOf va).toNat)
  case atStart => exact ⟨1, [], Nat.le_refl _, by omega, .inr rfl, rfl, told_nil, h0, hp⟩
  case round =>
    clear h0 hp
    obtain ⟨a, pa, ha1, ha13, hale, rfl, hT, hJ, hH⟩ := hrel
    have hT := Lib.hid hT
    have c0 : wr.cell? ⟨B, 0, none⟩ = some (.int .i64 (w : Int)) := hH.cell 0
    have c1 : wr.cell? ⟨B, 1, none⟩ = some (.int .i64 (h : Int)) := hH.cell 1
    by_cases hlt : a < w
    · have HY := hY pa ⟨a, h, w - a, h, by omega, hh, by omega, hh⟩ wr hJ (by rw [hT.out.len]; omega)
      have HAD := Lib.hid (hT.out.add ⟨a, h, w - a, h, by omega, hh, by omega, hh⟩ (y := ((a - 1 + 1, h), (w - (a - 1 + 1), h))) (by unfold Pr.pair; simp only; rw [show a - 1 + 1 = a by omega]))
      rw [← wideL_succ, show a - 1 + 1 = a by omega] at HAD
      obtain ⟨fn, tmps, assign, body, hy, hR⟩ := HY
      simp only [encP] at hy
      rw [show ((w - a : Nat) : Int) = (w : Int) - (a : Int) by omega] at hy
      gi_wp2
      refine hR.mono ?_
      rintro e W3 (⟨rfl, hJ3, hk3⟩ | ⟨rfl, hJx3⟩)
      · have hH3 : HeldB W3 B 36 #[.int .i64 (w : Int), .int .i64 (h : Int)] := (show W3.heap[B]? = wr.heap[B]? from hk3).trans hH
        clear hy hR hJ hH c0 c1 hk3
        gi_wp2
        go_roundw
        case rel => exact ⟨a + 1, _, by omega, by omega, by omega, by go_num, by rw [show a + 1 - 1 = a by omega]; exact HAD.out, hJ3, hH3⟩
        case measure => simp [intOf]; omega
      · clear hy hR hJ hH c0 c1
        gi_wp2
        refine bodyPost_ret (results_none rfl _ _ _) rfl ?_
        exact ⟨⟨_, rfl⟩, .inr ⟨_, trivial, hJx3⟩⟩
    · have hdf : decide ((a : Int) < (w : Int)) = false := by rw [decide_eq_false_iff_not]; omega
      have HT2 := Lib.hid (show Told (wideL w h (w - 1)) (a - 1) pa by have := hT.out; rwa [show w - 1 = a - 1 by omega])
      have hal := hT.out.len
      clear hT
      gi_wp2
      clear c0 c1
      gi_loopw [4] (fun vb wr => ∃ (b : Nat) (pre : List Pr), 1 ≤ b ∧ b ≤ 13 ∧ (b ≤ h ∨ b = 1) ∧ vb = .int .i64 b ∧ Told (wideL w h (w - 1) ++ highL w h (b - 1)) (a - 1 + (b - 1)) pre ∧ J pre wr ∧ HeldB wr B 36 #[.int .i64 (w : Int), .int .i64 (h : Int)]) (fun vb _ => 13 - (intOf vb).toNat)
      case atStart => exact ⟨1, pa, Nat.le_refl _, by omega, .inr rfl, rfl, by simpa [highL] using HT2.out, hJ, hH⟩
      case round =>
        clear hJ hH
        obtain ⟨b, pb, hb1, hb13, hble, rfl, hU, hJ, hH⟩ := hrel
        have hU := Lib.hid hU
        have c0 : wr.cell? ⟨B, 0, none⟩ = some (.int .i64 (w : Int)) := hH.cell 0
        have c1 : wr.cell? ⟨B, 1, none⟩ = some (.int .i64 (h : Int)) := hH.cell 1
        by_cases hlb : b < h
        · have HY := hY pb ⟨w, b, w, h - b, hw, by omega, hw, by omega⟩ wr hJ (by rw [hU.out.len]; omega)
          have HAD := Lib.hid (hU.out.add ⟨w, b, w, h - b, hw, by omega, hw, by omega⟩ (y := ((w, b - 1 + 1), (w, h - (b - 1 + 1)))) (by unfold Pr.pair; simp only; rw [show b - 1 + 1 = b by omega]))
          rw [List.append_assoc, ← highL_succ, show b - 1 + 1 = b by omega] at HAD
          obtain ⟨fn, tmps, assign, body, hy, hR⟩ := HY
          simp only [encP] at hy
          rw [show ((h - b : Nat) : Int) = (h : Int) - (b : Int) by omega] at hy
          gi_wp2
          refine hR.mono ?_
          rintro e W3 (⟨rfl, hJ3, hk3⟩ | ⟨rfl, hJx3⟩)
          · have hH3 : HeldB W3 B 36 #[.int .i64 (w : Int), .int .i64 (h : Int)] := (show W3.heap[B]? = wr.heap[B]? from hk3).trans hH
            clear hy hR hJ hH c0 c1 hk3
            gi_wp2
            go_roundw
            case rel => exact ⟨b + 1, _, by omega, by omega, by omega, by go_num, by rw [show b + 1 - 1 = b by omega]; have := HAD.out; rwa [show a - 1 + (b - 1) + 1 = a - 1 + b by omega] at this, hJ3, hH3⟩
            case measure => simp [intOf]; omega
          · clear hy hR hJ hH c0 c1
            gi_wp2
            refine bodyPost_ret (results_none rfl _ _ _) rfl ?_
            exact ⟨⟨_, rfl⟩, .inr ⟨_, trivial, hJx3⟩⟩
        · have hdf : decide ((b : Int) < (h : Int)) = false := by rw [decide_eq_false_iff_not]; omega
          have HFIN := Lib.hid (show pb.map Pr.pair = cutsL w h by rw [hU.out.eq, cutsL_eq, show h - 1 = b - 1 by omega])
          clear hU
          gi_wp2
          go_end0
          exact ⟨⟨_, rfl⟩, .inl ⟨pb, HFIN.out, hJ⟩⟩

theorem cuts_stops (f : Nat) (hf : 3 ≤ f) (B w h : Nat) (hw : w ≤ 12) (hh : h ≤ 12) (W0 : World) (hp : HeldB W0 B 36 #[.int .i64 (w : Int), .int .i64 (h : Int)]) :
    SeqStopsK Fence.wide f Try.prog 59 #[.pointer (some ⟨B, 0, none⟩)] encP (KeepS B) (fun ys => ys.map Pr.pair = cutsL w h) (fun _ => True) 24 W0 := fun l J Jx W hW _ _ hY h0 =>
  cuts1_in f hf l B w h hw hh J Jx hY W ((hW.block B (Array.getElem?_eq_some_iff.1 hp).1).trans hp) h0

end Go.Proofs.Ytfemfmkgdgcemaa
