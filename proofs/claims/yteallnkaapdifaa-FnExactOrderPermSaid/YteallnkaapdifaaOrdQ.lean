
/-
  The program's answers about two rooms: left, above, the kind. (Walks.)
-/
import Derived.Test.YteallnkaapdifaaOrdP
namespace Go.Proofs.Yteallnkaapdifaa
open Go.RowKit

theorem oR_le (p : List ByteArray) : oR p ≤ 9 := by
  unfold oR; split
  · rename_i h; exact (planP_of (plainB_plan h)).few
  · omega
/-- whether a room of a list leads to another one -/
def ledP (p : List ByteArray) (way : Nat) (a b : Int) : Bool := isLd (oR p) (oF p) way a b
theorem isLedP_any (p : List ByteArray) (way : Nat) (a b : Int) (w : World) (hw : way < 2) :
    Calls Try.prog 37 #[.agg (ordP p), .int .i64 way, .int .i64 a, .int .i64 b] w fun e w' => e = .returned (.bool (ledP p way a b)) ∧ Below w.heap.size w w' :=
  isLed_any (oH p) (oW p) (oR p) (oG p) (oF p) way a b w hw (oR_le p)
theorem ordP_size (p : List ByteArray) : (ordP p).size = 201 := ordC_size (planC_size _ _ _ _) _
theorem ordP_info (p : List ByteArray) : (Try.prog.info? 46).map (·.size) = some (ordP p).size := ord_info (planC_size _ _ _ _) _
theorem ordP_one (p : List ByteArray) : (ordP p).all (·.oneCell') = true := ordC_one (planC_one _ _ _ _) _

set_option maxRecDepth 100000 in
set_option maxHeartbeats 1600000 in
theorem implOrderLeft_any (ao : Option Addr) (cap : Nat) (p : List ByteArray) (a b : Int) (w : World) (hl : p.length ≤ 1048576) (hs : ∀ s ∈ p, s.size ≤ 1048576) (hc : CellsAt w ao (p.map Value.string)) :
    Calls Try.prog 14 #[.slice ao p.length cap, .int .i64 a, .int .i64 b] w fun e w' => e = .returned (.bool (ledP p 0 a b)) ∧ Below w.heap.size w w' := by
  have HZ0 := Lib.hid zero_ordC
  have HZS := Lib.hid (show (ordC zeroC noF).size = 201 from ordC_size (planC_size _ _ _ _) _)
  have HRO := Lib.hid (fun w hc => readOrder_any ao cap p w hl hs hc)
  have HIL := Lib.hid (fun w => isLedP_any p 0 a b w (by omega))
  have HI := Lib.hid (ordP_info p)
  have HS := Lib.hid (ordP_size p)
  have H1 := Lib.hid (ordP_one p)
  change Hid (∀ w, Calls _ _ #[.agg (ordP p), .int .i64 0, .int .i64 a, .int .i64 b] w _) at HIL
  generalize ledP p 0 a b = x at *
  generalize ordP p = D at *
  generalize ordC zeroC noF = Z at *
  go_enter Try.func14, Try.ntmps14
  go_wp2_with (first
    | (refine wpList_alloc_zero rfl 46 rfl Z HZ0.out ?_)
    | (refine wpList_store_new rfl 46 _ _ rfl _ Z D rfl rfl rfl HI.out (by rw [HZS.out, HS.out]) H1.out ?_)
    | (refine wpList_load_row rfl 46 _ rfl w1.heap.size rfl 46 D (0, 0) _ (HeldB.new w1 _ _) Try.underlying46 rfl HI.out ?_)
    | (go_at_call 36; refine (HRO.out _ hc).mono ?_; rintro e w1 ⟨rfl, hb1⟩)
    | (go_at_call 37; refine (HIL.out _).mono ?_; rintro e w2 ⟨rfl, hb2⟩))
  go_ret
  exact ⟨rfl, below_step hb1 hb1.size ((below_alloc w1 (.cells D 46)).trans (hb2.mono (by simp)))⟩

set_option maxRecDepth 100000 in
set_option maxHeartbeats 1600000 in
theorem implOrderAbove_any (ao : Option Addr) (cap : Nat) (p : List ByteArray) (a b : Int) (w : World) (hl : p.length ≤ 1048576) (hs : ∀ s ∈ p, s.size ≤ 1048576) (hc : CellsAt w ao (p.map Value.string)) :
    Calls Try.prog 17 #[.slice ao p.length cap, .int .i64 a, .int .i64 b] w fun e w' => e = .returned (.bool (ledP p 1 a b)) ∧ Below w.heap.size w w' := by
  have HZ0 := Lib.hid zero_ordC
  have HZS := Lib.hid (show (ordC zeroC noF).size = 201 from ordC_size (planC_size _ _ _ _) _)
  have HRO := Lib.hid (fun w hc => readOrder_any ao cap p w hl hs hc)
  have HIL := Lib.hid (fun w => isLedP_any p 1 a b w (by omega))
  have HI := Lib.hid (ordP_info p)
  have HS := Lib.hid (ordP_size p)
  have H1 := Lib.hid (ordP_one p)
  change Hid (∀ w, Calls _ _ #[.agg (ordP p), .int .i64 1, .int .i64 a, .int .i64 b] w _) at HIL
  generalize ledP p 1 a b = x at *
  generalize ordP p = D at *
  generalize ordC zeroC noF = Z at *
  go_enter Try.func17, Try.ntmps17
  go_wp2_with (first
    | (refine wpList_alloc_zero rfl 46 rfl Z HZ0.out ?_)
    | (refine wpList_store_new rfl 46 _ _ rfl _ Z D rfl rfl rfl HI.out (by rw [HZS.out, HS.out]) H1.out ?_)
    | (refine wpList_load_row rfl 46 _ rfl w1.heap.size rfl 46 D (0, 0) _ (HeldB.new w1 _ _) Try.underlying46 rfl HI.out ?_)
    | (go_at_call 36; refine (HRO.out _ hc).mono ?_; rintro e w1 ⟨rfl, hb1⟩)
    | (go_at_call 37; refine (HIL.out _).mono ?_; rintro e w2 ⟨rfl, hb2⟩))
  go_ret
  exact ⟨rfl, below_step hb1 hb1.size ((below_alloc w1 (.cells D 46)).trans (hb2.mono (by simp)))⟩

/-- the kind: a text and whether there is one -/
def kindT (x1 x2 x3 x4 : Bool) : ByteArray := if x1 then ⟨#[108]⟩ else if x2 then ⟨#[114]⟩ else if x3 then ⟨#[117]⟩ else if x4 then ⟨#[100]⟩ else ⟨#[]⟩
def kindK (x1 x2 x3 x4 : Bool) : Bool := x1 || x2 || x3 || x4
def kindV (p : List ByteArray) (a b : Int) : ByteArray := kindT (ledP p 0 a b) (ledP p 0 b a) (ledP p 1 a b) (ledP p 1 b a)
def kindB (p : List ByteArray) (a b : Int) : Bool := kindK (ledP p 0 a b) (ledP p 0 b a) (ledP p 1 a b) (ledP p 1 b a)

set_option maxRecDepth 100000 in
set_option maxHeartbeats 4000000 in
theorem implOrderKind_any (ao : Option Addr) (cap : Nat) (p : List ByteArray) (a b : Int) (w : World) (hl : p.length ≤ 1048576) (hs : ∀ s ∈ p, s.size ≤ 1048576) (hc : CellsAt w ao (p.map Value.string)) :
    Calls Try.prog 19 #[.slice ao p.length cap, .int .i64 a, .int .i64 b] w fun e w' => e = .returned (.tuple #[.string (kindV p a b), .bool (kindB p a b)]) ∧ Below w.heap.size w w' := by
  have HZ0 := Lib.hid zero_ordC
  have HZS := Lib.hid (show (ordC zeroC noF).size = 201 from ordC_size (planC_size _ _ _ _) _)
  have HRO := Lib.hid (fun w hc => readOrder_any ao cap p w hl hs hc)
  have H1 := Lib.hid (fun w => isLedP_any p 0 a b w (by omega))
  have H2 := Lib.hid (fun w => isLedP_any p 0 b a w (by omega))
  have H3 := Lib.hid (fun w => isLedP_any p 1 a b w (by omega))
  have H4 := Lib.hid (fun w => isLedP_any p 1 b a w (by omega))
  have HI := Lib.hid (ordP_info p)
  have HS := Lib.hid (ordP_size p)
  have HN := Lib.hid (ordP_one p)
  change Hid (∀ w, Calls _ _ #[.agg (ordP p), .int .i64 0, .int .i64 a, .int .i64 b] w _) at H1
  change Hid (∀ w, Calls _ _ #[.agg (ordP p), .int .i64 0, .int .i64 b, .int .i64 a] w _) at H2
  change Hid (∀ w, Calls _ _ #[.agg (ordP p), .int .i64 1, .int .i64 a, .int .i64 b] w _) at H3
  change Hid (∀ w, Calls _ _ #[.agg (ordP p), .int .i64 1, .int .i64 b, .int .i64 a] w _) at H4
  unfold kindV kindB
  generalize ledP p 0 a b = x1 at *
  generalize ledP p 0 b a = x2 at *
  generalize ledP p 1 a b = x3 at *
  generalize ledP p 1 b a = x4 at *
  generalize ordP p = D at *
  generalize ordC zeroC noF = Z at *
  cases x1
  · cases x2
    · cases x3
      · cases x4
        · go_enter Try.func19, Try.ntmps19
          go_wp2_with (first
            | (refine wpList_alloc_zero rfl 46 rfl Z HZ0.out ?_)
            | (refine wpList_store_new rfl 46 _ _ rfl _ Z D rfl rfl rfl HI.out (by rw [HZS.out, HS.out]) HN.out ?_)
            | (refine wpList_load_row rfl 46 _ rfl w1.heap.size rfl 46 D (0, 0) _ b4 Try.underlying46 rfl HI.out ?_)
            | (refine wpList_load_row rfl 46 _ rfl w1.heap.size rfl 46 D (0, 0) _ b3 Try.underlying46 rfl HI.out ?_)
            | (refine wpList_load_row rfl 46 _ rfl w1.heap.size rfl 46 D (0, 0) _ b2 Try.underlying46 rfl HI.out ?_)
            | (refine wpList_load_row rfl 46 _ rfl w1.heap.size rfl 46 D (0, 0) _ b1 Try.underlying46 rfl HI.out ?_)
            | (go_at_call 36; refine (HRO.out _ hc).mono ?_; rintro e w1 ⟨rfl, hb1⟩; have b1 := HeldB.new w1 46 D)
            | (go_at_call 37; refine (H1.out _).mono ?_; rintro e w2 ⟨rfl, hb2⟩; have b2 := b1.below hb2; clear H1)
            | (go_at_call 37; refine (H2.out _).mono ?_; rintro e w3 ⟨rfl, hb3⟩; have b3 := b2.below hb3; clear H2)
            | (go_at_call 37; refine (H3.out _).mono ?_; rintro e w4 ⟨rfl, hb4⟩; have b4 := b3.below hb4; clear H3)
            | (go_at_call 37; refine (H4.out _).mono ?_; rintro e w5 ⟨rfl, hb5⟩; have b5 := b4.below hb5; clear H4))
          go_ret2
          have s2 := hb2.size
          have s3 := hb3.size
          have s4 := hb4.size
          have s5 := hb5.size
          simp at s2
          exact ⟨rfl, below_step hb1 hb1.size (((((below_alloc w1 (.cells D 46)).trans (hb2.mono (by simp))).trans (hb3.mono (by omega))).trans (hb4.mono (by omega))).trans (hb5.mono (by omega)))⟩
        · go_enter Try.func19, Try.ntmps19
          go_wp2_with (first
            | (refine wpList_alloc_zero rfl 46 rfl Z HZ0.out ?_)
            | (refine wpList_store_new rfl 46 _ _ rfl _ Z D rfl rfl rfl HI.out (by rw [HZS.out, HS.out]) HN.out ?_)
            | (refine wpList_load_row rfl 46 _ rfl w1.heap.size rfl 46 D (0, 0) _ b4 Try.underlying46 rfl HI.out ?_)
            | (refine wpList_load_row rfl 46 _ rfl w1.heap.size rfl 46 D (0, 0) _ b3 Try.underlying46 rfl HI.out ?_)
            | (refine wpList_load_row rfl 46 _ rfl w1.heap.size rfl 46 D (0, 0) _ b2 Try.underlying46 rfl HI.out ?_)
            | (refine wpList_load_row rfl 46 _ rfl w1.heap.size rfl 46 D (0, 0) _ b1 Try.underlying46 rfl HI.out ?_)
            | (go_at_call 36; refine (HRO.out _ hc).mono ?_; rintro e w1 ⟨rfl, hb1⟩; have b1 := HeldB.new w1 46 D)
            | (go_at_call 37; refine (H1.out _).mono ?_; rintro e w2 ⟨rfl, hb2⟩; have b2 := b1.below hb2; clear H1)
            | (go_at_call 37; refine (H2.out _).mono ?_; rintro e w3 ⟨rfl, hb3⟩; have b3 := b2.below hb3; clear H2)
            | (go_at_call 37; refine (H3.out _).mono ?_; rintro e w4 ⟨rfl, hb4⟩; have b4 := b3.below hb4; clear H3)
            | (go_at_call 37; refine (H4.out _).mono ?_; rintro e w5 ⟨rfl, hb5⟩; have b5 := b4.below hb5; clear H4))
          go_ret2
          have s2 := hb2.size
          have s3 := hb3.size
          have s4 := hb4.size
          have s5 := hb5.size
          simp at s2
          exact ⟨rfl, below_step hb1 hb1.size (((((below_alloc w1 (.cells D 46)).trans (hb2.mono (by simp))).trans (hb3.mono (by omega))).trans (hb4.mono (by omega))).trans (hb5.mono (by omega)))⟩
      · go_enter Try.func19, Try.ntmps19
        go_wp2_with (first
          | (refine wpList_alloc_zero rfl 46 rfl Z HZ0.out ?_)
          | (refine wpList_store_new rfl 46 _ _ rfl _ Z D rfl rfl rfl HI.out (by rw [HZS.out, HS.out]) HN.out ?_)
          | (refine wpList_load_row rfl 46 _ rfl w1.heap.size rfl 46 D (0, 0) _ b3 Try.underlying46 rfl HI.out ?_)
          | (refine wpList_load_row rfl 46 _ rfl w1.heap.size rfl 46 D (0, 0) _ b2 Try.underlying46 rfl HI.out ?_)
          | (refine wpList_load_row rfl 46 _ rfl w1.heap.size rfl 46 D (0, 0) _ b1 Try.underlying46 rfl HI.out ?_)
          | (go_at_call 36; refine (HRO.out _ hc).mono ?_; rintro e w1 ⟨rfl, hb1⟩; have b1 := HeldB.new w1 46 D)
          | (go_at_call 37; refine (H1.out _).mono ?_; rintro e w2 ⟨rfl, hb2⟩; have b2 := b1.below hb2; clear H1)
          | (go_at_call 37; refine (H2.out _).mono ?_; rintro e w3 ⟨rfl, hb3⟩; have b3 := b2.below hb3; clear H2)
          | (go_at_call 37; refine (H3.out _).mono ?_; rintro e w4 ⟨rfl, hb4⟩; have b4 := b3.below hb4; clear H3))
        go_ret2
        have s2 := hb2.size
        have s3 := hb3.size
        have s4 := hb4.size
        simp at s2
        exact ⟨rfl, below_step hb1 hb1.size ((((below_alloc w1 (.cells D 46)).trans (hb2.mono (by simp))).trans (hb3.mono (by omega))).trans (hb4.mono (by omega)))⟩
    · go_enter Try.func19, Try.ntmps19
      go_wp2_with (first
        | (refine wpList_alloc_zero rfl 46 rfl Z HZ0.out ?_)
        | (refine wpList_store_new rfl 46 _ _ rfl _ Z D rfl rfl rfl HI.out (by rw [HZS.out, HS.out]) HN.out ?_)
        | (refine wpList_load_row rfl 46 _ rfl w1.heap.size rfl 46 D (0, 0) _ b2 Try.underlying46 rfl HI.out ?_)
        | (refine wpList_load_row rfl 46 _ rfl w1.heap.size rfl 46 D (0, 0) _ b1 Try.underlying46 rfl HI.out ?_)
        | (go_at_call 36; refine (HRO.out _ hc).mono ?_; rintro e w1 ⟨rfl, hb1⟩; have b1 := HeldB.new w1 46 D)
        | (go_at_call 37; refine (H1.out _).mono ?_; rintro e w2 ⟨rfl, hb2⟩; have b2 := b1.below hb2; clear H1)
        | (go_at_call 37; refine (H2.out _).mono ?_; rintro e w3 ⟨rfl, hb3⟩; have b3 := b2.below hb3; clear H2))
      go_ret2
      have s2 := hb2.size
      have s3 := hb3.size
      simp at s2
      exact ⟨rfl, below_step hb1 hb1.size (((below_alloc w1 (.cells D 46)).trans (hb2.mono (by simp))).trans (hb3.mono (by omega)))⟩
  · go_enter Try.func19, Try.ntmps19
    go_wp2_with (first
      | (refine wpList_alloc_zero rfl 46 rfl Z HZ0.out ?_)
      | (refine wpList_store_new rfl 46 _ _ rfl _ Z D rfl rfl rfl HI.out (by rw [HZS.out, HS.out]) HN.out ?_)
      | (refine wpList_load_row rfl 46 _ rfl w1.heap.size rfl 46 D (0, 0) _ b1 Try.underlying46 rfl HI.out ?_)
      | (go_at_call 36; refine (HRO.out _ hc).mono ?_; rintro e w1 ⟨rfl, hb1⟩; have b1 := HeldB.new w1 46 D)
      | (go_at_call 37; refine (H1.out _).mono ?_; rintro e w2 ⟨rfl, hb2⟩; have b2 := b1.below hb2; clear H1))
    go_ret2
    have s2 := hb2.size
    simp at s2
    exact ⟨rfl, below_step hb1 hb1.size ((below_alloc w1 (.cells D 46)).trans (hb2.mono (by simp)))⟩

end Go.Proofs.Yteallnkaapdifaa
