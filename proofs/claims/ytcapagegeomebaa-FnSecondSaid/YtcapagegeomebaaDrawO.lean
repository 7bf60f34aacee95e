
/-
  Draws of a mostly plain plan and rooms, for the laws of orders. (Walks.)
-/
import Derived.Test.YtcapagegeomebaaDraw
import Derived.Test.YtcapagegeomebaaPoint
namespace Go.Proofs.Ytcapagegeomebaa
open Go.RowKit

set_option maxRecDepth 100000 in
set_option maxHeartbeats 2000000 in
theorem l91Plain_any (N B rows cols : Nat) (w : World) (hN : N ≤ 20000) (hn : rows ≤ 7) (hm : cols ≤ 7) (h : RdAt N B w) :
    Calls Try.prog 48 #[.pointer (some ⟨B, 0, none⟩), .int .i64 (rows : Nat), .int .i64 (cols : Nat)] w
      fun e w' => ∃ ro rc l, Smp l ∧ e = .returned (.slice ro l.length rc) ∧ ListAt B w' ro l ∧ RdAt (N + 240) B w' ∧ w.grownBy w' (some B) := by
  go_enter Try.func48, Try.ntmps48
  go_wp2_with (go_at_call 62; refine (l91Some_any N B rows cols _ (by omega) hn hm h).mono ?_; rintro e w1 ⟨ro, rc, l, hsm, rfl, hla, hr1, hg1⟩)
  clear h
  go_loopw [7, 8] (fun v7 v8 wr => ∃ t : Nat, t ≤ 3 ∧ v8 = .int .i64 t ∧ ∃ (ro : Option Addr) (rc : Nat) (l : List ByteArray), v7 = .slice ro l.length rc ∧ Hid (Smp l) ∧ Hid (ListAt B wr ro l) ∧ Hid (RdAt (N + 60 + 60 * t) B wr) ∧ Hid (w.grownBy wr (some B))) (fun _ v _ => 3 - (intOf v).toNat)
  case atStart => exact ⟨0, Nat.zero_le _, rfl, ro, rc, l, rfl, Lib.hid hsm, Lib.hid hla, Lib.hid hr1, Lib.hid hg1⟩
  case round =>
    clear hsm hla hr1 hg1
    obtain ⟨t, ht, rfl, ro, rc, l, rfl, HS, HL, HR, HG⟩ := hrel
    have fin : ∀ w2 : World, Below wr.heap.size wr w2 → ListAt B w2 ro l ∧ RdAt (N + 240) B w2 ∧ w.grownBy w2 (some B) := fun w2 hb => ⟨HL.out.below hb, (HR.out.below hb).mono (by omega), grownBy_b HG.out hb⟩
    have FIN := Lib.hid fin; clear fin
    by_cases ht3 : t < 3
    · have hd : decide ((t : Int) < 3) = true := by rw [decide_eq_true_eq]; omega
      have HP := Lib.hid (fun w hc => specWallPlain_any ro rc l w HS.out.small.1 HS.out.small.2 hc)
      cases hx : (planB l && decide (meetN l 4 = 0))
      · rw [hx] at HP
        go_wp2_with (first
          | (go_at_call 61; refine (HP.out _ HL.out.1).mono ?_; rintro e w2 ⟨rfl, hb2⟩; have HR2 := Lib.hid (HR.out.below hb2); have HG2 := Lib.hid (grownBy_b HG.out hb2))
          | (go_at_call 62; refine (l91Some_any (N + 60 + 60 * t) B rows cols _ (by omega) hn hm HR2.out).mono ?_; rintro e w3 ⟨ro3, rc3, l3, hsm3, rfl, hla3, hr3, hg3⟩; have HS3 := Lib.hid hsm3; have HL3 := Lib.hid hla3; have HR3 := Lib.hid (hr3.mono (M := N + 60 + 60 * (t + 1)) (by omega)); have HG3 := Lib.hid (grownBy_trans HG2.out hg3); clear hsm3 hla3 hr3 hg3))
        go_roundw
        case rel => exact ⟨t + 1, by omega, by go_num, ro3, rc3, l3, rfl, HS3, HL3, HR3, HG3⟩
        case measure => simp [intOf]; omega
      · rw [hx] at HP
        go_wp2_with (go_at_call 61; refine (HP.out _ HL.out.1).mono ?_; rintro e w2 ⟨rfl, hb2⟩)
        have hf := FIN.out w2 hb2
        go_ret
        exact ⟨ro, rc, l, HS.out, rfl, hf.1, hf.2.1, hf.2.2⟩
    · have hd : decide ((t : Int) < 3) = false := by rw [decide_eq_false_iff_not]; omega
      have hf := FIN.out wr (Below.refl _ _)
      go_wp2
      go_ret
      exact ⟨ro, rc, l, HS.out, rfl, hf.1, hf.2.1, hf.2.2⟩

/-- a drawn list and two numbers, handed back -/
def DrawnTwo (e : Ending) (w' : World) : Prop := ∃ ro rc l, ∃ (a b : Int), Smp l ∧ e = .returned (.tuple #[.slice ro l.length rc, .int .i64 a, .int .i64 b]) ∧ CellsAt w' ro (l.map Value.string)

set_option maxRecDepth 100000 in
set_option maxHeartbeats 2000000 in
theorem l91Ordered_any (ao : Option Addr) (cap : Nat) (c : List UInt8) (w : World) (hcap : c.length ≤ cap) (hl : c.length ≤ 1048576) (hc : CellsAt w ao (c.map byteV)) :
    Calls Try.prog 32 #[.slice ao c.length cap] w fun e w' => DrawnTwo e w' ∧ Below w.heap.size w w' := by
  go_enter Try.func32, Try.ntmps32
  go_wp2_with (first
    | (go_at_call 47; refine (l6Open_any _ _ _ _ hcap hl hc).mono ?_; rintro e w1 ⟨rfl, hr1, hb1⟩)
    | (go_at_call 48; refine (l91Plain_any 0 w.heap.size 5 5 _ (by omega) (by omega) (by omega) hr1).mono ?_; rintro e w2 ⟨ro, rc, l, hsm, rfl, hla, hr2, hg2⟩; have HS := Lib.hid hsm; have HL2 := Lib.hid hla; have HR2 := Lib.hid hr2; have HB2 := Lib.hid (below_reader hb1 hb1.size hg2); clear hsm hla hr2 hg2 hb1 hr1)
    | (go_at_call 50; refine (l1Rooms_any _ _ _ _ HS.out.small.1 HS.out.small.2 HL2.out.1).mono ?_; rintro e w3 ⟨rfl, rfl⟩))
  refine (pick_any 240 w.heap.size _ _ (by omega) HR2.out).mono ?_
  rintro e w4 ⟨v4, rfl, -, hr4, hg4⟩
  have HL4 := Lib.hid (HL2.out.grown hg4)
  have HB4 := Lib.hid (below_reader HB2.out HB2.out.size hg4)
  have HR4 := Lib.hid hr4
  clear hg4 hr4
  go_wp2_with fail
  refine (l1Rooms_any _ _ _ _ HS.out.small.1 HS.out.small.2 HL4.out.1).mono ?_
  rintro e w3 ⟨rfl, rfl⟩
  go_wp2_with fail
  refine (pick_any 241 w.heap.size 24 _ (by omega) HR4.out).mono ?_
  rintro e w5 ⟨v5, rfl, -, hr5, hg5⟩
  have HL5 := Lib.hid (HL4.out.grown hg5)
  have HB5 := Lib.hid (below_reader HB4.out HB4.out.size hg5)
  clear hg5
  go_wp2_with fail
  refine (pick_any 242 w.heap.size _ _ (by omega) hr5).mono ?_
  rintro e w6 ⟨v6, rfl, -, hr6, hg6⟩
  have HL6 := Lib.hid (HL5.out.grown hg6)
  have HB6 := Lib.hid (below_reader HB5.out HB5.out.size hg6)
  clear hg6 hr5
  go_wp2_with fail
  refine (pick_any 243 w.heap.size 24 _ (by omega) hr6).mono ?_
  rintro e w7 ⟨v7, rfl, -, hr7, hg7⟩
  have HL7 := Lib.hid (HL6.out.grown hg7)
  have HB7 := Lib.hid (below_reader HB6.out HB6.out.size hg7)
  clear hg7 hr6 hr7
  go_wp2
  refine bodyPost_ret (by simp [results, Try.results32, go_sem]; exact ⟨rfl, rfl⟩) rfl ⟨⟨ro, rc, l, _, _, HS.out, rfl, HL7.out.1⟩, HB7.out⟩
set_option maxRecDepth 100000 in
theorem l91Order_any (ao : Option Addr) (cap : Nat) (c : List UInt8) (w : World) (hcap : c.length ≤ cap) (hl : c.length ≤ 1048576) (hc : CellsAt w ao (c.map byteV)) :
    Calls Try.prog 39 #[.slice ao c.length cap] w fun e w' => Drawn w.heap.size e w' ∧ Below w.heap.size w w' := by
  go_enter Try.func39, Try.ntmps39
  go_wp2_with (first
    | (go_at_call 47; refine (l6Open_any _ _ _ _ hcap hl hc).mono ?_; rintro e w1 ⟨rfl, hr1, hb1⟩)
    | (go_at_call 48; refine (l91Plain_any 0 w.heap.size 5 5 _ (by omega) (by omega) (by omega) hr1).mono ?_; rintro e w2 ⟨ro, rc, l, hsm, rfl, hla, hr2, hg2⟩))
  go_ret
  exact ⟨⟨ro, rc, l, hsm, rfl, hla.1⟩, below_reader hb1 hb1.size hg2⟩

set_option maxRecDepth 100000 in
theorem drawOrderLeft_any (ao : Option Addr) (cap : Nat) (c : List UInt8) (w : World) (hcap : c.length ≤ cap) (hl : c.length ≤ 1048576) (hc : CellsAt w ao (c.map byteV)) :
    Calls Try.prog 10 #[.slice ao c.length cap] w fun e w' => DrawnTwo e w' ∧ Below w.heap.size w w' := by
  go_enter Try.func10, Try.ntmps10
  go_wp2_with (go_at_call 32; refine (l91Ordered_any _ _ _ _ hcap hl hc).mono ?_; rintro e w1 ⟨⟨ro, rc, l, a, b, hsm, rfl, hla⟩, hb1⟩)
  refine bodyPost_ret (by simp [results, Try.results10, go_sem]) rfl ⟨⟨ro, rc, l, a, b, hsm, rfl, hla⟩, hb1⟩

set_option maxRecDepth 100000 in
theorem drawOrderAbove_any (ao : Option Addr) (cap : Nat) (c : List UInt8) (w : World) (hcap : c.length ≤ cap) (hl : c.length ≤ 1048576) (hc : CellsAt w ao (c.map byteV)) :
    Calls Try.prog 15 #[.slice ao c.length cap] w fun e w' => DrawnTwo e w' ∧ Below w.heap.size w w' := by
  go_enter Try.func15, Try.ntmps15
  go_wp2_with (go_at_call 32; refine (l91Ordered_any _ _ _ _ hcap hl hc).mono ?_; rintro e w1 ⟨⟨ro, rc, l, a, b, hsm, rfl, hla⟩, hb1⟩)
  refine bodyPost_ret (by simp [results, Try.results15, go_sem]) rfl ⟨⟨ro, rc, l, a, b, hsm, rfl, hla⟩, hb1⟩

set_option maxRecDepth 100000 in
theorem drawOrderKind_any (ao : Option Addr) (cap : Nat) (c : List UInt8) (w : World) (hcap : c.length ≤ cap) (hl : c.length ≤ 1048576) (hc : CellsAt w ao (c.map byteV)) :
    Calls Try.prog 18 #[.slice ao c.length cap] w fun e w' => DrawnTwo e w' ∧ Below w.heap.size w w' := by
  go_enter Try.func18, Try.ntmps18
  go_wp2_with (go_at_call 32; refine (l91Ordered_any _ _ _ _ hcap hl hc).mono ?_; rintro e w1 ⟨⟨ro, rc, l, a, b, hsm, rfl, hla⟩, hb1⟩)
  refine bodyPost_ret (by simp [results, Try.results18, go_sem]) rfl ⟨⟨ro, rc, l, a, b, hsm, rfl, hla⟩, hb1⟩

set_option maxRecDepth 100000 in
theorem drawOrderLong_any (ao : Option Addr) (cap : Nat) (c : List UInt8) (w : World) (hcap : c.length ≤ cap) (hl : c.length ≤ 1048576) (hc : CellsAt w ao (c.map byteV)) :
    Calls Try.prog 29 #[.slice ao c.length cap] w fun e w' => Drawn w.heap.size e w' ∧ Below w.heap.size w w' := by
  go_enter Try.func29, Try.ntmps29
  go_wp2_with (go_at_call 39; refine (l91Order_any _ _ _ _ hcap hl hc).mono ?_; rintro e w1 ⟨hd, hb1⟩; obtain ⟨ro, rc, l, hsm, rfl, hla⟩ := hd)
  go_ret
  exact ⟨⟨ro, rc, l, hsm, rfl, hla⟩, hb1⟩

set_option maxRecDepth 100000 in
theorem drawOrderFirst_any (ao : Option Addr) (cap : Nat) (c : List UInt8) (w : World) (hcap : c.length ≤ cap) (hl : c.length ≤ 1048576) (hc : CellsAt w ao (c.map byteV)) :
    Calls Try.prog 21 #[.slice ao c.length cap] w fun e w' => Drawn w.heap.size e w' ∧ Below w.heap.size w w' := by
  go_enter Try.func21, Try.ntmps21
  go_wp2_with (go_at_call 39; refine (l91Order_any _ _ _ _ hcap hl hc).mono ?_; rintro e w1 ⟨hd, hb1⟩; obtain ⟨ro, rc, l, hsm, rfl, hla⟩ := hd)
  go_ret
  exact ⟨⟨ro, rc, l, hsm, rfl, hla⟩, hb1⟩

set_option maxRecDepth 100000 in
theorem drawOrderSecond_any (ao : Option Addr) (cap : Nat) (c : List UInt8) (w : World) (hcap : c.length ≤ cap) (hl : c.length ≤ 1048576) (hc : CellsAt w ao (c.map byteV)) :
    Calls Try.prog 26 #[.slice ao c.length cap] w fun e w' => Drawn w.heap.size e w' ∧ Below w.heap.size w w' := by
  go_enter Try.func26, Try.ntmps26
  go_wp2_with (go_at_call 39; refine (l91Order_any _ _ _ _ hcap hl hc).mono ?_; rintro e w1 ⟨hd, hb1⟩; obtain ⟨ro, rc, l, hsm, rfl, hla⟩ := hd)
  go_ret
  exact ⟨⟨ro, rc, l, hsm, rfl, hla⟩, hb1⟩
end Go.Proofs.Ytcapagegeomebaa
