/-
  Merged texts: DrawQ DrawR.
-/
import Derived.Test.YtpgcpmfemcfoaaaPickR
import Derived.Test.YtpgcpmfemcfoaaaNestsR
import Derived.Test.YtpgcpmfemcfoaaaDrawR
import Derived.Test.YtpgcpmfemcfoaaaPointR

/-
  Merged texts: DrawV DrawQ.
-/
/-
  Merged texts: DrawH DrawV.
-/
/-
  The sheets that are drawn. (Walks.)
-/
namespace Go.Proofs.Ytpgcpmfemcfoaaa
open Go.RowKit

end Go.Proofs.Ytpgcpmfemcfoaaa

/-
  The kinds of pieces that are drawn. (Walks.)
-/
namespace Go.Proofs.Ytpgcpmfemcfoaaa
open Go.RowKit

end Go.Proofs.Ytpgcpmfemcfoaaa

/-
  Merged texts: DrawO DrawQ.
-/
/-
  Draws of a mostly plain plan and rooms, for the laws of orders. (Walks.)
-/
namespace Go.Proofs.Ytpgcpmfemcfoaaa
open Go.RowKit

set_option maxRecDepth 100000 in
set_option maxHeartbeats 2000000 in
theorem l91Plain_any (N B rows cols : Nat) (w : World) (hN : N ≤ 20000) (hn : rows ≤ 7) (hm : cols ≤ 7) (h : RdAt N B w) :
    Calls Try.prog 28 #[.pointer (some ⟨B, 0, none⟩), .int .i64 (rows : Nat), .int .i64 (cols : Nat)] w
      fun e w' => ∃ ro rc l, Smp l ∧ e = .returned (.slice ro l.length rc) ∧ ListAt B w' ro l ∧ RdAt (N + 240) B w' ∧ w.grownBy w' (some B) := by
  go_enter Try.func28, Try.ntmps28
  go_wp2_with (go_at_call 58; refine (l91Some_any N B rows cols _ (by omega) hn hm h).mono ?_; rintro e w1 ⟨ro, rc, l, hsm, rfl, hla, hr1, hg1⟩)
  clear h
  go_loopw [7, 8] (fun v7 v8 wr => ∃ t : Nat, t ≤ 3 ∧ v8 = .int .i64 t ∧ ∃ (ro : Option Addr) (rc : Nat) (l : List ByteArray), v7 = .slice ro l.length rc ∧ Hid (Smp l) ∧ Hid (ListAt B wr ro l) ∧ Hid (RdAt (N + 60 + 60 * t) B wr) ∧ Hid (w.grownBy wr (some B))) (fun _ v _ => 3 - (intOf v).toNat)
  case atStart => exact ⟨0, Nat.zero_le _, rfl, ro, rc, l, rfl, Lib.hid hsm, Lib.hid hla, Lib.hid hr1, Lib.hid hg1⟩
  case round =>
    clear hsm hla hr1 hg1
    obtain ⟨t, ht, rfl, ro, rc, l, rfl, HS, HL, HR, HG⟩ := hrel
    have fin : ∀ w2 : World, Below wr.heap.size wr w2 → ListAt B w2 ro l ∧ RdAt (N + 240) B w2 ∧ w.grownBy w2 (some B) := fun w2 hb => ⟨HL.out.below hb, (HR.out.below hb).mono (by omega), grownBy_b HG.out hb⟩
    have FIN := Lib.hid fin; clear fin
    by_cases ht3 : t < 3
    · have hd : decide ((t : Int) < 3) = true := by rw [decide_eq_true_eq]; omega
      have HP := Lib.hid (fun w hc => specWallPlain_any ro rc l w HS.out.small.1 HS.out.small.2 hc)
      cases hx : (planB l && decide (meetN l 4 = 0))
      · rw [hx] at HP
        go_wp2_with (first
          | (go_at_call 59; refine (HP.out _ HL.out.1).mono ?_; rintro e w2 ⟨rfl, hb2⟩; have HR2 := Lib.hid (HR.out.below hb2); have HG2 := Lib.hid (grownBy_b HG.out hb2))
          | (go_at_call 58; refine (l91Some_any (N + 60 + 60 * t) B rows cols _ (by omega) hn hm HR2.out).mono ?_; rintro e w3 ⟨ro3, rc3, l3, hsm3, rfl, hla3, hr3, hg3⟩; have HS3 := Lib.hid hsm3; have HL3 := Lib.hid hla3; have HR3 := Lib.hid (hr3.mono (M := N + 60 + 60 * (t + 1)) (by omega)); have HG3 := Lib.hid (grownBy_trans HG2.out hg3); clear hsm3 hla3 hr3 hg3))
        go_roundw
        case rel => exact ⟨t + 1, by omega, by go_num, ro3, rc3, l3, rfl, HS3, HL3, HR3, HG3⟩
        case measure => simp [intOf]; omega
      · rw [hx] at HP
        go_wp2_with (go_at_call 59; refine (HP.out _ HL.out.1).mono ?_; rintro e w2 ⟨rfl, hb2⟩)
        have hf := FIN.out w2 hb2
        go_ret
        exact ⟨ro, rc, l, HS.out, rfl, hf.1, hf.2.1, hf.2.2⟩
    · have hd : decide ((t : Int) < 3) = false := by rw [decide_eq_false_iff_not]; omega
      have hf := FIN.out wr (Below.refl _ _)
      go_wp2
      go_ret
      exact ⟨ro, rc, l, HS.out, rfl, hf.1, hf.2.1, hf.2.2⟩

end Go.Proofs.Ytpgcpmfemcfoaaa

/-
  Draws of a plan and of needs of its rooms. (Walks.)
-/
namespace Go.Proofs.Ytpgcpmfemcfoaaa
open Go.RowKit

/-- needs that are drawn -/
def NeedsAt (B : Nat) (w : World) (bo : Option Addr) (l : List Int) : Prop := CellsAt w bo (l.map (Value.int .i64)) ∧ ∀ a, bo = some a → a.block ≠ B
theorem NeedsAt.grown {B : Nat} {w w' : World} {ao : Option Addr} {l : List Int} (h : NeedsAt B w ao l) (hg : w.grownBy w' (some B)) : NeedsAt B w' ao l :=
  ⟨h.1.grown hg (fun a ha => by have := h.2 a ha; simpa using this), h.2⟩

end Go.Proofs.Ytpgcpmfemcfoaaa

/-
  Draws of the laws of permutations of plans. (Walks.)
-/
namespace Go.Proofs.Ytpgcpmfemcfoaaa
open Go.RowKit

end Go.Proofs.Ytpgcpmfemcfoaaa

/-
  The plans that are drawn for OrderSlide. (Walk.)
-/
namespace Go.Proofs.Ytpgcpmfemcfoaaa
open Go.RowKit

set_option maxRecDepth 100000 in
set_option maxHeartbeats 2000000 in
theorem drawOrderSlide_any (ao : Option Addr) (cap : Nat) (c : List UInt8) (w : World) (hcap : c.length ≤ cap) (hl : c.length ≤ 1048576) (hc : CellsAt w ao (c.map byteV)) :
    Calls Try.prog 9 #[.slice ao c.length cap] w fun e w' => Drawn w.heap.size e w' ∧ Below w.heap.size w w' := by
  have HO := Lib.hid (l6Open_any ao cap c w hcap hl hc)
  clear hc
  go_enter Try.func9, Try.ntmps9
  go_wp2_with fail
  refine HO.out.mono ?_
  rintro e w1 ⟨rfl, hr1, hb1⟩
  go_wp2_with fail
  refine (pick_any 0 w.heap.size 24 _ (by omega) hr1).mono ?_
  rintro e w2 ⟨v, rfl, hv, hr2, hg2⟩
  have hb2 := below_reader hb1 hb1.size hg2
  clear hb1 hg2 hr1
  have hl1 : v < 24 := by omega
  clear hv
  have hx : (3 : Int) + (v : Int) / 23 = ((3 + v / 23 : Nat) : Int) := by omega
  have hx7 : 3 + v / 23 ≤ 7 := by omega
  have HX := Lib.hid hx
  clear hx
  go_wp2_with fail
  rw [HX.out]
  refine (l91Plain_any 1 w.heap.size 3 (3 + v / 23) _ (by omega) (by omega) hx7 hr2).mono ?_
  rintro e w3 ⟨ro, rc, l, hsm, rfl, hla, hr3, hg3⟩
  have hb3 := below_reader hb2 hb2.size hg3
  go_wp2
  go_ret
  exact ⟨⟨ro, rc, l, hsm, rfl, hla.1⟩, hb3⟩
end Go.Proofs.Ytpgcpmfemcfoaaa
