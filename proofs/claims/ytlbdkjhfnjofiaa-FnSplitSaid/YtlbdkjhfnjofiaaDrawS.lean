
/-
  The draw of a plan, a room, a letter and a number. (Walk.)
-/
import Derived.Test.YtlbdkjhfnjofiaaDraw
namespace Go.Proofs.Ytlbdkjhfnjofiaa
open Go.RowKit

/-- a drawn list, a number, a text and a number, handed back -/
def DrawnS (e : Ending) (w' : World) : Prop := ∃ ro rc l, ∃ (room : Int) (letter : ByteArray) (k : Int), Smp l ∧ e = .returned (.tuple #[.slice ro l.length rc, .int .i64 room, .string letter, .int .i64 k]) ∧ CellsAt w' ro (l.map Value.string)

set_option maxRecDepth 100000 in
set_option maxHeartbeats 2000000 in
theorem drawPlanSplit_any (ao : Option Addr) (cap : Nat) (c : List UInt8) (w : World) (hcap : c.length ≤ cap) (hl : c.length ≤ 1048576) (hc : CellsAt w ao (c.map byteV)) :
    Calls Try.prog 18 #[.slice ao c.length cap] w fun e w' => DrawnS e w' ∧ Below w.heap.size w w' := by
  go_enter Try.func18, Try.ntmps18
  go_wp2_with (first
    | (go_at_call 58; refine (l6Open_any _ _ _ _ hcap hl hc).mono ?_; rintro e w1 ⟨rfl, hr1, hb1⟩)
    | (go_at_call 59; refine (l91Some_any 0 w.heap.size 5 5 _ (by omega) (by omega) (by omega) hr1).mono ?_; rintro e w2 ⟨ro, rc, l, hsm, rfl, hla, hr2, hg2⟩; have HS := Lib.hid hsm; have HL2 := Lib.hid hla; have HR2 := Lib.hid hr2; have HB2 := Lib.hid (below_reader hb1 hb1.size hg2); clear hsm hla hr2 hg2 hb1 hr1)
    | (go_at_call 61; refine (l1Rooms_any _ _ _ _ HS.out.small.1 HS.out.small.2 HL2.out.1).mono ?_; rintro e w3 ⟨rfl, rfl⟩))
  refine (pick_any 60 w.heap.size 24 _ (by omega) HR2.out).mono ?_
  rintro e w4 ⟨v4, rfl, -, hr4, hg4⟩
  have HL4 := Lib.hid (HL2.out.grown hg4)
  have HB4 := Lib.hid (below_reader HB2.out HB2.out.size hg4)
  clear hg4
  go_wp2_with fail
  refine (pick_any 61 w.heap.size _ _ (by omega) hr4).mono ?_
  rintro e w5 ⟨v5, rfl, -, hr5, hg5⟩
  have HL5 := Lib.hid (HL4.out.grown hg5)
  have HB5 := Lib.hid (below_reader HB4.out HB4.out.size hg5)
  have HR5 := Lib.hid hr5
  clear hg5 hr4 hr5
  go_wp2_with fail
  refine (of_any 62 w.heap.size _ _ [⟨#[104]⟩, ⟨#[118]⟩, ⟨#[104]⟩, ⟨#[118]⟩, ⟨#[104]⟩, ⟨#[118]⟩, ⟨#[120]⟩] _ (by omega) (by decide) (by decide) (HR5.out.below (below_alloc _ _)) (CellsAt.alloc_lit _ [.string ⟨#[104]⟩, .string ⟨#[118]⟩, .string ⟨#[104]⟩, .string ⟨#[118]⟩, .string ⟨#[104]⟩, .string ⟨#[118]⟩, .string ⟨#[120]⟩] _) (fun a ha => by cases ha; have := HR5.out.lt; simp; omega)).mono ?_
  rintro e w6 ⟨letter, _, rfl, hr6, hg6⟩
  have HL6 := Lib.hid ((HL5.out.below (below_alloc _ _)).grown hg6)
  have HB6 := Lib.hid (below_reader (HB5.out.trans ((below_alloc _ _).mono HB5.out.size)) (HB5.out.trans ((below_alloc _ _).mono HB5.out.size)).size hg6)
  clear hg6
  go_wp2_with fail
  refine (pick_any 63 w.heap.size 4 _ (by omega) hr6).mono ?_
  rintro e w7 ⟨v7, rfl, -, hr7, hg7⟩
  have HL7 := Lib.hid (HL6.out.grown hg7)
  have HB7 := Lib.hid (below_reader HB6.out HB6.out.size hg7)
  clear hg7 hr6 hr7
  go_wp2
  refine bodyPost_ret (by simp [results, Try.results18, go_sem]) rfl ⟨⟨ro, rc, l, (v5 : Nat), letter, (v7 : Nat), HS.out, rfl, HL7.out.1⟩, HB7.out⟩

end Go.Proofs.Ytlbdkjhfnjofiaa
