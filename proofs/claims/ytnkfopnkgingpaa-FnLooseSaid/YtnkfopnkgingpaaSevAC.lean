
/-
  Is a list a loose permutation: both answers. (Walks.)
-/
import Derived.Test.YtnkfopnkgingpaaSevAA
import Derived.Test.YtnkfopnkgingpaaSevR
import Derived.Test.YtnkfopnkgingpaaSevH
namespace Go.Proofs.Ytnkfopnkgingpaa
open Go.RowKit

def looseO (l : List Int) : Bool := isP l && looseB l

set_option maxRecDepth 100000 in
set_option maxHeartbeats 1000000 in
theorem implPermLoose_any (ao : Option Addr) (cap : Nat) (l : List Int) (w : World) (hl : l.length ≤ 1048576) (hc : CellsAt w ao (l.map (Value.int .i64))) :
    Calls Try.prog 24 #[.slice ao l.length cap] w fun e w' => e = .returned (.bool (looseO l)) ∧ Below w.heap.size w w' := by
  have HR := Lib.hid (read_any ao cap l w hl hc)
  have hf := orNil_few l
  have hlen := padL_len hf.len
  have HS := Lib.hid (perm_size hlen)
  have HN := Lib.hid (numC_one (padL (orNil l)))
  have HZ := Lib.hid (show (#[.int .i64 0, .int .i64 0, .int .i64 0, .int .i64 0, .int .i64 0, .int .i64 0, .int .i64 0] : Array Value).size = (numC (padL (orNil l))).size by rw [numC_size, hlen]; rfl)
  have HM := Lib.hid (fun (w : World) => isLoose_any (orNil_few l) w)
  clear hlen hf
  cases hp : isP l
  · rw [show looseO l = false by unfold looseO; rw [hp, Bool.false_and]]
    rw [hp] at HR
    clear hp
    generalize numC (padL (orNil l)) = C at *
    go_enter Try.func24, Try.ntmps24
    go_wp2_with (first
      | (refine wpList_store_new rfl 41 _ _ rfl _ #[.int .i64 0, .int .i64 0, .int .i64 0, .int .i64 0, .int .i64 0, .int .i64 0, .int .i64 0] C rfl rfl rfl HS.out HZ.out HN.out ?_)
      | (go_at_call 51; refine HR.out.mono ?_; rintro e w1 ⟨rfl, hb1⟩))
    go_ret
    exact ⟨rfl, hb1.alloc hb1.size _⟩
  · rw [show looseO l = looseB (orNil l) by unfold looseO; rw [hp, Bool.true_and, orNil_yes hp]]
    rw [hp] at HR
    clear hp
    generalize numC (padL (orNil l)) = C at *
    generalize looseB (orNil l) = b at *
    go_enter Try.func24, Try.ntmps24
    go_wp2_with (first
      | (refine wpList_store_new rfl 41 _ _ rfl _ #[.int .i64 0, .int .i64 0, .int .i64 0, .int .i64 0, .int .i64 0, .int .i64 0, .int .i64 0] C rfl rfl rfl HS.out HZ.out HN.out ?_)
      | (go_at_call 51; refine HR.out.mono ?_; rintro e w1 ⟨rfl, hb1⟩; have hb2 := hb1.alloc hb1.size (.cells C 41); have hW1 : (w1.alloc (.cells C 41)).heap[w1.heap.size]? = some (.cells C 41 (0, 0)) := HeldB.new _ _ _)
      | (refine wpList_load_row_guard (by rfl) 41 _ rfl w1.heap.size rfl 41 C (0, 0) _ hW1 Try.underlying41 rfl HS.out ?_)
      | (go_at_call 59; refine (HM.out _).mono ?_; rintro e w3 ⟨rfl, hb3⟩))
    go_ret
    exact ⟨rfl, below_step hb2 hb2.size hb3⟩
set_option maxRecDepth 100000 in
set_option maxHeartbeats 1000000 in
theorem specPermLoose_any (ao : Option Addr) (cap : Nat) (l : List Int) (w : World) (hl : l.length ≤ 1048576) (hc : CellsAt w ao (l.map (Value.int .i64))) :
    Calls Try.prog 25 #[.slice ao l.length cap] w fun e w' => e = .returned (.bool (looseO l)) ∧ Below w.heap.size w w' := by
  have HP := Lib.hid (specPermIn_same ao cap l w hl hc)
  cases hp : isP l
  · rw [show looseO l = false by unfold looseO; rw [hp, Bool.false_and]]
    rw [hp] at HP
    clear hp
    go_enter Try.func25, Try.ntmps25
    go_wp2_with (go_at_call 16; refine HP.out.mono ?_; rintro e w1 ⟨rfl, rfl⟩)
    go_ret
    exact ⟨rfl, Below.refl _ _⟩
  · rw [show looseO l = looseB l by unfold looseO; rw [hp, Bool.true_and]]
    rw [hp] at HP
    have HS := Lib.hid (l6Loose_any ao cap l w (isP_few hp).len hc)
    clear hp
    generalize looseB l = b at *
    go_enter Try.func25, Try.ntmps25
    go_wp2_with (first
      | (go_at_call 16; refine HP.out.mono ?_; rintro e w1 ⟨rfl, rfl⟩)
      | (go_at_call 60; refine HS.out.mono ?_; rintro e w2 ⟨rfl, hb2⟩))
    go_ret
    exact ⟨rfl, hb2⟩

end Go.Proofs.Ytnkfopnkgingpaa
