
/-
  The number of rooms: the model's and the program's. (Walks.)
-/
import Derived.Test.YtkbgkkempooplaaTurns
namespace Go.Proofs.Ytkbgkkempooplaa
open Go.RowKit

/-- the number of rooms, none for what is no plan -/
def roomsOr (p : List ByteArray) : Int := if planB p then roomsB p else 0
theorem roomsOr_yes {p : List ByteArray} (h : planB p = true) : roomsOr p = roomsB p := by unfold roomsOr; rw [h]; rfl
theorem roomsOr_no {p : List ByteArray} (h : planB p = false) : roomsOr p = 0 := by unfold roomsOr; rw [h]; rfl

set_option maxHeartbeats 400000 in
theorem implPlanRooms_any (ao : Option Addr) (cap : Nat) (p : List ByteArray) (w : World) (hl : p.length ≤ 1048576) (hs : ∀ s ∈ p, s.size ≤ 1048576) (hc : CellsAt w ao (p.map Value.string)) :
    Calls Try.prog 18 #[.slice ao p.length cap] w fun e w' => e = .returned (.tuple #[.int .i64 (roomsOr p), .bool (planB p)]) ∧ Below w.heap.size w w' := by
  have HS39 := Lib.hid (readC_39 p)
  have HSZ := Lib.hid (readC_size p)
  have HONE := Lib.hid (readC_one p)
  have hrk := readOk_eq p
  have h2 : (readC p)[2]? = some (.int .i64 (roomsOr p)) := by
    cases hp : planB p
    · rw [roomsOr_no hp, readC_no (hrk.trans hp)]; exact planC_2 _ _ _ _
    · rw [roomsOr_yes hp, readC_ok (hrk.trans hp), (planP_of hp).rooms]; exact planC_2 _ _ _ _
  have HRK := Lib.hid hrk; clear hrk
  obtain ⟨C, hC⟩ : ∃ C, readC p = C := ⟨_, rfl⟩
  rw [hC] at HS39 HSZ HONE h2
  have HC := Lib.hid hC; clear hC
  go_enter Try.func18, Try.ntmps18
  go_wp2_with (first
    | (go_at_call 36; refine (readPlan_any _ _ _ _ hl hs hc).mono ?_; rw [HRK.out, HC.out]; rintro e w1 ⟨rfl, hb1⟩; have c2 : (w1.alloc (.cells C 60)).cell? ⟨w1.heap.size, 2, none⟩ = some (.int .i64 (roomsOr p)) := ((HeldB.new w1 60 C).cell 2).trans h2)
    | (refine wpList_alloc_zero rfl 60 rfl zeroC zero_plan ?_)
    | (refine wpList_store_new rfl 60 _ _ rfl w1 zeroC C rfl rfl rfl HSZ.out (by rw [HS39.out]; rfl) HONE.out ?_))
  go_ret2
  exact ⟨rfl, hb1.trans ((below_alloc w1 _).mono hb1.size)⟩

end Go.Proofs.Ytkbgkkempooplaa
