
/-
  Permutations backwards, and the places of their numbers: the program's answers. (Walks.)
-/
import Derived.Test.YtkpjlglfhhdcbaaSevV
import Derived.Test.YtkpjlglfhhdcbaaSevR
import Derived.Test.YtkpjlglfhhdcbaaNums
namespace Go.Proofs.Ytkpjlglfhhdcbaa
open Go.RowKit

def backO (l : List Int) : List Int := (orNil l).reverse
def otherO (l : List Int) : List Int := invL (orNil l)
theorem backO_few (l : List Int) : (backO l).length ≤ 1048576 := by
  have := (orNil_few l).len
  unfold backO; rw [List.length_reverse]; omega
theorem otherO_few (l : List Int) : (otherO l).length ≤ 1048576 := by
  have := (orNil_few l).len
  unfold otherO; rw [invL_len]; omega
theorem other_few {l : List Int} (h : Few l) (w : World) :
    Calls Try.prog 48 #[.agg (numC (padL l))] w fun e w' => e = .returned (.agg (numC (padL (invL l)))) ∧ Below w.heap.size w w' := by
  rw [← h.oth]; exact other_any h.sev w

set_option maxRecDepth 100000 in
set_option maxHeartbeats 1000000 in
theorem implPermBack_any (ao : Option Addr) (cap : Nat) (l : List Int) (w : World) (hl : l.length ≤ 1048576) (hc : CellsAt w ao (l.map (Value.int .i64))) :
    Calls Try.prog 23 #[.slice ao l.length cap] w fun e w' => NumsRet w.heap.size (backO l) (isP l) e w' ∧ Below w.heap.size w w' := by
  have HR := Lib.hid (read_any ao cap l w hl hc)
  have hf := orNil_few l
  have hlen := padL_len hf.len
  have HS := Lib.hid (perm_size hlen)
  have HN := Lib.hid (numC_one (padL (orNil l)))
  have HZ := Lib.hid (show (#[.int .i64 0, .int .i64 0, .int .i64 0, .int .i64 0, .int .i64 0, .int .i64 0, .int .i64 0] : Array Value).size = (numC (padL (orNil l))).size by rw [numC_size, hlen]; rfl)
  have HM := Lib.hid (fun (w : World) => (show Calls Try.prog 46 #[.agg (numC (padL (orNil l)))] w fun e w' => e = .returned (.agg (numC (padL (backO l)))) ∧ Below w.heap.size w w' from back_any (orNil_few l).lo w))
  have HL := Lib.hid (fun (w : World) => list_any (l := backO l) (orNil_few l).rev.lo w)
  clear hlen hf
  generalize numC (padL (orNil l)) = C at *
  generalize numC (padL (backO l)) = D at *
  go_enter Try.func23, Try.ntmps23
  go_wp2_with (first
    | (refine wpList_store_new rfl 35 _ _ rfl _ #[.int .i64 0, .int .i64 0, .int .i64 0, .int .i64 0, .int .i64 0, .int .i64 0, .int .i64 0] C rfl rfl rfl HS.out HZ.out HN.out ?_)
    | (go_at_call 41; refine HR.out.mono ?_; rintro e w1 ⟨rfl, hb1⟩; have hW1 : (w1.alloc (.cells C 35)).heap[w1.heap.size]? = some (.cells C 35 (0, 0)) := HeldB.new _ _ _)
    | (refine wpList_load_row rfl 35 _ rfl w1.heap.size rfl 35 C (0, 0) _ hW1 Try.underlying35 rfl HS.out ?_)
    | (go_at_call 46; refine (HM.out _).mono ?_; rintro e w2 ⟨rfl, hb2⟩)
    | (go_at_call 47; refine (HL.out _).mono ?_; rintro e w3 ⟨g, c, rfl, ho, hb3⟩))
  have hB2 := below_step (hb1.alloc hb1.size (.cells C 35)) (below_size (hb1.alloc hb1.size _)) hb2
  have hB3 := below_step hB2 hB2.size hb3
  go_ret2
  exact ⟨⟨_, _, rfl, ownsRow_base ho hB2.size⟩, hB3⟩
set_option maxRecDepth 100000 in
set_option maxHeartbeats 1000000 in
theorem implPermOther_any (ao : Option Addr) (cap : Nat) (l : List Int) (w : World) (hl : l.length ≤ 1048576) (hc : CellsAt w ao (l.map (Value.int .i64))) :
    Calls Try.prog 27 #[.slice ao l.length cap] w fun e w' => NumsRet w.heap.size (otherO l) (isP l) e w' ∧ Below w.heap.size w w' := by
  have HR := Lib.hid (read_any ao cap l w hl hc)
  have hf := orNil_few l
  have hlen := padL_len hf.len
  have HS := Lib.hid (perm_size hlen)
  have HN := Lib.hid (numC_one (padL (orNil l)))
  have HZ := Lib.hid (show (#[.int .i64 0, .int .i64 0, .int .i64 0, .int .i64 0, .int .i64 0, .int .i64 0, .int .i64 0] : Array Value).size = (numC (padL (orNil l))).size by rw [numC_size, hlen]; rfl)
  have HM := Lib.hid (fun (w : World) => (show Calls Try.prog 48 #[.agg (numC (padL (orNil l)))] w fun e w' => e = .returned (.agg (numC (padL (otherO l)))) ∧ Below w.heap.size w w' from other_few (orNil_few l) w))
  have HL := Lib.hid (fun (w : World) => list_any (l := otherO l) (orNil_few l).inv.lo w)
  clear hlen hf
  generalize numC (padL (orNil l)) = C at *
  generalize numC (padL (otherO l)) = D at *
  go_enter Try.func27, Try.ntmps27
  go_wp2_with (first
    | (refine wpList_store_new rfl 35 _ _ rfl _ #[.int .i64 0, .int .i64 0, .int .i64 0, .int .i64 0, .int .i64 0, .int .i64 0, .int .i64 0] C rfl rfl rfl HS.out HZ.out HN.out ?_)
    | (go_at_call 41; refine HR.out.mono ?_; rintro e w1 ⟨rfl, hb1⟩; have hW1 : (w1.alloc (.cells C 35)).heap[w1.heap.size]? = some (.cells C 35 (0, 0)) := HeldB.new _ _ _)
    | (refine wpList_load_row rfl 35 _ rfl w1.heap.size rfl 35 C (0, 0) _ hW1 Try.underlying35 rfl HS.out ?_)
    | (go_at_call 48; refine (HM.out _).mono ?_; rintro e w2 ⟨rfl, hb2⟩)
    | (go_at_call 47; refine (HL.out _).mono ?_; rintro e w3 ⟨g, c, rfl, ho, hb3⟩))
  have hB2 := below_step (hb1.alloc hb1.size (.cells C 35)) (below_size (hb1.alloc hb1.size _)) hb2
  have hB3 := below_step hB2 hB2.size hb3
  go_ret2
  exact ⟨⟨_, _, rfl, ownsRow_base ho hB2.size⟩, hB3⟩

end Go.Proofs.Ytkpjlglfhhdcbaa
