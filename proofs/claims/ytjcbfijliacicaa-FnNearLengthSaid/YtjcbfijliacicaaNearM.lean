
/-
  Whether two rooms are neighbours, and along how many cells: the model's answers. (Walks.)
-/
import Derived.Test.YtjcbfijliacicaaNearS
import Derived.Test.YtjcbfijliacicaaRoomA
namespace Go.Proofs.Ytjcbfijliacicaa
open Go.RowKit

def nearIs (p : List ByteArray) (a b : Int) : Bool := givenB p a && (givenB p b && decide (0 < besN p a b))
def nlenOk (p : List ByteArray) (a b : Int) : Bool := givenB p a && (givenB p b && !(a == b))
def nlenN (p : List ByteArray) (a b : Int) : Nat := if nlenOk p a b then besN p a b else 0
theorem given_grid {p : List ByteArray} {a : Int} (h : givenB p a = true) : GridP p := by
  unfold givenB at h
  rw [Bool.and_eq_true] at h
  exact (planP_of h.1).grid

set_option maxRecDepth 100000 in
theorem specNearLength_any (ao : Option Addr) (cap : Nat) (p : List ByteArray) (a b : Int) (w : World) (hl : p.length ≤ 1048576) (hs : ∀ s ∈ p, s.size ≤ 1048576) (hc : CellsAt w ao (p.map Value.string)) :
    Calls Try.prog 20 #[.slice ao p.length cap, .int .i64 a, .int .i64 b] w fun e w' => e = .returned (.tuple #[.int .i64 (nlenN p a b : Nat), .bool (nlenOk p a b)]) ∧ Below w.heap.size w w' := by
  have HA := Lib.hid (fun w c => l1Given_any ao cap p a w hl hs c)
  have HB := Lib.hid (fun w c => l1Given_any ao cap p b w hl hs c)
  cases ha : givenB p a
  · have h0 : nlenOk p a b = false := by unfold nlenOk; rw [ha]; rfl
    have h1 : nlenN p a b = 0 := by unfold nlenN; rw [h0]; rfl
    rw [h0, h1]; rw [ha] at HA
    go_enter Try.func20, Try.ntmps20
    go_wp2_with fail
    refine (HA.out _ hc).mono ?_
    rintro e w1 ⟨rfl, hb1⟩
    go_wp2
    go_ret2
    exact ⟨rfl, hb1⟩
  · cases hb : givenB p b
    · have h0 : nlenOk p a b = false := by unfold nlenOk; rw [ha, hb]; rfl
      have h1 : nlenN p a b = 0 := by unfold nlenN; rw [h0]; rfl
      rw [h0, h1]; rw [ha] at HA; rw [hb] at HB
      go_enter Try.func20, Try.ntmps20
      go_wp2_with fail
      refine (HA.out _ hc).mono ?_
      rintro e w1 ⟨rfl, hb1⟩
      have c1 := hc.below hb1
      go_wp2_with fail
      refine (HB.out _ c1).mono ?_
      rintro e w2 ⟨rfl, hb2⟩
      go_wp2
      go_ret2
      exact ⟨rfl, below_step hb1 hb1.size hb2⟩
    · cases he : (a == b)
      · have hg := given_grid ha
        have h0 : nlenOk p a b = true := by unfold nlenOk; rw [ha, hb, he]; rfl
        have h1 : nlenN p a b = besN p a b := by unfold nlenN; rw [h0]; rfl
        have HN := Lib.hid (fun w c => l4Beside_any ao cap _ p a b w rfl hg c)
        rw [h0, h1]; rw [ha] at HA; rw [hb] at HB
        clear h0 h1
        generalize besN p a b = n at *
        go_enter Try.func20, Try.ntmps20
        go_wp2_with fail
        refine (HA.out _ hc).mono ?_
        rintro e w1 ⟨rfl, hb1⟩
        have c1 := hc.below hb1
        go_wp2_with fail
        refine (HB.out _ c1).mono ?_
        rintro e w2 ⟨rfl, hb2⟩
        have c2 := c1.below hb2
        go_wp2_with fail
        refine (HN.out _ c2).mono ?_
        rintro e w3 ⟨rfl, hb3⟩
        have z2 := below_step hb1 hb1.size hb2
        go_wp2
        go_ret2
        exact ⟨rfl, below_step z2 z2.size hb3⟩
      · have h0 : nlenOk p a b = false := by unfold nlenOk; rw [ha, hb, he]; rfl
        have h1 : nlenN p a b = 0 := by unfold nlenN; rw [h0]; rfl
        rw [h0, h1]; rw [ha] at HA; rw [hb] at HB
        go_enter Try.func20, Try.ntmps20
        go_wp2_with fail
        refine (HA.out _ hc).mono ?_
        rintro e w1 ⟨rfl, hb1⟩
        have c1 := hc.below hb1
        go_wp2_with fail
        refine (HB.out _ c1).mono ?_
        rintro e w2 ⟨rfl, hb2⟩
        go_wp2
        go_ret2
        exact ⟨rfl, below_step hb1 hb1.size hb2⟩

end Go.Proofs.Ytjcbfijliacicaa
