
/-
  The program finds the box of a room. (Walk inside a fence.)
-/
import Derived.Test.YtpgcpmfemcfoaaaTurns
namespace Go.Proofs.Ytpgcpmfemcfoaaa
open Go.RowKit Go.Shelf

attribute [local go_sem] Oper.semAt_some

/-- the box of a room among those told -/
def findB (L : List Bx) (room : Int) : Option Bx := L.find? fun x => (x.room : Int) == room
def foundC (o : Option Bx) : Array Value := match o with | some x => #[.int .i64 x.row, .int .i64 x.col, .int .i64 x.high, .int .i64 x.wide] | none => #[.int .i64 0, .int .i64 0, .int .i64 0, .int .i64 0]
theorem findB_none {L : List Bx} {room : Int} (h : ∀ x ∈ L, ¬ (x.room : Int) = room) : findB L room = none := by
  unfold findB
  rw [List.find?_eq_none]
  intro x hx
  simpa using h x hx
theorem findB_some {L R : List Bx} {x : Bx} {room : Int} (h : ∀ x ∈ L, ¬ (x.room : Int) = room) (hx : (x.room : Int) = room) : findB (L ++ [x] ++ R) room = some x := by
  unfold findB
  have h1 : L.find? (fun x => (x.room : Int) == room) = none := findB_none h
  rw [List.append_assoc, List.find?_append, h1]
  simp [hx]

theorem findB_last {L : List Bx} {x : Bx} {room : Int} (h : ∀ x ∈ L, ¬ (x.room : Int) = room) (hx : (x.room : Int) = room) : findB (L ++ [x]) room = some x := by
  have := findB_some (R := []) h hx
  rwa [List.append_nil] at this

end Go.Proofs.Ytpgcpmfemcfoaaa
