/-
  Rows of numbers in a block. (No function is named.)
-/
import Derived.Test.YtpgcpmfemcfoaaaSevMO
import Derived.Test.YtpgcpmfemcfoaaaRowO

namespace Go.Proofs.Ytpgcpmfemcfoaaa
open Go.RowKit

def numC (L : List Int) : Array Value := (L.map (Value.int .i64)).toArray
theorem numC_size (L : List Int) : (numC L).size = L.length := by simp [numC]
theorem numC_at {L : List Int} {i : Nat} (h : i < L.length) : (numC L)[i]? = some (.int .i64 (L.getD i 0)) := by simp [numC, h]
theorem numC_set (L : List Int) (i : Nat) (x : Int) : (numC L).setIfInBounds i (.int .i64 x) = numC (L.set i x) := by
  unfold numC; rw [List.map_set]; simp
theorem numC_one (L : List Int) : (numC L).all (·.oneCell') = true := by
  rw [Array.all_eq_true_iff_forall_mem]
  intro v hv
  unfold numC at hv
  rw [List.mem_toArray, List.mem_map] at hv
  obtain ⟨_, _, rfl⟩ := hv
  rfl
theorem zero7 : numC (List.replicate 7 0) = #[.int .i64 0, .int .i64 0, .int .i64 0, .int .i64 0, .int .i64 0, .int .i64 0, .int .i64 0] := by kernel_rfl
theorem perm_size {L : List Int} (h : L.length = 7) : (Try.prog.info? 85).map (·.size) = some (numC L).size := by rw [numC_size, h]; kernel_rfl

theorem run_index7 {C : Array Value} {k : Nat} {v : Int} (hk : k < 7) (hC : C[k]? = some (.int .i64 v)) (w : World) : (Instr.index 85 (.agg C) (.int .i64 (k : Int))).run Try.prog w = .ok (.int .i64 v) w := by
  have h0 : (0 : Int) ≤ (k : Int) ∧ (k : Int) < 7 := by omega
  simp [Instr.index, asIntOf, run_underlying Try.underlying85, go_sem, hC, hk]

theorem results_perm {fn : Func} {p : Tmp} (h : fn.results = #[.cell p 85]) {tmps : Array Value} {w : World} {B : Nat} {L : List Int}
    (hp : tmps.getD p undef = .pointer (some ⟨B, 0, none⟩)) (hB : HeldB w B 85 (numC L)) (hs : L.length = 7) :
    (results fn tmps).run Try.prog w = .ok (.agg (numC L)) w :=
  results_cell_row h tmps w B 85 (numC L) (0, 0) _ (by rw [hp]) hB Try.underlying85 rfl (perm_size hs)
theorem results_perm2 {fn : Func} {p u : Tmp} (h : fn.results = #[.cell p 85, .tmp u]) {tmps : Array Value} {w : World} {B : Nat} {L : List Int} {v : Value}
    (hp : tmps.getD p undef = .pointer (some ⟨B, 0, none⟩)) (hB : HeldB w B 85 (numC L)) (hs : L.length = 7) (hv : tmps.getD u undef = v) :
    (results fn tmps).run Try.prog w = .ok (.tuple #[.agg (numC L), v]) w := by
  rw [results_cell_tmp h, hp, hv]
  have hr := run_loadVar_row (P := Try.prog) w B 85 85 (numC L) (0, 0) _ hB Try.underlying85 rfl (perm_size hs)
  simp [asAddr, hr, Result.andThen]

end Go.Proofs.Ytpgcpmfemcfoaaa
