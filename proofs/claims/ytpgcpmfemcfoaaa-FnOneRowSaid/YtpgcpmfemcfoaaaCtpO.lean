/-
  Permutations as keys of a map that counts. (Memory.)
-/
import Derived.Test.YtpgcpmfemcfoaaaTakO
import Derived.Test.YtpgcpmfemcfoaaaSevRO

namespace Go.Proofs.Ytpgcpmfemcfoaaa
open Go.RowKit
open Go.Maps (Keyed)

set_option maxRecDepth 100000 in
theorem perm_law : WideMaps.KeyLaw Try.prog 85 := deep_law_laid (m := 3) (by kernel_rfl) (by decide) (of_decide_eq_true (by kernel_rfl)) (by kernel_rfl) (by kernel_rfl)
def encQ (x : List Int) : Value := .agg (numC (padL x))
def litQ (x : List Int) : Lit := .string (keyBytes ((padL x).map (Lit.int .i64)))
def domQ (x : List Int) : Prop := isP x = true
theorem Try.permU : Try.prog.underlying 85 = some (.array 7 3) := by kernel_rfl
theorem Try.permC : Try.prog.cellsOf 85 = 7 := by kernel_rfl
theorem Try.intC1 : Try.prog.cellsOf 3 = 1 := by kernel_rfl
theorem Try.permK : Try.prog.keyType 85 = true := by kernel_rfl
theorem keyLit_int (d : Nat) {a : Int} (h : (Lit.int .i64 a).wf = true) : Try.prog.keyLits (d + 1) 3 [.int .i64 a] = some [.int .i64 a] := by
  simp [Program.keyLits, Try.underlying3, h]
set_option maxRecDepth 100000 in
theorem keyLits_perm (d : Nat) {a0 a1 a2 a3 a4 a5 a6 : Int} (ha0 : (Lit.int .i64 a0).wf = true) (ha1 : (Lit.int .i64 a1).wf = true) (ha2 : (Lit.int .i64 a2).wf = true) (ha3 : (Lit.int .i64 a3).wf = true) (ha4 : (Lit.int .i64 a4).wf = true) (ha5 : (Lit.int .i64 a5).wf = true) (ha6 : (Lit.int .i64 a6).wf = true) : Try.prog.keyLits (d + 1 + 1) 85 [.int .i64 a0, .int .i64 a1, .int .i64 a2, .int .i64 a3, .int .i64 a4, .int .i64 a5, .int .i64 a6] = some [.int .i64 a0, .int .i64 a1, .int .i64 a2, .int .i64 a3, .int .i64 a4, .int .i64 a5, .int .i64 a6] := by
  unfold Program.keyLits
  rw [Try.permU]
  simp only [Try.permC, Try.intC1, List.length_cons, List.length_nil, Nat.reduceAdd, if_true]
  simp [List.range, List.range.loop, keyLit_int d ha0, keyLit_int d ha1, keyLit_int d ha2, keyLit_int d ha3, keyLit_int d ha4, keyLit_int d ha5, keyLit_int d ha6]
set_option maxRecDepth 100000 in
theorem keyOf_perm {L : List Int} (h7 : L.length = 7) (hw : ∀ x ∈ L, (Lit.int .i64 x).wf = true) : keyOf Try.prog 85 (.agg (numC L)) = some (.string (keyBytes (L.map (Lit.int .i64)))) := by
  match L, h7 with
  | [a0, a1, a2, a3, a4, a5, a6], _ =>
    have hs : Try.prog.types.size + 1 = (Try.prog.types.size - 1) + 1 + 1 := by
      have : decide (1 ≤ Try.prog.types.size) = true := by kernel_rfl
      rw [decide_eq_true_eq] at this
      omega
    unfold keyOf
    simp only [Try.permU, Try.permK, hs]
    have hf : (Value.agg (numC [a0, a1, a2, a3, a4, a5, a6])).formed Try.prog 85 = true := by
      unfold Value.formed
      simp only [Try.permU, Try.permC]
      rfl
    have hk := keyLits_perm (Try.prog.types.size - 1) (hw a0 (by simp)) (hw a1 (by simp)) (hw a2 (by simp)) (hw a3 (by simp)) (hw a4 (by simp)) (hw a5 (by simp)) (hw a6 (by simp))
    rw [hf]
    simp only [Bool.and_self, if_true]
    rw [show (Value.agg (numC [a0, a1, a2, a3, a4, a5, a6])).cells.toList = [Value.int .i64 a0, Value.int .i64 a1, Value.int .i64 a2, Value.int .i64 a3, Value.int .i64 a4, Value.int .i64 a5, Value.int .i64 a6] from rfl, hk]
    rfl
theorem padL_wf {x : List Int} (h : isP x = true) : ∀ y ∈ padL x, (Lit.int .i64 y).wf = true := fun y hy => by
  have F := isP_few h
  have hb : 0 ≤ y ∧ y ≤ 7 := by
    unfold padL at hy
    rw [List.mem_append] at hy
    rcases hy with hy | hy
    · obtain ⟨z, hz, rfl⟩ := List.mem_map.1 hy
      have := F.low z hz
      have := F.len
      omega
    · have := List.eq_of_mem_replicate hy
      omega
  obtain ⟨n, rfl⟩ := Int.eq_ofNat_of_zero_le hb.1
  exact int_wfT (by omega)
theorem key_perm : KeySp 85 82 encQ litQ domQ where
  keyed := Keyed.of_law perm_law
  und := by kernel_rfl
  key := fun x hx => keyOf_perm (padL_len (isP_few hx).len) (padL_wf hx)
  enc_inj := fun x y hx hy h => by
    unfold encQ numC at h
    simp only [Value.agg.injEq, Array.mk.injEq] at h
    have := List.map_inj_right (fun a b (e : Value.int .i64 a = Value.int .i64 b) => by simpa using e) |>.1 h
    exact padL_inj (fun u hu => ((isP_few hx).low u hu).1) (fun u hu => ((isP_few hy).low u hu).1) this
end Go.Proofs.Ytpgcpmfemcfoaaa
