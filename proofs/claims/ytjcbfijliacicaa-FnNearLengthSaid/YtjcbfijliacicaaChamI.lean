
/-
  Where a room has the link to another one. (Walks.)
-/
import Derived.Test.YtjcbfijliacicaaInsK
import Derived.Test.YtjcbfijliacicaaLong
namespace Go.Proofs.Ytjcbfijliacicaa
open Go.RowKit

theorem lnk_range {w : World} {ao : Option Addr} {Q : Nat} {L : List (Nat × Nat)} (h : CellsAt w ao (lnkC Q L)) {i : Nat} (hi : i < L.length) : ∃ b off, ao = some ⟨b, off, none⟩ ∧ w.rangeAt b (off + i * 2) (lnkC1 Q (L.getD i (0, 0))) := by
  obtain ⟨b, off, rfl, _⟩ := h (i * 2 + 0) _ ((lnkC_at Q L i 0 hi (by omega)).trans rfl)
  refine ⟨b, off, rfl, fun j v hv => ?_⟩
  have hj : j < 2 := by
    have := (List.getElem?_eq_some_iff.1 hv).1
    simpa [lnkC1] using this
  obtain ⟨b', off', he, hc⟩ := h (i * 2 + j) v (by rw [lnkC_at Q L i j hi hj, ← hv])
  simp only [Option.some.injEq, Addr.mk.injEq, and_true] at he
  obtain ⟨rfl, rfl⟩ := he
  rw [show off + i * 2 + j = off + (i * 2 + j) from by omega]
  exact hc

theorem wpList_load_mid_guard {P : Program} {ops : Array Oper} {rest : List Oper} {o : Oper} {a : Act} {w : World} {Q : Exit → Act → World → Prop} (hw : Region.wanted o (yielded ops a.tmps) = true) (ty : TypeId) (x : Operand) (ho : o.op = .load ty x)
    (b off : Nat) (hx : a.eval x = .pointer (some ⟨b, off, none⟩)) (cs : List Value) (d : TypeDesc) (hc : w.rangeAt b off cs)
    (hu : P.underlying ty = some d) (hd : d.isRow = true) (hi : (P.info? ty).map (·.size) = some cs.length)
    (h : wpList P ops Q rest (a.put o.dst (.agg cs.toArray)) w) : wpList P ops Q (o :: rest) a w :=
  wpList_step fun K hK => by
    rw [if_pos hw]
    unfold Oper.wp execOp
    simp only [ho, hx, Instr.loadAt, Instr.sureAddr, Sem.run_bind, Sem.run_pure, Result.andThen_ok, run_loadVar_mid w b off ty cs d hc hu hd hi]
    exact hK _ _ h

set_option maxRecDepth 100000 in
set_option maxHeartbeats 1000000 in
theorem lead_any (Q x m b : Nat) (w : World) (hx : w.cell? ⟨Q + x, 0, none⟩ = some (.int .i64 (x : Nat))) :
    Calls Try.prog 98 #[.agg (lnkC1 Q (x, m)).toArray, .int .i64 b] w fun e w' => e = .returned (.int .i64 (cmpI x b)) ∧ Below w.heap.size w w' := by
  have hb := HeldB.new w 92 (lnkC1 Q (x, m)).toArray
  have c0 : (w.alloc (.cells (lnkC1 Q (x, m)).toArray 92)).cell? ⟨w.heap.size, 0, none⟩ = some (.pointer (some ⟨Q + x, 0, none⟩)) := (hb.cell 0).trans rfl
  have cx : (w.alloc (.cells (lnkC1 Q (x, m)).toArray 92)).cell? ⟨Q + x, 0, none⟩ = some (.int .i64 (x : Nat)) := cell_below hx (below_alloc w _)
  have hB := below_alloc w (.cells (lnkC1 Q (x, m)).toArray 92)
  generalize (lnkC1 Q (x, m)).toArray = C at *
  clear hb
  go_enter Try.func98, Try.ntmps98
  go_wp2_with (go_at_call 99; refine (compare_any _ _ _).mono ?_; rintro e w1 ⟨rfl, rfl⟩)
  go_ret
  exact ⟨rfl, hB⟩

def rms (w : World) (Q : Nat) (L : List (Nat × Nat)) : Prop := ∀ x ∈ L, w.cell? ⟨Q + x.1, 0, none⟩ = some (.int .i64 (x.1 : Nat))
theorem rms.below {w w' : World} {Q : Nat} {L : List (Nat × Nat)} (h : rms w Q L) (hb : Below w.heap.size w w') : rms w' Q L := fun x hx => cell_below (h x hx) hb

set_option maxRecDepth 100000 in
set_option maxHeartbeats 4000000 in
theorem search_any (Q : Nat) (ro : Option Addr) (rc : Nat) (L : List (Nat × Nat)) (b i : Nat) (w : World) (hl : L.length ≤ 1000) (hi : i ≤ L.length) (h1 : ∀ j, j < i → (L.getD j (0, 0)).1 < b) (h2 : ∀ j, i ≤ j → j < L.length → b ≤ (L.getD j (0, 0)).1)
    (hc : CellsAt w ro (lnkC Q L)) (hq : rms w Q L) :
    Calls Try.prog 97 #[.slice ro L.length rc, .int .i64 b, .func (.func 98) #[] #[]] w
      fun e w' => e = .returned (.tuple #[.int .i64 (i : Nat), .bool (decide (i < L.length) && decide ((L.getD i (0, 0)).1 = b))]) ∧ Below w.heap.size w w' := by
  have eg := enters_of Try.func98 (by kernel_rfl) rfl
  have HC := Lib.hid hc
  have HQ := Lib.hid hq
  have H1 := Lib.hid h1
  have H2 := Lib.hid h2
  clear hc hq h1 h2
  obtain ⟨R, hR⟩ : ∃ R, (decide (i < L.length) && decide ((L.getD i (0, 0)).1 = b)) = R := ⟨_, rfl⟩
  rw [hR]
  have HR := Lib.hid hR
  clear hR
  go_enter Try.func97, Try.ntmps97
  go_wp2
  go_loopw [9, 10] (fun v9 v10 wr => ∃ lo hi' : Nat, v9 = .int .i64 lo ∧ v10 = .int .i64 hi' ∧ lo ≤ i ∧ i ≤ hi' ∧ hi' ≤ L.length ∧ Below w.heap.size w wr) (fun v9 v10 _ => (intOf v10).toNat - (intOf v9).toNat)
  case atStart => exact ⟨0, L.length, rfl, rfl, Nat.zero_le _, hi, Nat.le_refl _, Below.refl _ _⟩
  case round =>
    obtain ⟨lo, hi', rfl, rfl, hlo, hhi, hln, hB⟩ := hrel
    by_cases hlt : lo < hi'
    · have hlt' : decide ((lo : Int) < (hi' : Int)) = true := by rw [decide_eq_true_eq]; omega
      obtain ⟨mid, hmid⟩ : ∃ mid, mid = (lo + hi') / 2 := ⟨_, rfl⟩
      have hml : lo ≤ mid ∧ mid < hi' := by omega
      have hme : ((lo : Int) + (hi' : Int)) / 2 = (mid : Int) := by omega
      have hmL : mid < L.length := by omega
      obtain ⟨bb, off, rfl, hrg⟩ := lnk_range (HC.out.below hB) hmL
      have hin : L.getD mid (0, 0) ∈ L := getD_mem _ hmL
      have hcx := HQ.out.below hB _ hin
      have HA := Lib.hid (fun (h : mid < i) => H1.out mid h)
      have HE := Lib.hid (fun (h : i ≤ mid) => H2.out mid h hmL)
      obtain ⟨X, hX⟩ : ∃ X, L.getD mid (0, 0) = X := ⟨_, rfl⟩
      rw [hX] at hrg hcx HA HE
      obtain ⟨x, m⟩ := X
      simp only at hcx HA HE
      have hcl := lead_any Q x m b wr hcx
      have HCL := Lib.hid hcl
      have HRG := Lib.hid hrg
      clear hX hin hcx hcl hrg hmid
      by_cases hxb : x < b
      · have hmi : mid < i := by
          rcases Nat.lt_or_ge mid i with h | h
          · exact h
          · have := HE.out h; omega
        have hcm : cmpI (x : Int) (b : Int) = -1 := if_pos (by omega)
        rw [hcm] at HCL
        go_wp2_with (first
          | (refine wpList_load_mid rfl 92 _ rfl bb (off + mid * 2) rfl (lnkC1 Q (x, m)) _ HRG.out Try.underlying92 rfl Try.sizeLnk ?_)
          | (go_at_call 98; refine (HCL.out).mono ?_; rintro e w3 ⟨rfl, hb3⟩))
        go_roundw
        case rel => exact ⟨mid + 1, hi', by go_num, rfl, by omega, hhi, hln, below_step hB hB.size hb3⟩
        case measure => simp [intOf]; omega
      · have hmi : i ≤ mid := by
          rcases Nat.lt_or_ge mid i with h | h
          · have := HA.out h; omega
          · exact h
        have hcm : 0 ≤ cmpI (x : Int) (b : Int) := by unfold cmpI; rw [if_neg (by omega)]; split <;> omega
        have hcn : decide (cmpI (x : Int) (b : Int) < 0) = false := by rw [decide_eq_false_iff_not]; omega
        clear hcm
        generalize cmpI (x : Int) (b : Int) = cm at *
        go_wp2_with (first
          | (refine wpList_load_mid rfl 92 _ rfl bb (off + mid * 2) rfl (lnkC1 Q (x, m)) _ HRG.out Try.underlying92 rfl Try.sizeLnk ?_)
          | (go_at_call 98; refine (HCL.out).mono ?_; rintro e w3 ⟨rfl, hb3⟩))
        go_roundw
        case rel => exact ⟨lo, mid, rfl, rfl, hlo, hmi, by omega, below_step hB hB.size hb3⟩
        case measure => simp [intOf]; omega
    · obtain rfl : lo = i := by omega
      obtain rfl : hi' = lo := by omega
      have hlt' : decide ((hi' : Int) < (hi' : Int)) = false := by rw [decide_eq_false_iff_not]; omega
      by_cases hnl : hi' < L.length
      · have hnl' : decide ((hi' : Int) < (L.length : Int)) = true := by rw [decide_eq_true_eq]; omega
        obtain ⟨bb, off, rfl, hrg⟩ := lnk_range (HC.out.below hB) hnl
        have hin : L.getD hi' (0, 0) ∈ L := getD_mem _ hnl
        have hcx := HQ.out.below hB _ hin
        rw [decide_eq_true hnl, Bool.true_and] at HR
        obtain ⟨X, hX⟩ : ∃ X, L.getD hi' (0, 0) = X := ⟨_, rfl⟩
        rw [hX] at hrg hcx HR
        obtain ⟨x, m⟩ := X
        simp only at hcx HR
        have hcl := lead_any Q x m b wr hcx
        have HCL := Lib.hid hcl
        have HRG := Lib.hid hrg
        have hcn : (cmpI (x : Int) (b : Int) == 0) = R := by
          rw [← HR.out, Bool.eq_iff_iff, beq_iff_eq, decide_eq_true_eq]; unfold cmpI; split
          · constructor <;> intro _ <;> omega
          · split
            · constructor <;> intro _ <;> omega
            · constructor <;> intro _ <;> omega
        clear hX hin hcx hcl hrg HR hlo hhi
        generalize cmpI (x : Int) (b : Int) = cm at *
        go_wp2_with (first
          | (refine wpList_load_mid_guard rfl 92 _ rfl bb (off + hi' * 2) rfl (lnkC1 Q (x, m)) _ HRG.out Try.underlying92 rfl Try.sizeLnk ?_)
          | (go_at_call 98; refine (HCL.out).mono ?_; rintro e w3 ⟨rfl, hb3⟩))
        go_ret2
        exact ⟨rfl, below_step hB hB.size hb3⟩
      · have hnl' : decide ((hi' : Int) < (L.length : Int)) = false := by rw [decide_eq_false_iff_not]; omega
        rw [decide_eq_false hnl, Bool.false_and] at HR
        have HR2 := Lib.hid HR.out
        go_wp2
        go_ret2
        exact ⟨by rw [← HR2.out]; rfl, hB⟩

end Go.Proofs.Ytjcbfijliacicaa
