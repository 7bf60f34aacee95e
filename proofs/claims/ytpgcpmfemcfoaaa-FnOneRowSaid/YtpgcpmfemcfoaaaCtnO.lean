/-
  Merged texts: Ctn Cts.
-/
import Derived.Test.YtpgcpmfemcfoaaaTakO
import Derived.Test.YtpgcpmfemcfoaaaRowO

/-
  Plans counted by their rooms: the program. (Walks.)
-/
namespace Go.Proofs.Ytpgcpmfemcfoaaa
open Go.RowKit Go.Shelf

/-- whether all plans of a size may be asked -/
def frOk (n m : Int) : Bool := l6B n 1 6 && l6B m 1 6 && decide (n * m ≤ 9)
theorem frOk_dims {n m : Int} (h : frOk n m = true) : ∃ a b : Nat, n = (a : Int) ∧ m = (b : Int) ∧ 1 ≤ a ∧ a ≤ 6 ∧ 1 ≤ b ∧ b ≤ 6 ∧ a * b ≤ 9 := by
  unfold frOk l6B at h
  simp only [Bool.and_eq_true, decide_eq_true_eq] at h
  obtain ⟨⟨h1, h2⟩, h3⟩ := h
  obtain ⟨a, rfl⟩ := Int.eq_ofNat_of_zero_le (show 0 ≤ n by omega)
  obtain ⟨b, rfl⟩ := Int.eq_ofNat_of_zero_le (show 0 ≤ m by omega)
  exact ⟨a, b, rfl, rfl, by omega, by omega, by omega, by omega, by exact_mod_cast h3⟩
def frC (n m : Int) : Array Value := if frOk n m = true then #[.int .i64 n, .int .i64 m] else #[.int .i64 0, .int .i64 0]
set_option maxRecDepth 100000 in
theorem readFrame_any (n m : Int) (w : World) : Calls Try.prog 50 #[.int .i64 n, .int .i64 m] w
    fun e w' => e = .returned (.tuple #[.agg (frC n m), .bool (frOk n m)]) ∧ Below w.heap.size w w' := by
  have hb := fun C => below_alloc w (.cells C 77)
  have fin0 : frOk n m = false → frC n m = #[.int .i64 0, .int .i64 0] := fun h => by unfold frC; rw [h]; rfl
  by_cases h0 : n < 1
  · have hno : frOk n m = false := by unfold frOk l6B; simp; omega
    have hd0 : decide (n < 1) = true := decide_eq_true h0
    rw [fin0 hno, hno]
    clear fin0 hno
    go_enter Try.func50, Try.ntmps50
    go_wp2
    refine bodyPost_ret (v := .tuple #[.agg #[.int .i64 0, .int .i64 0], .bool false]) (by simp [results, Try.results50, go_sem]) rfl ⟨rfl, ?_⟩
    exact hb _
  have hd0 : decide (n < 1) = false := decide_eq_false h0
  by_cases h1 : n > 6
  · have hno : frOk n m = false := by unfold frOk l6B; simp; omega
    have hd1 : decide (n > 6) = true := decide_eq_true h1
    rw [fin0 hno, hno]
    clear fin0 hno
    go_enter Try.func50, Try.ntmps50
    go_wp2
    refine bodyPost_ret (v := .tuple #[.agg #[.int .i64 0, .int .i64 0], .bool false]) (by simp [results, Try.results50, go_sem]) rfl ⟨rfl, ?_⟩
    exact hb _
  have hd1 : decide (n > 6) = false := decide_eq_false h1
  by_cases h2 : m < 1
  · have hno : frOk n m = false := by unfold frOk l6B; simp; omega
    have hd2 : decide (m < 1) = true := decide_eq_true h2
    rw [fin0 hno, hno]
    clear fin0 hno
    go_enter Try.func50, Try.ntmps50
    go_wp2
    refine bodyPost_ret (v := .tuple #[.agg #[.int .i64 0, .int .i64 0], .bool false]) (by simp [results, Try.results50, go_sem]) rfl ⟨rfl, ?_⟩
    exact hb _
  have hd2 : decide (m < 1) = false := decide_eq_false h2
  by_cases h3 : m > 6
  · have hno : frOk n m = false := by unfold frOk l6B; simp; omega
    have hd3 : decide (m > 6) = true := decide_eq_true h3
    rw [fin0 hno, hno]
    clear fin0 hno
    go_enter Try.func50, Try.ntmps50
    go_wp2
    refine bodyPost_ret (v := .tuple #[.agg #[.int .i64 0, .int .i64 0], .bool false]) (by simp [results, Try.results50, go_sem]) rfl ⟨rfl, ?_⟩
    exact hb _
  have hd3 : decide (m > 6) = false := decide_eq_false h3
  obtain ⟨a, rfl⟩ := Int.eq_ofNat_of_zero_le (show 0 ≤ n by omega)
  obtain ⟨b, rfl⟩ := Int.eq_ofNat_of_zero_le (show 0 ≤ m by omega)
  have ha : a ≤ 6 := by omega
  have hb' : b ≤ 6 := by omega
  have hm36 : a * b ≤ 36 := Nat.mul_le_mul ha hb'
  have hmc : ((a * b : Nat) : Int) = (a : Int) * (b : Int) := Int.natCast_mul _ _
  by_cases h9 : a * b ≤ 9
  · have hyes : frOk (a : Int) (b : Int) = true := by unfold frOk l6B; simp; omega
    have fin1 : frC (a : Int) (b : Int) = #[.int .i64 (a : Int), .int .i64 (b : Int)] := by unfold frC; rw [hyes]; rfl
    have hd9 : decide ((a : Int) * (b : Int) > 9) = false := by rw [decide_eq_false_iff_not]; omega
    rw [fin1, hyes]
    clear fin0 fin1 hyes hmc h9
    go_enter Try.func50, Try.ntmps50
    go_wp2
    refine bodyPost_ret (v := .tuple #[.agg #[.int .i64 (a : Int), .int .i64 (b : Int)], .bool true]) (by simp [results, Try.results50, go_sem]) rfl ⟨rfl, ?_⟩
    exact hb _
  · have hno : frOk (a : Int) (b : Int) = false := by unfold frOk l6B; simp; omega
    have hd9 : decide ((a : Int) * (b : Int) > 9) = true := by rw [decide_eq_true_eq]; omega
    rw [fin0 hno, hno]
    clear fin0 hno hmc h9
    go_enter Try.func50, Try.ntmps50
    go_wp2
    refine bodyPost_ret (v := .tuple #[.agg #[.int .i64 0, .int .i64 0], .bool false]) (by simp [results, Try.results50, go_sem]) rfl ⟨rfl, ?_⟩
    exact hb _

theorem frOk_of {h wd : Nat} (d1 : 1 ≤ h) (d6 : h ≤ 6) (e1 : 1 ≤ wd) (e6 : wd ≤ 6) (h9 : h * wd ≤ 9) : frOk (h : Int) (wd : Int) = true ∧ frC (h : Int) (wd : Int) = #[.int .i64 (h : Int), .int .i64 (wd : Int)] := by
  have hmc : ((h * wd : Nat) : Int) = (h : Int) * (wd : Int) := Int.natCast_mul _ _
  have : frOk (h : Int) (wd : Int) = true := by unfold frOk l6B; simp; omega
  exact ⟨this, by unfold frC; rw [this]; rfl⟩

end Go.Proofs.Ytpgcpmfemcfoaaa

/-
  Plans counted by their rooms: the model. (Walks.)
-/
namespace Go.Proofs.Ytpgcpmfemcfoaaa
open Go.RowKit

set_option maxRecDepth 100000 in
theorem l10Given_any (n m : Int) (w : World) : Calls Try.prog 45 #[.int .i64 n, .int .i64 m] w fun e w' => e = .returned (.bool (frOk n m)) ∧ w' = w := by
  have HL := Lib.hid (fun a w => l6In_any a 1 6 w)
  unfold frOk
  cases h1 : l6B n 1 6
  · have H1 := Lib.hid (fun w => by have := HL.out n w; rw [h1] at this; exact this)
    rw [Bool.false_and, Bool.false_and]
    clear HL h1
    go_enter Try.func45, Try.ntmps45
    go_wp2_with (go_at_call 55; refine (H1.out _).mono ?_; rintro e w1 ⟨rfl, rfl⟩)
    go_ret
    exact ⟨rfl, rfl⟩
  · cases h2 : l6B m 1 6
    · by_cases hnm : n = m
      · subst hnm; rw [h1] at h2; cases h2
      have H1 := Lib.hid (fun w => by have := HL.out n w; rw [h1] at this; exact this)
      have H2 := Lib.hid (fun w => by have := HL.out m w; rw [h2] at this; exact this)
      rw [Bool.and_false, Bool.false_and]
      clear HL h1 h2
      go_enter Try.func45, Try.ntmps45
      go_wp2_with fail
      refine (H1.out _).mono ?_
      rintro e w1 ⟨rfl, rfl⟩
      go_wp2_with fail
      refine (H2.out _).mono ?_
      rintro e w1 ⟨rfl, rfl⟩
      go_wp2
      go_ret
      exact ⟨rfl, rfl⟩
    · have H1 := Lib.hid (fun w => by have := HL.out n w; rw [h1] at this; exact this)
      have H2 := Lib.hid (fun w => by have := HL.out m w; rw [h2] at this; exact this)
      unfold l6B at h1 h2
      simp [decide_eq_true_eq] at h1 h2
      obtain ⟨a, rfl⟩ := Int.eq_ofNat_of_zero_le (show 0 ≤ n by omega)
      obtain ⟨b, rfl⟩ := Int.eq_ofNat_of_zero_le (show 0 ≤ m by omega)
      have ha : a ≤ 6 := by omega
      have hb' : b ≤ 6 := by omega
      have hm36 : a * b ≤ 36 := Nat.mul_le_mul ha hb'
      rw [Bool.true_and, Bool.true_and]
      have HD := Lib.hid (show decide ((a : Int) * (b : Int) ≤ 9) = decide ((a : Int) * (b : Int) ≤ 9) from rfl)
      clear HL h1 h2
      go_enter Try.func45, Try.ntmps45
      go_wp2_with fail
      refine (H1.out _).mono ?_
      rintro e w1 ⟨rfl, rfl⟩
      go_wp2_with fail
      refine (H2.out _).mono ?_
      rintro e w1 ⟨rfl, rfl⟩
      go_wp2
      go_ret
      exact ⟨rfl, rfl⟩

/-- a list of all plans stays where a number elsewhere is stored -/
theorem AllAt.put {w : World} {g : Nat} {us : List Value} {h wd G k : Nat} {S : Array Value} (A : AllAt w g us h wd) (hG : HeldB w G 3 S) (hne : g ≠ G) (v : Value) : AllAt (w.setCell ⟨G, k, none⟩ v) g us h wd := by
  refine ⟨fun i u hu => ?_, A.plans.kept fun b cur hb => ?_⟩
  · obtain ⟨b, off, e, hc⟩ := A.cells i u hu
    cases e
    exact ⟨g, 0, rfl, by rw [← hc]; exact World.cell?_setCell_other _ _ _ _ (by intro e; cases e; exact hne rfl)⟩
  · refine Below.heap_setCell w ⟨G, k, none⟩ v b (fun e => ?_)
    simp only at e
    subst e
    rw [show w.heap[b]? = _ from hG] at hb
    simp at hb

end Go.Proofs.Ytpgcpmfemcfoaaa
