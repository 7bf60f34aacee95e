/-
  The model's plans: letters and rows. (Walks.)
-/
import Derived.Test.YtpgcpmfemcfoaaaRows
import Derived.Test.YtpgcpmfemcfoaaaRowO

namespace Go.Proofs.Ytpgcpmfemcfoaaa
open Go.RowKit

def l6B (n lo hi : Int) : Bool := decide (lo ≤ n ∧ n ≤ hi)
theorem l6B_true {n lo hi : Int} (h1 : lo ≤ n) (h2 : n ≤ hi) : l6B n lo hi = true := by simp [l6B, h1, h2]
theorem l6B_lo {n lo hi : Int} (h1 : ¬ lo ≤ n) : l6B n lo hi = false := by simp [l6B, h1]
theorem l6B_hi {n lo hi : Int} (h1 : ¬ n ≤ hi) : l6B n lo hi = false := by simp [l6B, h1]

set_option maxHeartbeats 400000 in
theorem l6In_any (n lo hi : Int) (w : World) :
    Calls Try.prog 55 #[.int .i64 n, .int .i64 lo, .int .i64 hi] w
      fun e w' => e = .returned (.bool (l6B n lo hi)) ∧ w' = w := by
  by_cases h1 : lo ≤ n
  · by_cases h2 : n ≤ hi
    · have HB := Lib.hid (l6B_true h1 h2)
      go_enter Try.func55, Try.ntmps55
      go_wp2
      go_ret
      exact ⟨ret_bool HB.out.symm, rfl⟩
    · have HB := Lib.hid (@l6B_hi n lo hi h2)
      go_enter Try.func55, Try.ntmps55
      go_wp2
      go_ret
      exact ⟨ret_bool HB.out.symm, rfl⟩
  · have HB := Lib.hid (@l6B_lo n lo hi h1)
    go_enter Try.func55, Try.ntmps55
    go_wp2
    go_ret
    exact ⟨ret_bool HB.out.symm, rfl⟩

/-- small letters alone -/
def smallB (l : List UInt8) : Bool := l.all fun c => decide (97 ≤ c.toNat ∧ c.toNat ≤ 122)
/-- a row of m small letters -/
def rowB (m : Nat) (s : ByteArray) : Bool := decide (s.size = m) && l6B s.size 1 6 && smallB s.data.toList
/-- one to six rows, each of as many small letters -/
def gridB (l : List ByteArray) : Bool := l.all (rowB (l.getD 0 ByteArray.empty).size) && l6B l.length 1 6

theorem smallB_no {l : List UInt8} {k : Nat} (h : k < l.length) (hc : ¬ (97 ≤ (l.getD k 0).toNat ∧ (l.getD k 0).toNat ≤ 122)) : smallB l = false := by
  rw [Bool.eq_false_iff]
  intro hh
  rw [smallB, List.all_eq_true] at hh
  have := hh _ (getD_mem 0 h)
  simp only [decide_eq_true_eq] at this
  exact hc this

theorem smallB_step {l : List UInt8} {k : Nat} (h : k < l.length) (hs : smallB (l.take k) = true) (hc : 97 ≤ (l.getD k 0).toNat ∧ (l.getD k 0).toNat ≤ 122) : smallB (l.take (k + 1)) = true := by
  unfold smallB at hs ⊢
  rw [take_succ_getD l k 0 h, List.all_append, hs]
  simpa using hc

theorem gridB_no {l : List ByteArray} {k : Nat} (h : k < l.length) (hr : rowB (l.getD 0 ByteArray.empty).size (l.getD k ByteArray.empty) = false) : gridB l = false := by
  rw [gridB, Bool.and_eq_false_iff]
  left
  rw [Bool.eq_false_iff]
  intro hh
  rw [List.all_eq_true] at hh
  have := hh _ (getD_mem ByteArray.empty h)
  rw [hr] at this
  exact Bool.noConfusion this

theorem rowB_size {m : Nat} {s : ByteArray} (h : ¬ s.size = m) : rowB m s = false := by unfold rowB; rw [decide_eq_false h]; rfl
theorem rowB_six {m : Nat} {s : ByteArray} (h : l6B s.size 1 6 = false) : rowB m s = false := by unfold rowB; rw [h, Bool.and_false]; rfl
theorem rowB_small {m : Nat} {s : ByteArray} (h : smallB s.data.toList = false) : rowB m s = false := by unfold rowB; rw [h, Bool.and_false]
theorem rowB_ok {m : Nat} {s : ByteArray} (h1 : s.size = m) (h2 : l6B s.size 1 6 = true) (h3 : smallB s.data.toList = true) : rowB m s = true := by unfold rowB; rw [h2, h3, decide_eq_true h1]; rfl

set_option maxHeartbeats 400000 in
theorem l1Grid_any (ao : Option Addr) (cap : Nat) (l : List ByteArray) (w : World) (hl : l.length ≤ 1048576) (hs : ∀ s ∈ l, s.size ≤ 1048576)
    (hc : CellsAt w ao (l.map Value.string)) :
    Calls Try.prog 116 #[.slice ao l.length cap] w
      fun e w' => e = .returned (.bool (gridB l)) ∧ Quiet w w' := by
  go_enter Try.func116, Try.ntmps116
  go_wp2
  go_loopw [3, 4] (fun i _ wr => ∃ (k : Nat), k ≤ l.length ∧ i = .int .i64 k ∧ Quiet w wr ∧ (∀ j, j < k → rowB (l.getD 0 ByteArray.empty).size (l.getD j ByteArray.empty) = true)) (fun i _ _ => l.length - (intOf i).toNat)
  case atStart => exact ⟨0, Nat.zero_le _, rfl, Quiet.refl w, fun j hj => by omega⟩
  case round =>
    obtain ⟨k, hk, rfl, hqw, hq⟩ := hrel
    have HQ := Lib.hid hq; clear hq
    by_cases hlt : k < l.length
    · have hcr := hqw.cells hc
      obtain ⟨b, off, rfl, hck⟩ := hcr.str k hlt
      obtain ⟨b', off', he, hc0⟩ := hcr.str 0 (by omega)
      simp only [Option.some.injEq, Addr.mk.injEq, and_true] at he
      obtain ⟨rfl, rfl⟩ := he
      rw [Nat.add_zero] at hc0
      have hsk := hs _ (getD_mem ByteArray.empty hlt)
      have HN := Lib.hid (@gridB_no l k hlt)
      have hl0 : 0 < l.length := by omega
      clear hc hcr hs
      obtain ⟨s, hse⟩ : ∃ s, s = l.getD k ByteArray.empty := ⟨_, rfl⟩
      obtain ⟨s0, hs0e⟩ : ∃ s, s = l.getD 0 ByteArray.empty := ⟨_, rfl⟩
      rw [← hse] at hck hsk HN
      rw [← hs0e] at hc0 HN HQ
      have HS := Lib.hid hse; have HS0 := Lib.hid hs0e
      clear hse hs0e
      by_cases hsz : s.size = s0.size
      · have hne : ((s.size : Int) != (s0.size : Int)) = false := by simp [hsz]
        have HSZ := Lib.hid hsz; clear hsz
        cases hb6 : l6B s.size 1 6
        · have HB6 := Lib.hid hb6
          go_wp2
          go_quiet ((go_at_call 55; exact Calls.quiet_of_same (l6In_any _ _ _ _)))
          go_wp2
          go_ret
          exact ⟨ret_bool (HN.out (rowB_six HB6.out)).symm, hqw.then nq⟩
        · have HB6 := Lib.hid hb6
          go_wp2
          go_quiet ((go_at_call 55; exact Calls.quiet_of_same (l6In_any _ _ _ _)))
          have hq2 := hqw.then nq
          go_wp2
          go_loop [4] (fun t => ∃ (j : Nat), j ≤ s.size ∧ t = .int .i64 j ∧ smallB (s.data.toList.take j) = true) (fun t => s.size - (intOf t).toNat)
          case atStart => exact ⟨0, Nat.zero_le _, rfl, rfl⟩
          case round =>
            obtain ⟨j, hj, rfl, hsm⟩ := hrel
            have HSM := Lib.hid hsm; clear hsm
            by_cases hjl : j < s.size
            · have hN := @smallB_no s.data.toList j (by rw [size_list]; exact hjl)
              have hY := @smallB_step s.data.toList j (by rw [size_list]; exact hjl)
              have hidx := at_list s j hjl
              generalize s.data.toList.getD j 0 = c at *
              have HN2 := Lib.hid hN
              have HY2 := Lib.hid hY
              clear hN hY
              by_cases h1 : 97 ≤ c.toNat
              · by_cases h2 : c.toNat ≤ 122
                · go_wp2
                  go_round
                  case rel => exact ⟨j + 1, by omega, by go_num, HY2.out HSM.out ⟨h1, h2⟩⟩
                  case measure => simp [intOf]; omega
                · go_wp2
                  go_ret
                  exact ⟨ret_bool (HN.out (rowB_small (HN2.out (by omega)))).symm, hq2⟩
              · go_wp2
                go_ret
                exact ⟨ret_bool (HN.out (rowB_small (HN2.out (by omega)))).symm, hq2⟩
            · have hfin : rowB s0.size s = true := rowB_ok HSZ.out HB6.out (by have := HSM.out; rwa [List.take_of_length_le (by rw [size_list]; omega)] at this)
              have HF := Lib.hid hfin; clear hfin
              go_wp2
              go_roundw
              case rel => exact ⟨k + 1, by omega, by go_num, hq2, by rw [← HS0.out]; exact rows_step (P := fun j => rowB s0.size (l.getD j ByteArray.empty) = true) HQ.out (by show rowB s0.size (l.getD k ByteArray.empty) = true; rw [← HS.out]; exact HF.out)⟩
              case measure => simp [intOf]; omega
      · have hne : ((s.size : Int) != (s0.size : Int)) = true := by simp; omega
        have HSZ := Lib.hid hsz; clear hsz
        go_wp2
        go_quiet ((go_at_call 55; exact Calls.quiet_of_same (l6In_any _ _ _ _)))
        go_wp2
        go_ret
        exact ⟨ret_bool (HN.out (rowB_size HSZ.out)).symm, hqw.then nq⟩
    · have hg : gridB l = l6B l.length 1 6 := by
        unfold gridB
        rw [(List.all_eq_true).2, Bool.true_and]
        intro x hx
        obtain ⟨j, hj, rfl⟩ := List.getElem_of_mem hx
        have := HQ.out j (by omega)
        simpa [hj] using this
      have HG := Lib.hid hg; clear hg hs hc
      go_wp2_with (go_at_call 55; refine (l6In_any _ _ _ _).mono ?_; rintro e w1 ⟨rfl, rfl⟩)
      go_ret
      exact ⟨ret_bool HG.out.symm, hqw⟩

end Go.Proofs.Ytpgcpmfemcfoaaa
