
/-
  The model's answers on names and rooms. (Walks.)
-/
import Derived.Test.YtdhnklaflbaeeaaMathE
namespace Go.Proofs.Ytdhnklaflbaeeaa
open Go.RowKit

/-- a call hands back texts of the call's own, and a word whether there are any -/
def TextsRet (base : Nat) (T : List ByteArray) (b : Bool) (e : Ending) (w' : World) : Prop :=
  ∃ ro rc, e = .returned (.tuple #[.slice ro T.length rc, .bool b]) ∧ w'.ownsRow base 9 1 (.slice ro T.length rc) T.length (T.map Value.string)

/-- the texts of what a change comes to -/
def orNone (b : Bool) (T : List ByteArray) : List ByteArray := if b then T else []
theorem orNone_yes {b : Bool} {T : List ByteArray} (h : b = true) : orNone b T = T := by rw [h]; rfl
theorem orNone_no {b : Bool} {T : List ByteArray} (h : b = false) : orNone b T = [] := by rw [h]; rfl

theorem l1None_any (w : World) : Calls Try.prog 98 #[] w fun e w' => TextsRet w.heap.size [] false e w' ∧ Below w.heap.size w w' := by
  have ho : (w.alloc (.cells #[] 9)).ownsRow w.heap.size 9 1 (.slice (some ⟨w.heap.size, 0, none⟩) 0 0) 0 (([] : List ByteArray).map Value.string) := World.ownsRow_made w #[] 0 (Nat.le_refl _) (Nat.zero_le _) rfl
  go_enter Try.func98, Try.ntmps98
  go_wp2
  go_ret2
  exact ⟨⟨_, _, rfl, ho⟩, below_alloc _ _⟩

theorem names_size {p : List ByteArray} {n : Nat} (hs : ∀ s ∈ p, s.size ≤ n) : ∀ s ∈ namesB p, s.size ≤ n := fun s h => by
  unfold namesB at h
  rw [List.mem_map] at h
  obtain ⟨t, ht, rfl⟩ := h
  rw [← size_list]
  unfold namesL
  simp only [List.length_map]
  rw [size_list]
  exact hs t ht

set_option maxHeartbeats 1000000 in
theorem l1Done_any (ao : Option Addr) (cap n : Nat) (p : List ByteArray) (w : World) (hn : p.length = n) (hl : p.length ≤ 1048576) (hs : ∀ s ∈ p, s.size ≤ 1048576) (hc : CellsAt w ao (p.map Value.string)) :
    Calls Try.prog 91 #[.slice ao n cap] w fun e w' => TextsRet w.heap.size (orNone (doneB p) (namesB p)) (doneB p) e w' ∧ Below w.heap.size w w' := by
  subst hn
  cases hg : gridB p
  · have hd : doneB p = false := by unfold doneB; rw [hg]; rfl
    rw [orNone_no hd, hd]
    go_enter Try.func91, Try.ntmps91
    go_wp2_with (first
      | (go_at_call 78; refine (l1Grid_any _ _ _ _ hl hs hc).mono ?_; rw [hg]; rintro e w1 ⟨rfl, hq1⟩)
      | (go_at_call 98; refine (l1None_any _).mono ?_; rintro e w2 ⟨⟨ro, rc, rfl, hown2⟩, hb2⟩))
    go_ret2
    exact ⟨⟨_, _, rfl, ownsRow_base hown2 (by rw [hq1.size]; exact Nat.le_refl _)⟩, (hq1.below _).trans (hb2.mono (by rw [hq1.size]; exact Nat.le_refl _))⟩
  · have hdim := gridB_len hg
    have hrow := gridB_row hg
    have hs6 : ∀ s ∈ p, s.size ≤ 6 := fun s h => (hrow s h).2.2.1
    have hl6 := hdim.2
    have hnl : (namesB p).length ≤ 1048576 := by rw [namesB_len]; omega
    have hns : ∀ s ∈ namesB p, s.size ≤ 1048576 := fun s h => Nat.le_trans (names_size hs6 s h) (by omega)
    have HSP := Lib.hid (fun (ao : Option Addr) (cap : Nat) (w : World) (h : CellsAt w ao ((namesB p).map Value.string)) => specPlanIn_any ao cap (namesB p) w hnl hns h)
    rw [namesB_len] at HSP
    have hde : doneB p = planB (namesB p) := by unfold doneB; rw [hg, Bool.true_and]
    clear hnl hns hrow
    cases hp : planB (namesB p)
    · rw [hp] at hde HSP
      rw [orNone_no hde, hde]
      go_enter Try.func91, Try.ntmps91
      go_wp2_with (first
        | (go_at_call 78; refine (l1Grid_any _ _ _ _ hl hs hc).mono ?_; rw [hg]; rintro e w1 ⟨rfl, hq1⟩; have hc1 := hq1.cells hc)
        | (go_at_call 80; refine (l1Names_any _ _ _ _ hl6 hs6 hc1).mono ?_; rintro e w2 ⟨ro, rc, rfl, hown2, hb2⟩; have hcn := owns_cells hown2)
        | (go_at_call 21; refine (HSP.out _ _ _ hcn).mono ?_; rintro e w3 ⟨rfl, hb3⟩)
        | (go_at_call 98; refine (l1None_any _).mono ?_; rintro e w4 ⟨⟨ro4, rc4, rfl, hown4⟩, hb4⟩))
      have hq1s := hq1.size
      have h13 : Below w.heap.size w w3 := (hq1.below _).trans ((below_step hb2 hb2.size hb3).mono (by omega))
      go_ret2
      exact ⟨⟨_, _, rfl, ownsRow_base hown4 h13.size⟩, below_step h13 h13.size hb4⟩
    · rw [hp] at hde HSP
      rw [orNone_yes hde, hde]
      go_enter Try.func91, Try.ntmps91
      go_wp2_with fail
      refine (l1Grid_any _ _ _ _ hl hs hc).mono ?_
      rw [hg]
      rintro e w1 ⟨rfl, hq1⟩
      have hc1 := hq1.cells hc
      go_wp2_with fail
      refine (l1Names_any _ _ _ _ hl6 hs6 hc1).mono ?_
      rintro e w2 ⟨ro, rc, rfl, hown2, hb2⟩
      have hcn := owns_cells hown2
      have hc2 := hc1.below hb2
      go_wp2_with fail
      refine (HSP.out _ _ _ hcn).mono ?_
      rintro e w3 ⟨rfl, hb3⟩
      have hc3 := hc2.below hb3
      go_wp2_with fail
      refine (l1Names_any _ _ _ _ hl6 hs6 hc3).mono ?_
      rintro e w4 ⟨ro4, rc4, rfl, hown4, hb4⟩
      go_wp2
      have hq1s := hq1.size
      have h13 : Below w.heap.size w w3 := (hq1.below _).trans ((below_step hb2 hb2.size hb3).mono (by omega))
      go_ret2
      exact ⟨⟨ro4, rc4, by rw [namesB_len]; rfl, by rw [namesB_len]; exact ownsRow_base hown4 h13.size⟩, below_step h13 h13.size hb4⟩

theorem specPlanName_any (ao : Option Addr) (cap : Nat) (p : List ByteArray) (w : World) (hl : p.length ≤ 1048576) (hs : ∀ s ∈ p, s.size ≤ 1048576) (hc : CellsAt w ao (p.map Value.string)) :
    Calls Try.prog 27 #[.slice ao p.length cap] w fun e w' => TextsRet w.heap.size (orNone (doneB p) (namesB p)) (doneB p) e w' ∧ Below w.heap.size w w' := by
  go_enter Try.func27, Try.ntmps27
  go_wp2_with (go_at_call 91; refine (l1Done_any _ _ _ _ _ rfl hl hs hc).mono ?_; rintro e w1 ⟨⟨ro, rc, rfl, hown1⟩, hb1⟩)
  go_ret2
  exact ⟨⟨_, _, rfl, hown1⟩, hb1⟩

end Go.Proofs.Ytdhnklaflbaeeaa
