
/-
  The least number of colours, and the first list: the model's answers. (Walks.)
-/
import Derived.Test.YtgiikdcjigcnlaaColS

namespace Go.Proofs.Ytgiikdcjigcnlaa
open Go.RowKit

theorem gridR_pos {p : List ByteArray} (h : planB p = true) : 0 < gridR p := by
  have hg := (planP_of h).grid
  have := grid_room h (i := 0) (j := 0) (by have := hg.h1; omega) (by have := hg.w1; omega)
  omega
/-- the least number of colours, and the first list -/
def leastP (p : List ByteArray) : Nat × List Nat := leastC (nearB p) (gridR p)
theorem leastP_len {p : List ByteArray} (h : planB p = true) : (leastP p).2.length = gridR p := (leastC_val (gridR_pos h)).2
theorem leastP_le {p : List ByteArray} (h : planB p = true) : 1 ≤ (leastP p).1 ∧ (leastP p).1 ≤ 9 := by
  have := leastC_is (near := nearB p) (gridR_pos h)
  have h9 := (planP_of h).few
  exact ⟨this.1, Nat.le_trans this.2.1 h9⟩

set_option maxRecDepth 100000 in
set_option maxHeartbeats 2000000 in
theorem l4Least_any (ao : Option Addr) (cap : Nat) (p : List ByteArray) (w : World) (hp : planB p = true) (hl : p.length ≤ 1048576) (hs : ∀ s ∈ p, s.size ≤ 1048576) (hc : CellsAt w ao (p.map Value.string)) :
    Calls Try.prog 29 #[.slice ao p.length cap] w
      fun e w' => ∃ ro rc, e = .returned (.tuple #[.int .i64 ((leastP p).1 : Nat), .slice ro (leastP p).2.length rc]) ∧ w'.ownsRow w.heap.size 3 1 (.slice ro (leastP p).2.length rc) (leastP p).2.length (intsN (leastP p).2) ∧ Below w.heap.size w w' := by
  have HCO := Lib.hid (fun (m : Nat) (hm : m ≤ gridR p) (base g cc : Nat) (w : World) h2 h3 h4 => l4Colour_any ao cap p m hp (Nat.le_trans hm (planP_of hp).few) hl hs (gridR p) [] base g cc w (Nat.zero_add _) h2 h3 h4)
  have HEQ := Lib.hid (fun m L h1 h h2 => show leastP p = (m, L) from leastC_eq (gridR_pos hp) h1 h h2)
  have HAL := Lib.hid (colS_all (near := nearB p) (gridR p))
  have hpos := gridR_pos hp
  have h9 := (planP_of hp).few
  have HC := Lib.hid hc
  generalize leastP p = LP at *
  generalize nearB p = near at *
  generalize gridR p = n at *
  clear hp hl hs
  generalize hf : (fun m => colS near m n []) = F at *
  have HF := Lib.hid (show ∀ m, colS near m n [] = F m by rw [← hf]; exact fun _ => rfl)
  have HCO2 := Lib.hid (fun m hm (w0 : World) (W : World) (hb : Below w0.heap.size w0 W) (hc : CellsAt W ao (p.map Value.string)) => show Calls Try.prog 44 #[.slice ao p.length cap, .slice (some ⟨W.heap.size, 0, none⟩) 0 0, .int .i64 (m : Nat)] (W.alloc (.cells #[] 3)) fun e w' => ColRet w0.heap.size (F m) e w' ∧ Below W.heap.size W w' by
    have h1 : (W.alloc (.cells #[] 3)).ownsRow w0.heap.size 3 1 (.slice (some ⟨W.heap.size, 0, none⟩) 0 0) 0 [] := World.ownsRow_made W #[] 0 hb.size (Nat.zero_le _) rfl
    have := HCO.out m hm w0.heap.size W.heap.size 0 (W.alloc (.cells #[] 3)) (by have := hb.size; simp; omega) (hc.below (below_alloc W _)) h1
    rw [HF.out] at this
    refine this.mono ?_
    rintro e w' ⟨q1, q2⟩
    exact ⟨q1, (below_alloc W _).trans (q2.mono (by simp))⟩)
  have HEQ2 := Lib.hid (fun (m : Nat) (L : List Nat) (h1 : 1 ≤ m) (h : ∀ i, 1 ≤ i → i < m → F i = none) (h2 : F m = some L) => HEQ.out m L h1 (fun i a b => by rw [HF.out]; exact h i a b) (by rw [HF.out]; exact h2))
  have HAL2 := Lib.hid (show (F n).isSome = true by rw [← HF.out]; exact HAL.out)
  clear HCO HEQ HAL HF hf
  have hn1 : (1 : Nat) ≤ n := hpos
  have H1 := Lib.hid (HCO2.out 1 hn1 w w (Below.refl _ _) hc)
  go_enter Try.func29, Try.ntmps29
  go_wp2_with fail
  refine (H1.out).mono ?_
  rintro e w1 ⟨⟨g, rc, rfl, hrow⟩, hb1⟩
  clear H1
  have HR0 := Lib.hid hrow
  clear hrow hc
  go_wp2
  go_loopw [4, 5, 6] (fun vm vl vo wr => ∃ m g rc : Nat, 1 ≤ m ∧ m ≤ n ∧ Hid (∀ i, 1 ≤ i → i < m → F i = none) ∧ vm = .int .i64 m ∧ vl = .slice (some ⟨g, 0, none⟩) ((F m).getD []).length rc ∧ vo = .bool (F m).isSome ∧ Hid (wr.ownsRow w.heap.size 3 1 (.slice (some ⟨g, 0, none⟩) ((F m).getD []).length rc) ((F m).getD []).length (intsN ((F m).getD []))) ∧ Below w.heap.size w wr) (fun vm _ _ _ => n - (intOf vm).toNat)
  case atStart => exact ⟨1, g, rc, Nat.le_refl _, hn1, Lib.hid (fun i h1 h2 => by omega), rfl, rfl, rfl, HR0, hb1⟩
  case round =>
    clear hb1 HR0
    obtain ⟨m, g, rc, hm1, hmn, HPRE, rfl, rfl, rfl, HR, hb⟩ := hrel
    cases hres : F m with
    | none =>
      have hmn2 : m + 1 ≤ n := by
        refine Nat.lt_of_le_of_ne hmn fun he => ?_
        subst he
        have := HAL2.out
        rw [hres] at this; cases this
      have HP2 := Lib.hid (show ∀ i, 1 ≤ i → i < m + 1 → F i = none from fun i h1 h2 => by
        rcases Nat.lt_succ_iff_lt_or_eq.1 h2 with h' | rfl
        · exact HPRE.out i h1 h'
        · exact hres)
      have H2 := Lib.hid (HCO2.out (m + 1) hmn2 w wr hb (HC.out.below hb))
      clear HR hres
      go_wp2_with fail
      refine (H2.out).mono ?_
      rintro e w4 ⟨⟨g4, rc4, rfl, hrow4⟩, hb4⟩
      have HR4 := Lib.hid hrow4
      have hb5 := below_step hb hb.size hb4
      clear H2 hrow4
      go_wp2
      go_roundw
      case rel => exact ⟨m + 1, g4, rc4, by omega, hmn2, HP2, by go_num, rfl, rfl, HR4, hb5⟩
      case measure => simp [intOf]; omega
    | some L =>
      have HE := Lib.hid (HEQ2.out m L hm1 HPRE.out hres)
      rw [hres] at HR
      clear hres
      go_wp2
      go_ret2
      rw [HE.out]
      exact ⟨_, _, rfl, HR.out, hb⟩

set_option maxRecDepth 100000 in
theorem specNearFirst_any (ao : Option Addr) (cap : Nat) (p : List ByteArray) (w : World) (hl : p.length ≤ 1048576) (hs : ∀ s ∈ p, s.size ≤ 1048576) (hc : CellsAt w ao (p.map Value.string)) :
    Calls Try.prog 16 #[.slice ao p.length cap] w
      fun e w' => (∃ ro rc, e = .returned (.tuple #[.slice ro (if planB p then (leastP p).2 else []).length rc, .bool (planB p)]) ∧ w'.ownsRow w.heap.size 3 1 (.slice ro (if planB p then (leastP p).2 else []).length rc) (if planB p then (leastP p).2 else []).length (intsN (if planB p then (leastP p).2 else []))) ∧ Below w.heap.size w w' := by
  have HP := Lib.hid (fun w c => specPlanIn_any ao cap p w hl hs c)
  cases hp : planB p
  · rw [hp] at HP
    rw [if_neg (by decide)]
    go_enter Try.func16, Try.ntmps16
    go_wp2_with fail
    refine (HP.out _ hc).mono ?_
    rintro e w1 ⟨rfl, hb1⟩
    go_wp2
    go_ret2
    exact ⟨⟨_, _, rfl, World.ownsRow_made w1 #[] 0 hb1.size (Nat.zero_le _) rfl⟩, below_step hb1 hb1.size (below_alloc _ _)⟩
  · have HL := Lib.hid (fun w c => l4Least_any ao cap p w hp hl hs c)
    rw [hp] at HP
    rw [if_pos rfl]
    clear hp
    generalize leastP p = L at *
    go_enter Try.func16, Try.ntmps16
    go_wp2_with fail
    refine (HP.out _ hc).mono ?_
    rintro e w1 ⟨rfl, hb1⟩
    have c1 := hc.below hb1
    go_wp2_with fail
    refine (HL.out _ c1).mono ?_
    rintro e w2 ⟨ro, rc, rfl, ow, hb2⟩
    go_wp2
    go_ret2
    exact ⟨⟨_, _, rfl, ownsRow_base ow hb1.size⟩, below_step hb1 hb1.size hb2⟩

def colsN (p : List ByteArray) : Nat := if planB p then (leastP p).1 else 0

set_option maxRecDepth 100000 in
theorem specNearColours_any (ao : Option Addr) (cap : Nat) (p : List ByteArray) (w : World) (hl : p.length ≤ 1048576) (hs : ∀ s ∈ p, s.size ≤ 1048576) (hc : CellsAt w ao (p.map Value.string)) :
    Calls Try.prog 14 #[.slice ao p.length cap] w fun e w' => e = .returned (.tuple #[.int .i64 (colsN p : Nat), .bool (planB p)]) ∧ Below w.heap.size w w' := by
  have HP := Lib.hid (fun w c => specPlanIn_any ao cap p w hl hs c)
  unfold colsN
  cases hp : planB p
  · rw [hp] at HP
    rw [if_neg (by decide)]
    go_enter Try.func14, Try.ntmps14
    go_wp2_with fail
    refine (HP.out _ hc).mono ?_
    rintro e w1 ⟨rfl, hb1⟩
    go_wp2
    go_ret2
    exact ⟨rfl, hb1⟩
  · have HL := Lib.hid (fun w c => l4Least_any ao cap p w hp hl hs c)
    rw [hp] at HP
    rw [if_pos rfl]
    clear hp
    generalize leastP p = L at *
    go_enter Try.func14, Try.ntmps14
    go_wp2_with fail
    refine (HP.out _ hc).mono ?_
    rintro e w1 ⟨rfl, hb1⟩
    have c1 := hc.below hb1
    go_wp2_with fail
    refine (HL.out _ c1).mono ?_
    rintro e w2 ⟨ro, rc, rfl, ow, hb2⟩
    go_wp2
    go_ret2
    exact ⟨rfl, below_step hb1 hb1.size hb2⟩

end Go.Proofs.Ytgiikdcjigcnlaa
