
/-
  The model's greatest numbers of pieces, its losses, its squares. (Walks.)
-/
import Derived.Test.YtfemfmkgdgcemaaShF
import Derived.Test.YtfemfmkgdgcemaaShG
namespace Go.Proofs.Ytfemfmkgdgcemaa
open Go.RowKit

theorem worthM_two (a b : Nat) : (fun x y => if x = b ∧ y = a then (1 : Int) else (fun x y => if x = a ∧ y = b then (1 : Int) else (fun _ _ => 0) x y) x y) = worthM a b := by
  funext x y
  unfold worthM
  by_cases h1 : x = b ∧ y = a
  · rw [if_pos h1, if_pos (.inr h1)]
  · rw [if_neg h1]
    by_cases h2 : x = a ∧ y = b
    · simp only [if_pos h2]; rw [if_pos (.inl h2)]
    · simp only [if_neg h2]; rw [if_neg (by omega)]
theorem worthM_bd (a b : Nat) (ha : 1 ≤ a) (hb : 1 ≤ b) (x y : Nat) (hx : x ≤ 12) (hy : y ≤ 12) : -400000 ≤ hlf (worthM a b) x y ∧ hlf (worthM a b) x y ≤ 400000 := by
  refine hlf_bd (fun w h => by have := worthM_pos a b w h; omega) (fun h => ?_) (fun w => ?_) (fun w h h1 h2 h3 h4 => (most_bd a b ha hb w h h2 h4 h1 h3).2) x y hx hy
  · unfold worthM; rw [if_neg (by omega)]; exact Int.le_refl _
  · unfold worthM; rw [if_neg (by omega)]; exact Int.le_refl _

set_option maxRecDepth 100000 in
set_option maxHeartbeats 4000000 in
theorem l9Most_any (w h a b : Nat) (hw1 : 1 ≤ w) (hw : w ≤ 12) (hh1 : 1 ≤ h) (hh : h ≤ 12) (ha1 : 1 ≤ a) (ha : a ≤ 12) (hb1 : 1 ≤ b) (hb : b ≤ 12) (W : World) :
    Calls Try.prog 32 #[.int .i64 (w : Int), .int .i64 (h : Int), .int .i64 (a : Int), .int .i64 (b : Int)] W fun e W' => e = .returned (.int .i64 (mostN a b w h)) ∧ Below W.heap.size W W' := by
  have HWO := Lib.hid (fun W => l9Worth_any W)
  have HTB := Lib.hid (fun (mo : Option Addr) (mc B0 : Nat) (W : World) (hM : RowsOwn W B0 mo mc (rowsR (worthM a b) 13)) => l9Table_any (worthM a b) (worthM_bd a b ha1 hb1) mo mc B0 W hM)
  have HV := Lib.hid (show hlf (worthM a b) w h = mostN a b w h from hlf_tab _ hw1 hh1)
  have HW2 := Lib.hid (worthM_two a b)
  generalize hlf (worthM a b) = f at *
  go_enter Try.func32, Try.ntmps32
  go_wp2_with (first
    | (go_at_call 45; refine (HWO.out _).mono ?_; rintro e w1 ⟨ro, rc, rfl, ⟨us, hus⟩, hb1⟩; clear HWO
       obtain ⟨bb, off, g1, c1, e1, r1, s1, u1, f1⟩ := hus.num (i := a) (j := b) (by omega) (by omega)
       have hp := hus.put_num (j := b) (by omega) u1 1
       have hg1 : W.heap.size ≤ g1 := (hus.lt u1 _ rfl).1
       have hb2 := hb1.setCell (p := ⟨g1, b, none⟩) hg1 (.int .i64 1)
       subst e1
       obtain ⟨bb2, off2, g2, c2, e2, r2, s2, u2, f2⟩ := hp.num (i := b) (j := a) (by omega) (by omega)
       simp only [Option.some.injEq, Addr.mk.injEq, and_true] at e2
       obtain ⟨rfl, rfl⟩ := e2
       have hp2 := hp.put_num (j := a) (by omega) u2 1
       rw [HW2.out] at hp2
       have hg2 : W.heap.size ≤ g2 := (hp.lt u2 _ rfl).1
       have hb3 := hb2.setCell (p := ⟨g2, a, none⟩) hg2 (.int .i64 1)
       clear hus hp HW2 u1 u2 hb1 hb2)
    | (go_at_call 40; refine (HTB.out _ _ _ _ ⟨us, hp2⟩).mono ?_; rintro e w5 ⟨ro5, rc5, rfl, ⟨us5, hus5⟩, hb5⟩; clear HTB
       obtain ⟨bb5, off5, g5, c5, e5, r5, s5, _, _⟩ := hus5.num (i := w) (j := h) (by omega) (by omega)
       subst e5
       clear hp2 r1 s1 r2 s2 f1 f2 hus5))
  go_ret
  exact ⟨by rw [← HV.out]; rfl, below_step hb3 hb3.size hb5⟩

set_option maxRecDepth 100000 in
set_option maxHeartbeats 4000000 in
theorem specSheetMost_any (w h a b : Int) (W : World) :
    Calls Try.prog 12 #[.int .i64 w, .int .i64 h, .int .i64 a, .int .i64 b] W fun e W' =>
      e = .returned (.tuple #[.int .i64 (mostO w h a b), .bool (shB w h && shB a b)]) ∧ Below W.heap.size W W' := by
  have H1 := Lib.hid (l9Sheet_any w h)
  have H2 := Lib.hid (l9Sheet_any a b)
  unfold mostO
  by_cases hy : shB w h = true ∧ shB a b = true
  · obtain ⟨h1, h2⟩ := hy
    rw [h1] at H1
    rw [h2] at H2
    rw [h1, h2]
    obtain ⟨w, h, rfl, rfl, hw1, hw2, hh1, hh2⟩ := shB_yes h1
    obtain ⟨a, b, rfl, rfl, ha1, ha2, hb1, hb2⟩ := shB_yes h2
    simp only [Int.toNat_natCast, Bool.and_self, if_true]
    have HM := Lib.hid (fun W => l9Most_any w h a b hw1 hw2 hh1 hh2 ha1 ha2 hb1 hb2 W)
    generalize mostN a b w h = v at *
    clear h1 h2
    go_enter Try.func12, Try.ntmps12
    go_wp2_with (first
      | (go_at_call 31; refine (H1.out _).mono ?_; rintro e w1 ⟨rfl, rfl⟩; clear H1)
      | (go_at_call 31; refine (H2.out _).mono ?_; rintro e w1 ⟨rfl, rfl⟩; clear H2)
      | (go_at_call 32; refine (HM.out _).mono ?_; rintro e w2 ⟨rfl, hb3⟩; clear HM))
    go_ret2
    exact ⟨rfl, hb3⟩
  · have hn : (shB w h && shB a b) = false := by
      cases h1 : shB w h <;> cases h2 : shB a b <;> simp_all
    rw [hn]
    simp only [Bool.false_eq_true, if_false]
    cases h1 : shB w h
    · rw [h1] at H1
      clear H2 hn hy h1
      go_enter Try.func12, Try.ntmps12
      go_wp2_with (go_at_call 31; refine (H1.out _).mono ?_; rintro e w1 ⟨rfl, rfl⟩; clear H1)
      go_ret2
      exact ⟨rfl, Below.refl _ _⟩
    · rw [h1, Bool.true_and] at hn
      rw [h1] at H1
      rw [hn] at H2
      clear hn hy h1
      go_enter Try.func12, Try.ntmps12
      go_wp2_with (first
        | (go_at_call 31; refine (H1.out _).mono ?_; rintro e w1 ⟨rfl, rfl⟩; clear H1)
        | (go_at_call 31; refine (H2.out _).mono ?_; rintro e w1 ⟨rfl, rfl⟩; clear H2))
      go_ret2
      exact ⟨rfl, Below.refl _ _⟩

set_option maxRecDepth 100000 in
set_option maxHeartbeats 4000000 in
theorem specSheetLoss_any (w h a b : Int) (W : World) :
    Calls Try.prog 18 #[.int .i64 w, .int .i64 h, .int .i64 a, .int .i64 b] W fun e W' =>
      e = .returned (.tuple #[.int .i64 (lossO w h a b), .bool (shB w h && shB a b)]) ∧ Below W.heap.size W W' := by
  have H1 := Lib.hid (l9Sheet_any w h)
  have H2 := Lib.hid (l9Sheet_any a b)
  unfold lossO
  by_cases hy : shB w h = true ∧ shB a b = true
  · obtain ⟨h1, h2⟩ := hy
    rw [h1] at H1
    rw [h2] at H2
    rw [h1, h2]
    obtain ⟨w, h, rfl, rfl, hw1, hw2, hh1, hh2⟩ := shB_yes h1
    obtain ⟨a, b, rfl, rfl, ha1, ha2, hb1, hb2⟩ := shB_yes h2
    simp only [Int.toNat_natCast, Bool.and_self, if_true]
    have HM := Lib.hid (fun W => l9Most_any w h a b hw1 hw2 hh1 hh2 ha1 ha2 hb1 hb2 W)
    obtain ⟨hv0, hv1, hv2⟩ := mostN_bd ha1 hb1 hw2 hh2 hw1 hh1
    have hwh : w * h ≤ 12 * 12 := Nat.mul_le_mul hw2 hh2
    have hv3 : 0 ≤ mostN a b w h * ((a * b : Nat) : Int) := Int.mul_nonneg hv0 (Int.natCast_nonneg _)
    generalize mostN a b w h = v at *
    have hv4 : (a : Int) * (b : Int) * v ≤ 144 := by rw [Int.mul_comm, ← Int.natCast_mul]; exact hv1
    have hv5 : 0 ≤ (a : Int) * (b : Int) * v := by rw [Int.mul_comm, ← Int.natCast_mul]; exact hv3
    have hab : (a : Int) * (b : Int) ≤ 144 := by rw [← Int.natCast_mul]; have : a * b ≤ 12 * 12 := Nat.mul_le_mul ha2 hb2; omega
    have hab0 : 0 ≤ (a : Int) * (b : Int) := by rw [← Int.natCast_mul]; omega
    have hwh2 : (w : Int) * (h : Int) ≤ 144 := by rw [← Int.natCast_mul]; omega
    have hwh0 : 0 ≤ (w : Int) * (h : Int) := by rw [← Int.natCast_mul]; omega
    have HEQ := Lib.hid (show (w : Int) * (h : Int) - (a : Int) * (b : Int) * v = (w : Int) * (h : Int) - v * ((a : Int) * (b : Int)) by rw [Int.mul_comm ((a : Int) * (b : Int)) v])
    clear h1 h2 hv1 hv3 hwh
    go_enter Try.func18, Try.ntmps18
    go_wp2_with (first
      | (go_at_call 31; refine (H1.out _).mono ?_; rintro e w1 ⟨rfl, rfl⟩; clear H1)
      | (go_at_call 31; refine (H2.out _).mono ?_; rintro e w1 ⟨rfl, rfl⟩; clear H2)
      | (go_at_call 32; refine (HM.out _).mono ?_; rintro e w2 ⟨rfl, hb3⟩; clear HM))
    rw [HEQ.out]
    go_ret2
    exact ⟨rfl, hb3⟩
  · have hn : (shB w h && shB a b) = false := by
      cases h1 : shB w h <;> cases h2 : shB a b <;> simp_all
    rw [hn]
    simp only [Bool.false_eq_true, if_false]
    cases h1 : shB w h
    · rw [h1] at H1
      clear H2 hn hy h1
      go_enter Try.func18, Try.ntmps18
      go_wp2_with (go_at_call 31; refine (H1.out _).mono ?_; rintro e w1 ⟨rfl, rfl⟩; clear H1)
      go_ret2
      exact ⟨rfl, Below.refl _ _⟩
    · rw [h1, Bool.true_and] at hn
      rw [h1] at H1
      rw [hn] at H2
      clear hn hy h1
      go_enter Try.func18, Try.ntmps18
      go_wp2_with (first
        | (go_at_call 31; refine (H1.out _).mono ?_; rintro e w1 ⟨rfl, rfl⟩; clear H1)
        | (go_at_call 31; refine (H2.out _).mono ?_; rintro e w1 ⟨rfl, rfl⟩; clear H2))
      go_ret2
      exact ⟨rfl, Below.refl _ _⟩

end Go.Proofs.Ytfemfmkgdgcemaa
