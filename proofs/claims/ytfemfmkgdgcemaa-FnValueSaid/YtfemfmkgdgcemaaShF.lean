
/-
  The program's greatest numbers of pieces, and its losses. (Walks.)
-/
import Derived.Test.YtfemfmkgdgcemaaShE
namespace Go.Proofs.Ytfemfmkgdgcemaa
open Go.RowKit

theorem most_bd (a b : Nat) (ha : 1 ≤ a) (hb : 1 ≤ b) (x y : Nat) (hx : x ≤ 12) (hy : y ≤ 12) (hx1 : 1 ≤ x) (hy1 : 1 ≤ y) : -400000 ≤ tabC opG (worthM a b) x y ∧ tabC opG (worthM a b) x y ≤ 400000 := by
  have h1 : 0 ≤ tabC opG (worthM a b) x y := mostN_pos hx1 hy1
  have h2 : tabC opG (worthM a b) x y * ((a * b : Nat) : Int) ≤ ((x * y : Nat) : Int) := mostN_le ha hb hx1 hy1
  have h3 : x * y ≤ 12 * 12 := Nat.mul_le_mul hx hy
  have h4 : 1 ≤ a * b := Nat.mul_pos ha hb
  have h5 : tabC opG (worthM a b) x y * 1 ≤ tabC opG (worthM a b) x y * ((a * b : Nat) : Int) := Int.mul_le_mul_of_nonneg_left (by omega) h1
  omega
theorem mostN_bd {a b x y : Nat} (ha : 1 ≤ a) (hb : 1 ≤ b) (hx : x ≤ 12) (hy : y ≤ 12) (hx1 : 1 ≤ x) (hy1 : 1 ≤ y) : 0 ≤ mostN a b x y ∧ mostN a b x y * ((a * b : Nat) : Int) ≤ 144 ∧ mostN a b x y ≤ 144 := by
  have h1 : 0 ≤ mostN a b x y := mostN_pos hx1 hy1
  have h2 : mostN a b x y * ((a * b : Nat) : Int) ≤ ((x * y : Nat) : Int) := mostN_le ha hb hx1 hy1
  have h3 : x * y ≤ 12 * 12 := Nat.mul_le_mul hx hy
  have h4 : 1 ≤ a * b := Nat.mul_pos ha hb
  have h5 : mostN a b x y * 1 ≤ mostN a b x y * ((a * b : Nat) : Int) := Int.mul_le_mul_of_nonneg_left (by omega) h1
  omega

set_option maxRecDepth 100000 in
set_option maxHeartbeats 2000000 in
theorem shMost_any (w h a b : Nat) (hw1 : 1 ≤ w) (hw : w ≤ 12) (hh1 : 1 ≤ h) (hh : h ≤ 12) (ha1 : 1 ≤ a) (hb1 : 1 ≤ b) (W : World) :
    Calls Try.prog 30 #[.agg #[.int .i64 (w : Int), .int .i64 (h : Int)], .agg #[.int .i64 (a : Int), .int .i64 (b : Int)]] W fun e W' => e = .returned (.int .i64 (mostN a b w h)) ∧ Below W.heap.size W W' := by
  have HB := Lib.hid (fun (P : Nat) (W : World) (hP : HeldB W P 36 #[.int .i64 (a : Int), .int .i64 (b : Int)]) =>
    bestMost_any (.pointer (some ⟨P, 0, none⟩)) (worthM a b) w h hw1 hw hh1 hh W (most_bd a b ha1 hb1) (fun x y W' _ _ _ _ hb => most1_any P a b x y W' (hP.below hb)))
  change Hid (∀ (P : Nat) (W : World) (hP : HeldB W P 36 #[.int .i64 (a : Int), .int .i64 (b : Int)]), Calls Try.prog _ _ W fun e W' => e = .returned (.int .i64 (mostN a b w h)) ∧ Below W.heap.size W W') at HB
  have k := held_new1 W (.cells #[.int .i64 (w : Int), .int .i64 (h : Int)] 36) 36 #[.int .i64 (a : Int), .int .i64 (b : Int)]
  have hb0 : Below W.heap.size W ((W.alloc (.cells #[.int .i64 (w : Int), .int .i64 (h : Int)] 36)).alloc (.cells #[.int .i64 (a : Int), .int .i64 (b : Int)] 36)) := ((Below.refl _ W).alloc (Nat.le_refl _) _).alloc (by simp) _
  generalize mostN a b w h = v at *
  go_enter Try.func30, Try.ntmps30
  go_wp2_with (go_at_call 46; refine (HB.out _ _ k).mono ?_; rintro e w1 ⟨rfl, hb1⟩; clear HB)
  go_ret
  exact ⟨rfl, below_step hb0 hb0.size hb1⟩

/-- what the functions of pieces tell -/
def mostO (w h a b : Int) : Int := if shB w h && shB a b then mostN a.toNat b.toNat w.toNat h.toNat else 0
def lossO (w h a b : Int) : Int := if shB w h && shB a b then w * h - mostN a.toNat b.toNat w.toNat h.toNat * (a * b) else 0

set_option maxRecDepth 100000 in
set_option maxHeartbeats 4000000 in
theorem implSheetMost_any (w h a b : Int) (W : World) :
    Calls Try.prog 11 #[.int .i64 w, .int .i64 h, .int .i64 a, .int .i64 b] W fun e W' =>
      e = .returned (.tuple #[.int .i64 (mostO w h a b), .bool (shB w h && shB a b)]) ∧ Below W.heap.size W W' := by
  have H1 := Lib.hid (fun W => shRead2_any w h a b W)
  unfold mostO
  by_cases hy : shB w h = true ∧ shB a b = true
  · obtain ⟨h1, h2⟩ := hy
    rw [h1, h2] at H1 ⊢
    obtain ⟨w, h, rfl, rfl, hw1, hw2, hh1, hh2⟩ := shB_yes h1
    obtain ⟨a, b, rfl, rfl, ha1, ha2, hb1, hb2⟩ := shB_yes h2
    simp only [Int.toNat_natCast, Bool.and_self, if_true, sh0] at H1 ⊢
    clear h1 h2
    have HM := Lib.hid (fun W => shMost_any w h a b hw1 hw2 hh1 hh2 ha1 hb1 W)
    generalize mostN a b w h = v at *
    go_enter Try.func11, Try.ntmps11
    go_wp2_with (first
      | (go_at_call 29; refine (H1.out _).mono ?_; rintro e w1 ⟨rfl, hb1⟩; clear H1)
      | (go_at_call 30; refine (HM.out _).mono ?_; rintro e w2 ⟨rfl, hb2⟩; clear HM))
    go_ret2
    exact ⟨rfl, below_step ((hb1.alloc hb1.size _).alloc (by have := hb1.size; simp; omega) _) (Nat.le_trans hb1.size (by simp; omega)) hb2⟩
  · have hn : (shB w h && shB a b) = false := by
      cases h1 : shB w h <;> cases h2 : shB a b <;> simp_all
    rw [hn] at H1 ⊢
    simp only [Bool.false_eq_true, if_false, sh0] at H1 ⊢
    clear hn hy
    go_enter Try.func11, Try.ntmps11
    go_wp2_with (go_at_call 29; refine (H1.out _).mono ?_; rintro e w1 ⟨rfl, hb1⟩; clear H1)
    go_ret2
    exact ⟨rfl, (hb1.alloc hb1.size _).alloc (by have := hb1.size; simp; omega) _⟩

set_option maxRecDepth 100000 in
set_option maxHeartbeats 4000000 in
theorem implSheetLoss_any (w h a b : Int) (W : World) :
    Calls Try.prog 17 #[.int .i64 w, .int .i64 h, .int .i64 a, .int .i64 b] W fun e W' =>
      e = .returned (.tuple #[.int .i64 (lossO w h a b), .bool (shB w h && shB a b)]) ∧ Below W.heap.size W W' := by
  have H1 := Lib.hid (fun W => shRead2_any w h a b W)
  unfold lossO
  by_cases hy : shB w h = true ∧ shB a b = true
  · obtain ⟨h1, h2⟩ := hy
    rw [h1, h2] at H1 ⊢
    obtain ⟨w, h, rfl, rfl, hw1, hw2, hh1, hh2⟩ := shB_yes h1
    obtain ⟨a, b, rfl, rfl, ha1, ha2, hb1, hb2⟩ := shB_yes h2
    simp only [Int.toNat_natCast, Bool.and_self, if_true, sh0] at H1 ⊢
    clear h1 h2
    obtain ⟨hv0, hv1, hv2⟩ := mostN_bd ha1 hb1 hw2 hh2 hw1 hh1
    have hwh : w * h ≤ 12 * 12 := Nat.mul_le_mul hw2 hh2
    have hv3 : 0 ≤ mostN a b w h * ((a * b : Nat) : Int) := Int.mul_nonneg hv0 (Int.natCast_nonneg _)
    have HM := fun W => shMost_any w h a b hw1 hw2 hh1 hh2 ha1 hb1 W
    generalize mostN a b w h = v at *
    rw [show (w : Int) * (h : Int) = ((w * h : Nat) : Int) from (Int.natCast_mul _ _).symm, show (a : Int) * (b : Int) = ((a * b : Nat) : Int) from (Int.natCast_mul _ _).symm]
    have RA := fun W => shArea_any w h hw2 hh2 W
    have RB := fun W => shArea_any a b ha2 hb2 W
    generalize w * h = A at *
    generalize a * b = B at *
    go_enter Try.func17, Try.ntmps17
    go_wp2_with (go_at_call 29; refine (H1.out _).mono ?_; rintro e w1 ⟨rfl, hb1⟩; clear H1)
    have k1 := (HeldB.new w1 36 #[.int .i64 (w : Int), .int .i64 (h : Int)]).alloc (.cells #[.int .i64 (a : Int), .int .i64 (b : Int)] 36)
    have k2 := held_new1 w1 (.cells #[.int .i64 (w : Int), .int .i64 (h : Int)] 36) 36 #[.int .i64 (a : Int), .int .i64 (b : Int)]
    have hB : Below W.heap.size W ((w1.alloc (.cells #[.int .i64 (w : Int), .int .i64 (h : Int)] 36)).alloc (.cells #[.int .i64 (a : Int), .int .i64 (b : Int)] 36)) := (hb1.alloc hb1.size _).alloc (by have := hb1.size; simp; omega) _
    generalize (w1.alloc (.cells #[.int .i64 (w : Int), .int .i64 (h : Int)] 36)).alloc (.cells #[.int .i64 (a : Int), .int .i64 (b : Int)] 36) = w2 at *
    generalize w1.heap.size = g at *
    clear hb1
    have K1 := Lib.hid (shHeld_regrown k1)
    have K2 := Lib.hid (shHeld_regrown k2)
    have R1 := Lib.hid (fun (d : Nat) (os : Array Obj) => Calls.regrown_of (HM (Sort.grow (redrawn w2 d) os)))
    have R2 := Lib.hid (fun (d : Nat) (os : Array Obj) => Calls.regrown_of (RA (Sort.grow (redrawn w2 d) os)))
    have R3 := Lib.hid (fun (d : Nat) (os : Array Obj) => Calls.regrown_of (RB (Sort.grow (redrawn w2 d) os)))
    clear k1 k2 HM RA RB
    refine wp_region_quiet_below (by kernel_rfl) (by kernel_rfl) ?_
    repeat (first
      | (refine wpQuiet_load_mid (by rfl) 36 _ rfl g 0 (by rfl) [.int .i64 (w : Int), .int .i64 (h : Int)] #[.int .i64 (w : Int), .int .i64 (h : Int)] rfl _ K1.out Try.underlying36 rfl (sh_size2 _ _) ?_; go_simp)
      | (refine wpQuiet_load_mid (by rfl) 36 _ rfl (g + 1) 0 (by rfl) [.int .i64 (a : Int), .int .i64 (b : Int)] #[.int .i64 (a : Int), .int .i64 (b : Int)] rfl _ K2.out Try.underlying36 rfl (sh_size2 _ _) ?_; go_simp)
      | go_big_quiet_step (with_reducible first | exact R1.out _ _ | exact R2.out _ _ | exact R3.out _ _)
      | quiet_step (with_reducible first | exact R1.out _ _ | exact R2.out _ _ | exact R3.out _ _))
    refine wpQuiet_nil ?_
    intro r
    have hb7 := hB.trans ((below_regrown _ r.d r.os).mono hB.size)
    clear hB R1 R2 R3 K1 K2
    go_wp2
    go_ret2
    exact ⟨rfl, hb7⟩
  · have hn : (shB w h && shB a b) = false := by
      cases h1 : shB w h <;> cases h2 : shB a b <;> simp_all
    rw [hn] at H1 ⊢
    simp only [Bool.false_eq_true, if_false, sh0] at H1 ⊢
    clear hn hy
    go_enter Try.func17, Try.ntmps17
    go_wp2_with (go_at_call 29; refine (H1.out _).mono ?_; rintro e w1 ⟨rfl, hb1⟩; clear H1)
    go_ret2
    exact ⟨rfl, (hb1.alloc hb1.size _).alloc (by have := hb1.size; simp; omega) _⟩

end Go.Proofs.Ytfemfmkgdgcemaa
