
/-
  Sheets in rows, and greedy squares: both sides. (Walks.)
-/
import Derived.Test.YtfemfmkgdgcemaaShA
import Derived.Test.YtfemfmkgdgcemaaSpecA
namespace Go.Proofs.Ytfemfmkgdgcemaa
open Go.RowKit

theorem l6B_sh (w h : Int) : (l6B w 1 12 && l6B h 1 12) = shB w h := by
  unfold l6B shB
  rw [Bool.eq_iff_iff]
  simp only [Bool.and_eq_true, decide_eq_true_eq]
  omega
set_option maxRecDepth 100000 in
set_option maxHeartbeats 1000000 in
theorem l9Sheet_any (w h : Int) (W : World) :
    Calls Try.prog 31 #[.int .i64 w, .int .i64 h] W fun e W' => e = .returned (.bool (shB w h)) ∧ W' = W := by
  have HE := Lib.hid (l6B_sh w h)
  have H1 := Lib.hid (l6In_any w 1 12)
  have H2 := Lib.hid (l6In_any h 1 12)
  generalize l6B w 1 12 = p at *
  generalize l6B h 1 12 = q at *
  rw [← HE.out]
  clear HE
  cases p <;> cases q
  all_goals
    go_enter Try.func31, Try.ntmps31
    go_wp2_with (first
      | (go_at_call 44; refine (H1.out _).mono ?_; rintro e w1 ⟨rfl, rfl⟩; clear H1)
      | (go_at_call 44; refine (H2.out _).mono ?_; rintro e w1 ⟨rfl, rfl⟩; clear H2))
    go_ret
    exact ⟨rfl, rfl⟩

def rowsN (w h a b : Nat) : Nat := max ((w / a) * (h / b)) ((w / b) * (h / a))
/-- numbers as sheets have them, and nothing else -/
def rowsO (w h a b : Int) : Int := if shB w h && shB a b then (rowsN w.toNat h.toNat a.toNat b.toNat : Int) else 0
theorem rows_fact {w h a b : Nat} (hw : w ≤ 12) (hh : h ≤ 12) : 
    wrap64 (wrap64 ((w : Int) / (a : Int)) * wrap64 ((h : Int) / (b : Int))) = (((w / a) * (h / b) : Nat) : Int) := by
  have e1 : w / a ≤ 12 := Nat.le_trans (Nat.div_le_self _ _) hw
  have e2 : h / b ≤ 12 := Nat.le_trans (Nat.div_le_self _ _) hh
  have e3 : (w / a) * (h / b) ≤ 12 * 12 := Nat.mul_le_mul e1 e2
  rw [← Int.natCast_ediv, ← Int.natCast_ediv]
  generalize w / a = x at *
  generalize h / b = y at *
  rw [sh64 (x : Int) ⟨by omega, by omega⟩, sh64 (y : Int) ⟨by omega, by omega⟩, ← Int.natCast_mul]
  exact sh64 _ ⟨by omega, by omega⟩

theorem int_max (x y : Nat) : (if (x : Int) < (y : Int) then (y : Int) else (x : Int)) = ((max x y : Nat) : Int) := by
  split <;> omega
theorem rows_max (w h a b : Nat) (hw : w ≤ 12) (hh : h ≤ 12) :
    (if wrap64 (wrap64 ((w : Int) / (a : Int)) * wrap64 ((h : Int) / (b : Int))) < wrap64 (wrap64 ((w : Int) / (b : Int)) * wrap64 ((h : Int) / (a : Int))) then wrap64 (wrap64 ((w : Int) / (b : Int)) * wrap64 ((h : Int) / (a : Int)))
      else wrap64 (wrap64 ((w : Int) / (a : Int)) * wrap64 ((h : Int) / (b : Int)))) = ((rowsN w h a b : Nat) : Int) := by
  rw [rows_fact hw hh, rows_fact hw hh]; exact int_max _ _

theorem rows_max2 (w h a b : Nat) :
    (if (w : Int) / (a : Int) * ((h : Int) / (b : Int)) < (w : Int) / (b : Int) * ((h : Int) / (a : Int)) then (w : Int) / (b : Int) * ((h : Int) / (a : Int)) else (w : Int) / (a : Int) * ((h : Int) / (b : Int))) = ((rowsN w h a b : Nat) : Int) := by
  have := int_max ((w / a) * (h / b)) ((w / b) * (h / a))
  simp only [Int.natCast_mul, Int.natCast_ediv] at this
  exact this

set_option maxRecDepth 100000 in
set_option maxHeartbeats 2000000 in
theorem specSheetRows_any (w h a b : Int) (W : World) :
    Calls Try.prog 15 #[.int .i64 w, .int .i64 h, .int .i64 a, .int .i64 b] W fun e W' =>
      e = .returned (.tuple #[.int .i64 (rowsO w h a b), .bool (shB w h && shB a b)]) ∧ Below W.heap.size W W' := by
  have H1 := Lib.hid (l9Sheet_any w h)
  have H2 := Lib.hid (l9Sheet_any a b)
  unfold rowsO
  by_cases hy : shB w h = true ∧ shB a b = true
  · obtain ⟨h1, h2⟩ := hy
    rw [h1] at H1
    rw [h2] at H2
    rw [h1, h2]
    obtain ⟨w, h, rfl, rfl, hw1, hw2, hh1, hh2⟩ := shB_yes h1
    obtain ⟨a, b, rfl, rfl, ha1, ha2, hb1, hb2⟩ := shB_yes h2
    simp only [Int.toNat_natCast, Bool.and_self, if_true]
    have HM := Lib.hid (rows_max w h a b hw2 hh2)
    clear h1 h2
    go_enter Try.func15, Try.ntmps15
    go_wp2_with (first
      | (go_at_call 31; refine (H1.out _).mono ?_; rintro e w1 ⟨rfl, rfl⟩; clear H1)
      | (go_at_call 31; refine (H2.out _).mono ?_; rintro e w1 ⟨rfl, rfl⟩; clear H2))
    go_region
    rw [HM.out]
    go_wp2
    go_ret2
    exact ⟨rfl, below_drewN _ _ 1⟩
  · have hn : (shB w h && shB a b) = false := by
      cases h1 : shB w h <;> cases h2 : shB a b <;> simp_all
    rw [hn]
    simp only [Bool.false_eq_true, if_false]
    cases h1 : shB w h
    · rw [h1] at H1
      clear H2 hn hy h1
      go_enter Try.func15, Try.ntmps15
      go_wp2_with (go_at_call 31; refine (H1.out _).mono ?_; rintro e w1 ⟨rfl, rfl⟩; clear H1)
      go_ret2
      exact ⟨rfl, Below.refl _ _⟩
    · rw [h1, Bool.true_and] at hn
      rw [h1] at H1
      rw [hn] at H2
      clear hn hy h1
      go_enter Try.func15, Try.ntmps15
      go_wp2_with (first
        | (go_at_call 31; refine (H1.out _).mono ?_; rintro e w1 ⟨rfl, rfl⟩; clear H1)
        | (go_at_call 31; refine (H2.out _).mono ?_; rintro e w1 ⟨rfl, rfl⟩; clear H2))
      go_ret2
      exact ⟨rfl, Below.refl _ _⟩


theorem shHeld_regrown {w : World} {b : Nat} {t : TypeId} {C : Array Value} (h : HeldB w b t C) : ∀ w', (∃ p : Regrown, w' = Sort.grow (redrawn w p.d) p.os) → w'.rangeAt b 0 C.toList := by
  rintro w' ⟨p, rfl⟩ j v hv
  have h2 := h.below (below_regrown w p.d p.os)
  have := h2.cell (0 + j)
  rw [this, Nat.zero_add]
  simpa using hv
theorem sh_size2 (a b : Value) : (Try.prog.info? 36).map (·.size) = some ([a, b] : List Value).length := by
  rw [show ([a, b] : List Value).length = 2 from rfl]; kernel_rfl
theorem eq_or (w h a b : Int) : (decide (w = a ∧ h = b) || decide (w = b ∧ h = a)) = decide ((w = a ∧ h = b) ∨ (w = b ∧ h = a)) := by
  rw [Bool.eq_iff_iff]; simp
set_option maxRecDepth 100000 in
set_option maxHeartbeats 2000000 in
theorem shIsPiece_any (w h a b : Int) (W : World) :
    Calls Try.prog 48 #[.agg #[.int .i64 w, .int .i64 h], .agg #[.int .i64 a, .int .i64 b]] W fun e W' =>
      e = .returned (.bool (decide ((w = a ∧ h = b) ∨ (w = b ∧ h = a)))) ∧ Below W.heap.size W W' := by
  have HE1 := Lib.hid (fun W => run_eql_sh w h a b W)
  have HE2 := Lib.hid (fun W => run_eql_sh w h b a W)
  rw [← eq_or]
  generalize decide (w = a ∧ h = b) = p at *
  generalize decide (w = b ∧ h = a) = q at *
  have arm : ∀ p' q' : Bool, p = p' → q = q' → Calls Try.prog 48 #[.agg #[.int .i64 w, .int .i64 h], .agg #[.int .i64 a, .int .i64 b]] W fun e W' =>
      e = .returned (.bool (p' || q')) ∧ Below W.heap.size W W' := by
    intro p' q' hp hq
    rw [hp] at HE1
    rw [hq] at HE2
    clear hp hq
    cases p'
    · rw [Bool.false_or]
      go_enter Try.func48, Try.ntmps48
      go_wp2
      have hB : Below W.heap.size W ((W.alloc (.cells #[.int .i64 w, .int .i64 h] 36)).alloc (.cells #[.int .i64 a, .int .i64 b] 36)) := ((Below.refl _ W).alloc (Nat.le_refl _) _).alloc (by simp) _
      have HT := Lib.hid (fun (d : Nat) (os : Array Obj) => Calls.regrown_of (shTurn_any a b (Sort.grow (redrawn ((W.alloc (.cells #[.int .i64 w, .int .i64 h] 36)).alloc (.cells #[.int .i64 a, .int .i64 b] 36)) d) os)))
      refine wp_region_quiet_below (by kernel_rfl) (by kernel_rfl) ?_
      have K1 := Lib.hid (shHeld_regrown ((HeldB.new W 36 #[.int .i64 w, .int .i64 h]).alloc (.cells #[.int .i64 a, .int .i64 b] 36)))
      have K2 := Lib.hid (shHeld_regrown (held_new1 W (.cells #[.int .i64 w, .int .i64 h] 36) 36 #[.int .i64 a, .int .i64 b]))
      repeat (first | (refine wpQuiet_load_mid (by rfl) 36 _ rfl W.heap.size 0 (by rfl) [.int .i64 w, .int .i64 h] #[.int .i64 w, .int .i64 h] rfl _ K1.out Try.underlying36 rfl (sh_size2 _ _) ?_; go_simp) | (refine wpQuiet_load_mid (by rfl) 36 _ rfl (W.heap.size + 1) 0 (by rfl) [.int .i64 a, .int .i64 b] #[.int .i64 a, .int .i64 b] rfl _ K2.out Try.underlying36 rfl (sh_size2 _ _) ?_; go_simp) | (refine wpQuiet_bin (by rfl) .eql 36 _ _ _ rfl (.bool false) (fun w => guard_sh _ _ _ _ _ w) (fun w => HE1.out w) ?_; go_simp) | (refine wpQuiet_bin (by rfl) .eql 36 _ _ _ rfl (.bool q') (fun w => guard_sh _ _ _ _ _ w) (fun w => HE2.out w) ?_; go_simp) | go_big_quiet_step (with_reducible first | exact HT.out _ _) | quiet_step (with_reducible first | exact HT.out _ _))
      refine wpQuiet_nil ?_
      intro r
      have hb7 := hB.trans ((below_regrown _ r.d r.os).mono hB.size)
      clear hB HT
      go_wp2
      go_ret
      exact ⟨rfl, hb7⟩
    · rw [Bool.true_or]
      go_enter Try.func48, Try.ntmps48
      go_wp2
      have hB : Below W.heap.size W ((W.alloc (.cells #[.int .i64 w, .int .i64 h] 36)).alloc (.cells #[.int .i64 a, .int .i64 b] 36)) := ((Below.refl _ W).alloc (Nat.le_refl _) _).alloc (by simp) _
      refine wp_region_quiet_below (by kernel_rfl) (by kernel_rfl) ?_
      have K1 := Lib.hid (shHeld_regrown ((HeldB.new W 36 #[.int .i64 w, .int .i64 h]).alloc (.cells #[.int .i64 a, .int .i64 b] 36)))
      have K2 := Lib.hid (shHeld_regrown (held_new1 W (.cells #[.int .i64 w, .int .i64 h] 36) 36 #[.int .i64 a, .int .i64 b]))
      repeat (first | (refine wpQuiet_load_mid (by rfl) 36 _ rfl W.heap.size 0 (by rfl) [.int .i64 w, .int .i64 h] #[.int .i64 w, .int .i64 h] rfl _ K1.out Try.underlying36 rfl (sh_size2 _ _) ?_; go_simp) | (refine wpQuiet_load_mid (by rfl) 36 _ rfl (W.heap.size + 1) 0 (by rfl) [.int .i64 a, .int .i64 b] #[.int .i64 a, .int .i64 b] rfl _ K2.out Try.underlying36 rfl (sh_size2 _ _) ?_; go_simp) | (refine wpQuiet_bin (by rfl) .eql 36 _ _ _ rfl (.bool true) (fun w => guard_sh _ _ _ _ _ w) (fun w => HE1.out w) ?_; go_simp) | go_big_quiet_step (fail) | quiet_step (fail))
      refine wpQuiet_nil ?_
      intro r
      have hb7 := hB.trans ((below_regrown _ r.d r.os).mono hB.size)
      clear hB
      go_wp2
      go_ret
      exact ⟨rfl, hb7⟩
  exact arm p q rfl rfl


set_option maxRecDepth 100000 in
set_option maxHeartbeats 4000000 in
theorem implSheetRows_any (w h a b : Int) (W : World) :
    Calls Try.prog 13 #[.int .i64 w, .int .i64 h, .int .i64 a, .int .i64 b] W fun e W' =>
      e = .returned (.tuple #[.int .i64 (rowsO w h a b), .bool (shB w h && shB a b)]) ∧ Below W.heap.size W W' := by
  have H1 := Lib.hid (fun W => shRead2_any w h a b W)
  unfold rowsO
  by_cases hy : shB w h = true ∧ shB a b = true
  · obtain ⟨h1, h2⟩ := hy
    rw [h1, h2] at H1 ⊢
    obtain ⟨w, h, rfl, rfl, hw1, hw2, hh1, hh2⟩ := shB_yes h1
    obtain ⟨a, b, rfl, rfl, ha1, ha2, hb1, hb2⟩ := shB_yes h2
    simp only [Int.toNat_natCast, Bool.and_self, if_true, sh0] at H1 ⊢
    clear h1 h2
    have HM := Lib.hid (rows_max2 w h a b)
    go_enter Try.func13, Try.ntmps13
    go_wp2_with (go_at_call 29; refine (H1.out _).mono ?_; rintro e w1 ⟨rfl, hb1⟩; clear H1)
    have k1 := (HeldB.new w1 36 #[.int .i64 (w : Int), .int .i64 (h : Int)]).alloc (.cells #[.int .i64 (a : Int), .int .i64 (b : Int)] 36)
    have k2 := held_new1 w1 (.cells #[.int .i64 (w : Int), .int .i64 (h : Int)] 36) 36 #[.int .i64 (a : Int), .int .i64 (b : Int)]
    have hB : Below W.heap.size W ((w1.alloc (.cells #[.int .i64 (w : Int), .int .i64 (h : Int)] 36)).alloc (.cells #[.int .i64 (a : Int), .int .i64 (b : Int)] 36)) := (hb1.alloc hb1.size _).alloc (by have := hb1.size; simp; omega) _
    generalize (w1.alloc (.cells #[.int .i64 (w : Int), .int .i64 (h : Int)] 36)).alloc (.cells #[.int .i64 (a : Int), .int .i64 (b : Int)] 36) = w2 at *
    generalize w1.heap.size = g at *
    clear hb1
    have K1 := Lib.hid (shHeld_regrown k1)
    have K2 := Lib.hid (shHeld_regrown k2)
    have R1 := Lib.hid (fun (d : Nat) (os : Array Obj) => Calls.regrown_of (shInRows_any w h a b hw2 hh2 ha1 hb1 ha2 hb2 (Sort.grow (redrawn w2 d) os)))
    have R2 := Lib.hid (fun (d : Nat) (os : Array Obj) => Calls.regrown_of (shInRows_any w h b a hw2 hh2 hb1 ha1 hb2 ha2 (Sort.grow (redrawn w2 d) os)))
    have RT := Lib.hid (fun (d : Nat) (os : Array Obj) => Calls.regrown_of (shTurn_any (a : Int) (b : Int) (Sort.grow (redrawn w2 d) os)))
    clear k1 k2
    refine wp_region_quiet_below (by kernel_rfl) (by kernel_rfl) ?_
    repeat (first
      | (refine wpQuiet_load_mid (by rfl) 36 _ rfl g 0 (by rfl) [.int .i64 (w : Int), .int .i64 (h : Int)] #[.int .i64 (w : Int), .int .i64 (h : Int)] rfl _ K1.out Try.underlying36 rfl (sh_size2 _ _) ?_; go_simp)
      | (refine wpQuiet_load_mid (by rfl) 36 _ rfl (g + 1) 0 (by rfl) [.int .i64 (a : Int), .int .i64 (b : Int)] #[.int .i64 (a : Int), .int .i64 (b : Int)] rfl _ K2.out Try.underlying36 rfl (sh_size2 _ _) ?_; go_simp)
      | go_big_quiet_step (with_reducible first | exact R1.out _ _ | exact R2.out _ _ | exact RT.out _ _)
      | quiet_step (with_reducible first | exact R1.out _ _ | exact R2.out _ _ | exact RT.out _ _))
    refine wpQuiet_nil ?_
    rw [HM.out]
    intro r
    have hb7 := hB.trans ((below_regrown _ r.d r.os).mono hB.size)
    clear hB RT R1 R2 K1 K2 HM
    go_wp2
    go_ret2
    exact ⟨rfl, hb7⟩
  · have hn : (shB w h && shB a b) = false := by
      cases h1 : shB w h <;> cases h2 : shB a b <;> simp_all
    rw [hn] at H1 ⊢
    simp only [Bool.false_eq_true, if_false, sh0] at H1 ⊢
    clear hn hy
    go_enter Try.func13, Try.ntmps13
    go_wp2_with (go_at_call 29; refine (H1.out _).mono ?_; rintro e w1 ⟨rfl, hb1⟩; clear H1)
    go_ret2
    exact ⟨rfl, (hb1.alloc hb1.size _).alloc (by have := hb1.size; simp; omega) _⟩


def greO (w h : Int) : Int := if shB w h then (greN w.toNat h.toNat : Int) else 0
set_option maxRecDepth 100000 in
set_option maxHeartbeats 4000000 in
theorem shGreedy_any (w h : Nat) (h1 : 1 ≤ w) (h2 : w ≤ 12) (h3 : 1 ≤ h) (h4 : h ≤ 12) (W : World) :
    Calls Try.prog 41 #[.agg #[.int .i64 (w : Int), .int .i64 (h : Int)]] W fun e W' =>
      e = .returned (.int .i64 ((greN w h : Nat) : Int)) ∧ Below W.heap.size W W' := by
  have HQ := Lib.hid (fun (a b : Nat) W => shIsSquare_any (a : Int) (b : Int) W)
  have HW := Lib.hid (fun (a b : Nat) (ha : a ≤ 12) (hb : b ≤ 12) W => shWithout_any a b ha hb W)
  go_enter Try.func41, Try.ntmps41
  go_wp2
  go_loopg [3] (w + h) (fun gh vm wr => ∃ (a b m : Nat), 1 ≤ a ∧ a ≤ 12 ∧ 1 ≤ b ∧ b ≤ 12 ∧ a + b ≤ gh ∧ m ≤ 30 - gh ∧ gh ≤ 24 ∧ vm = .int .i64 (m : Int) ∧ m + greN a b = greN w h + 1 ∧ HeldB wr W.heap.size 36 #[.int .i64 (a : Int), .int .i64 (b : Int)] ∧ Below W.heap.size W wr)
  case atStart => exact ⟨w, h, 1, h1, h2, h3, h4, Nat.le_refl _, by omega, by omega, rfl, by omega, HeldB.new W _ _, (Below.refl _ W).alloc (Nat.le_refl _) _⟩
  case round =>
    obtain ⟨a, b, m, ha1, ha2, hb1, hb2, hgk, hm, hg24, rfl, hgre, hH, hb⟩ := hrel
    have HG := Lib.hid hgre; clear hgre
    have hsz : (Try.prog.info? 36).map (·.size) = some (#[.int .i64 (a : Int), .int .i64 (b : Int)] : Array Value).size := by kernel_rfl
    have HSZ := Lib.hid hsz; clear hsz
    have HQ1 := Lib.hid (HQ.out a b)
    by_cases hab : a = b
    · have hbe : ((a : Int) == (b : Int)) = true := by rw [beq_iff_eq]; omega
      have hfin : (m : Int) = ((greN w h : Nat) : Int) := by
        have := HG.out
        rw [hab, greN_self b hb1] at this
        omega
      have HF := Lib.hid hfin; clear hfin hab
      rw [hbe] at HQ1
      go_wp2_with (first
        | (refine wpList_load_row rfl 36 _ rfl W.heap.size rfl 36 _ (0, 0) _ hH Try.underlying36 rfl HSZ.out ?_)
        | (go_at_call 51; refine (HQ1.out _).mono ?_; rintro e w2 ⟨rfl, hb2⟩; clear HQ1))
      have hB := below_step hb hb.size hb2
      rw [HF.out]
      go_ret
      exact ⟨rfl, hB⟩
    · have hbe : ((a : Int) == (b : Int)) = false := by rw [beq_eq_false_iff_ne]; omega
      rw [hbe] at HQ1
      have HW1 := Lib.hid (HW.out a b ha2 hb2)
      obtain ⟨a2, b2, e1, e2, p1, p2, p3, p4, hs, hg2⟩ : ∃ a2 b2 : Nat, (if b < a then a - b else a) = a2 ∧ (if b < a then b else b - a) = b2 ∧ 1 ≤ a2 ∧ a2 ≤ 12 ∧ 1 ≤ b2 ∧ b2 ≤ 12 ∧ a2 + b2 + 1 ≤ a + b ∧ greN a b = greN a2 b2 + 1 := by
        by_cases hlt : b < a
        · exact ⟨a - b, b, if_pos hlt, if_pos hlt, by omega, by omega, by omega, by omega, by omega, greN_wide hb1 hlt⟩
        · exact ⟨a, b - a, if_neg hlt, if_neg hlt, by omega, by omega, by omega, by omega, by omega, greN_high ha1 (by omega)⟩
      rw [e1, e2] at HW1
      have HG2 := Lib.hid hg2
      clear hg2 e1 e2 hab
      have HON := Lib.hid (show (#[.int .i64 (a2 : Int), .int .i64 (b2 : Int)] : Array Value).all (·.oneCell') = true by kernel_rfl)
      have HSY := Lib.hid (show (Try.prog.info? 36).map (·.size) = some (#[.int .i64 (a2 : Int), .int .i64 (b2 : Int)] : Array Value).size by kernel_rfl)
      go_wp2_with (first
        | (refine wpList_load_row rfl 36 _ rfl W.heap.size rfl 36 _ (0, 0) _ hH Try.underlying36 rfl HSZ.out ?_)
        | (go_at_call 51; refine (HQ1.out _).mono ?_; rintro e w2 ⟨rfl, hb2⟩; clear HQ1; replace hH := hH.below hb2; have hB := below_step hb hb.size hb2; clear hb hb2)
        | (go_at_call 52; refine (HW1.out _).mono ?_; rintro e w3 ⟨rfl, hb3⟩; clear HW1; replace hH := hH.below hb3; replace hB := below_step hB hB.size hb3; clear hb3)
        | (refine wpList_store_row rfl 36 _ _ rfl W.heap.size #[.int .i64 (a2 : Int), .int .i64 (b2 : Int)] rfl rfl 36 _ hH HSY.out rfl HON.out ?_))
      go_roundg (gk - 1)
      case measure => omega
      case rel => exact ⟨a2, b2, m + 1, p1, p2, p3, p4, by omega, by omega, by omega, by go_num, by have := HG.out; have := HG2.out; omega, hH.setRow _, below_setRowB hB (Nat.le_refl _) _⟩


set_option maxRecDepth 100000 in
set_option maxHeartbeats 2000000 in
theorem implSheetGreedy_any (w h : Int) (W : World) :
    Calls Try.prog 22 #[.int .i64 w, .int .i64 h] W fun e W' => e = .returned (.tuple #[.int .i64 (greO w h), .bool (shB w h)]) ∧ Below W.heap.size W W' := by
  unfold greO
  cases h1 : shB w h
  · have H1 := Lib.hid (fun W => shRead_no h1 W)
    clear h1
    simp only [Bool.false_eq_true, if_false]
    go_enter Try.func22, Try.ntmps22
    go_wp2_with (go_at_call 38; refine (H1.out _).mono ?_; rintro e w1 ⟨rfl, hb1⟩; clear H1)
    go_ret2
    exact ⟨rfl, hb1.alloc hb1.size _⟩
  · have H1 := Lib.hid (fun W => shRead_yes h1 W)
    obtain ⟨w, h, rfl, rfl, hw1, hw2, hh1, hh2⟩ := shB_yes h1
    have H2 := Lib.hid (fun W => shGreedy_any w h hw1 hw2 hh1 hh2 W)
    clear h1
    simp only [if_true, Int.toNat_natCast]
    generalize ((greN w h : Nat) : Int) = g at *
    go_enter Try.func22, Try.ntmps22
    go_wp2_with (first
      | (go_at_call 38; refine (H1.out _).mono ?_; rintro e w1 ⟨rfl, hb1⟩; clear H1)
      | (go_at_call 41; refine (H2.out _).mono ?_; rintro e w2 ⟨rfl, hb2⟩; clear H2))
    go_ret2
    exact ⟨rfl, below_step (hb1.alloc hb1.size _) (Nat.le_trans hb1.size (by simp)) hb2⟩

theorem gre_step (n a b : Nat) (hn : n ≤ 1000) (hq : b / a ≤ 12) : wrap64 ((n : Int) + wrap64 ((b : Int) / (a : Int))) = ((n + b / a : Nat) : Int) := by
  rw [← Int.natCast_ediv]
  generalize b / a = x at *
  rw [sh64 (x : Int) ⟨by omega, by omega⟩, sh64 _ ⟨by omega, by omega⟩]
  omega
set_option maxRecDepth 100000 in
set_option maxHeartbeats 4000000 in
theorem specSheetGreedy_any (w h : Int) (W : World) :
    Calls Try.prog 24 #[.int .i64 w, .int .i64 h] W fun e W' => e = .returned (.tuple #[.int .i64 (greO w h), .bool (shB w h)]) ∧ Below W.heap.size W W' := by
  have H1 := Lib.hid (l9Sheet_any w h)
  unfold greO
  cases h1 : shB w h
  · rw [h1] at H1
    clear h1
    simp only [Bool.false_eq_true, if_false]
    go_enter Try.func24, Try.ntmps24
    go_wp2_with (go_at_call 31; refine (H1.out _).mono ?_; rintro e w1 ⟨rfl, rfl⟩; clear H1)
    go_ret2
    exact ⟨rfl, Below.refl _ _⟩
  · rw [h1] at H1
    obtain ⟨w, h, rfl, rfl, hw1, hw2, hh1, hh2⟩ := shB_yes h1
    clear h1
    simp only [if_true, Int.toNat_natCast]
    have HE := Lib.hid (greE_n hw1 hh1)
    go_enter Try.func24, Try.ntmps24
    go_wp2_with (go_at_call 31; refine (H1.out _).mono ?_; rintro e w1 ⟨rfl, rfl⟩; clear H1)
    go_loopg [0, 1, 6, 7] 24 (fun gh va vb vn vx wr => ∃ (a b n : Nat), a ≤ 12 ∧ b ≤ 12 ∧ a + b ≤ gh ∧ n + gh * 12 ≤ 1000 ∧ va = .int .i64 (a : Int) ∧ vb = .int .i64 (b : Int) ∧ vn = .int .i64 (n : Int) ∧ n + greE a b = greN w h ∧ Below w1.heap.size w1 wr)
    case atStart => exact ⟨w, h, 0, hw2, hh2, by omega, by omega, rfl, rfl, rfl, by rw [Nat.zero_add]; exact HE.out, Below.refl _ _⟩
    case round =>
      obtain ⟨a, b, n, ha, hb, hgk, hn, rfl, rfl, rfl, hgre, hB⟩ := hrel
      have HG := Lib.hid hgre; clear hgre
      by_cases ha0 : a = 0
      · subst ha0
        have hfin : (n : Int) = ((greN w h : Nat) : Int) := by
          have := HG.out
          have h0 : greE 0 b = 0 := by unfold greE; rw [if_pos (.inl rfl)]
          omega
        have HF := Lib.hid hfin; clear hfin
        go_wp2
        rw [HF.out]
        go_ret2
        exact ⟨rfl, hB⟩
      · by_cases hb0 : b = 0
        · subst hb0
          have hfin : (n : Int) = ((greN w h : Nat) : Int) := by
            have := HG.out
            have h0 : greE a 0 = 0 := by unfold greE; rw [if_pos (.inr rfl)]
            omega
          have HF := Lib.hid hfin; clear hfin
          have d1 : decide ((0 : Int) < (a : Int)) = true := decide_eq_true (by omega)
          go_wp2
          rw [HF.out]
          go_ret2
          exact ⟨rfl, hB⟩
        · have d1 : decide ((0 : Int) < (a : Int)) = true := decide_eq_true (by omega)
          have d2 : decide ((0 : Int) < (b : Int)) = true := decide_eq_true (by omega)
          by_cases hlt : a < b
          · have q1 : b / a ≤ 12 := Nat.le_trans (Nat.div_le_self _ _) hb
            have q2 : b % a < a := Nat.mod_lt _ (by omega)
            have HX := Lib.hid (gre_step n a b (by omega) q1)
            have HG2 := Lib.hid (show n + b / a + greE (b % a) a = greN w h by have := HG.out; rw [greE_flip, greE_mod (by omega) b b (Nat.le_refl _)] at this; omega)
            go_wp2
            rw [HX.out]
            go_roundg (gk - 1)
            case measure => omega
            case rel => exact ⟨b % a, a, n + b / a, by omega, by omega, by omega, by omega, rfl, rfl, rfl, HG2.out, hB⟩
          · have d3 : decide ((a : Int) < (b : Int)) = false := decide_eq_false (by omega)
            have q1 : a / b ≤ 12 := Nat.le_trans (Nat.div_le_self _ _) ha
            have q2 : a % b < b := Nat.mod_lt _ (by omega)
            have HX := Lib.hid (gre_step n b a (by omega) q1)
            have HG2 := Lib.hid (show n + a / b + greE (a % b) b = greN w h by have := HG.out; rw [greE_mod (by omega) a a (Nat.le_refl _)] at this; omega)
            go_wp2
            rw [HX.out]
            go_roundg (gk - 1)
            case measure => omega
            case rel => exact ⟨a % b, b, n + a / b, by omega, by omega, by omega, by omega, rfl, rfl, rfl, HG2.out, hB⟩

end Go.Proofs.Ytfemfmkgdgcemaa
