
/-
  Sheets: the small functions of the program. (Walks.)
-/
import Derived.Test.YtfemfmkgdgcemaaRow
import Derived.Test.YtfemfmkgdgcemaaArr
import Derived.Test.YtfemfmkgdgcemaaShM
namespace Go.Proofs.Ytfemfmkgdgcemaa
open Go.RowKit

theorem results_sh {fn : Func} {p : Tmp} (h : fn.results = #[.cell p 36]) {tmps : Array Value} {w : World} {B : Nat} {a b : Value}
    (hp : tmps.getD p undef = .pointer (some ⟨B, 0, none⟩)) (hB : HeldB w B 36 #[a, b]) :
    (results fn tmps).run Try.prog w = .ok (.agg #[a, b]) w :=
  results_cell_row h tmps w B 36 #[a, b] (0, 0) _ (by rw [hp]) hB Try.underlying36 rfl (by kernel_rfl)
theorem results_sh2 {fn : Func} {p u : Tmp} (h : fn.results = #[.cell p 36, .tmp u]) {tmps : Array Value} {w : World} {B : Nat} {a b v : Value}
    (hp : tmps.getD p undef = .pointer (some ⟨B, 0, none⟩)) (hB : HeldB w B 36 #[a, b]) (hv : tmps.getD u undef = v) :
    (results fn tmps).run Try.prog w = .ok (.tuple #[.agg #[a, b], v]) w := by
  rw [results_cell_tmp h, hp, hv]
  have hr := run_loadVar_row (P := Try.prog) w B 36 36 #[a, b] (0, 0) _ hB Try.underlying36 rfl (by kernel_rfl)
  simp [asAddr, hr, Result.andThen]
theorem results_sh3 {fn : Func} {p q u : Tmp} (h : fn.results = #[.cell p 36, .cell q 36, .tmp u]) {tmps : Array Value} {w : World} {B C : Nat} {a b c d v : Value}
    (hp : tmps.getD p undef = .pointer (some ⟨B, 0, none⟩)) (hB : HeldB w B 36 #[a, b]) (hq : tmps.getD q undef = .pointer (some ⟨C, 0, none⟩)) (hC : HeldB w C 36 #[c, d]) (hv : tmps.getD u undef = v) :
    (results fn tmps).run Try.prog w = .ok (.tuple #[.agg #[a, b], .agg #[c, d], v]) w := by
  have hr := run_loadVar_row (P := Try.prog) w B 36 36 #[a, b] (0, 0) _ hB Try.underlying36 rfl (by kernel_rfl)
  have hs := run_loadVar_row (P := Try.prog) w C 36 36 #[c, d] (0, 0) _ hC Try.underlying36 rfl (by kernel_rfl)
  rw [Array.getD_eq_getD_getElem?] at hp hq hv
  simp [results, h, hp, hq, hv, asAddr, hr, hs, Result.andThen]
theorem held_new1 (w : World) (o : Obj) (t : TypeId) (cs : Array Value) : HeldB ((w.alloc o).alloc (.cells cs t)) (w.heap.size + 1) t cs := by
  have := HeldB.new (w.alloc o) t cs; rw [World.size_alloc] at this; exact this
theorem held_new2 (w : World) (o o' : Obj) (t : TypeId) (cs : Array Value) : HeldB (((w.alloc o).alloc o').alloc (.cells cs t)) (w.heap.size + 1 + 1) t cs := by
  have := HeldB.new ((w.alloc o).alloc o') t cs; rw [World.size_alloc, World.size_alloc] at this; exact this
theorem sh64 (n : Int) (h : -9223372036854775808 ≤ n ∧ n ≤ 9223372036854775807) : wrap64 n = n := by unfold wrap64; omega
theorem wrap_few {n : Int} (h1 : -1000000 ≤ n) (h2 : n ≤ 1000000) : IntKind.i64.wrap n = n := by simp [IntKind.wrap, IntKind.bits, IntKind.signed]; omega

set_option maxRecDepth 100000 in
set_option maxHeartbeats 1000000 in
theorem shTurn_any (a b : Int) (w : World) :
    Calls Try.prog 34 #[.agg #[.int .i64 a, .int .i64 b]] w fun e w' => e = .returned (.agg #[.int .i64 b, .int .i64 a]) ∧ Below w.heap.size w w' := by
  go_enter Try.func34, Try.ntmps34
  go_wp2
  refine bodyPost_ret (v := .agg #[.int .i64 b, .int .i64 a]) (results_sh Try.results34 rfl (held_new1 _ _ _ _)) rfl ⟨rfl, ?_⟩
  exact ((Below.refl _ w).alloc (Nat.le_refl _) _).alloc (by simp) _

set_option maxRecDepth 100000 in
set_option maxHeartbeats 1000000 in
theorem shArea_any (a b : Nat) (ha : a ≤ 12) (hb : b ≤ 12) (w : World) :
    Calls Try.prog 35 #[.agg #[.int .i64 (a : Int), .int .i64 (b : Int)]] w fun e w' => e = .returned (.int .i64 ((a * b : Nat) : Int)) ∧ Below w.heap.size w w' := by
  have hm : a * b ≤ 12 * 12 := Nat.mul_le_mul ha hb
  have hw : IntKind.i64.wrap ((a : Int) * (b : Int)) = ((a * b : Nat) : Int) := by rw [← Int.natCast_mul]; exact wrap_few (by omega) (by omega)
  clear hm
  go_enter Try.func35, Try.ntmps35
  go_wp2
  go_ret
  exact ⟨by rw [Int.natCast_mul]; rfl, (Below.refl _ w).alloc (Nat.le_refl _) _⟩

set_option maxRecDepth 100000 in
set_option maxHeartbeats 1000000 in
theorem shIsSquare_any (a b : Int) (w : World) :
    Calls Try.prog 51 #[.agg #[.int .i64 a, .int .i64 b]] w fun e w' => e = .returned (.bool (a == b)) ∧ Below w.heap.size w w' := by
  go_enter Try.func51, Try.ntmps51
  go_wp2
  go_ret
  exact ⟨rfl, (Below.refl _ w).alloc (Nat.le_refl _) _⟩

set_option maxRecDepth 100000 in
set_option maxHeartbeats 1000000 in
theorem shWithout_any (a b : Nat) (ha : a ≤ 12) (hb : b ≤ 12) (w : World) :
    Calls Try.prog 52 #[.agg #[.int .i64 (a : Int), .int .i64 (b : Int)]] w fun e w' =>
      e = .returned (.agg #[.int .i64 ((if b < a then a - b else a : Nat) : Int), .int .i64 ((if b < a then b else b - a : Nat) : Int)]) ∧ Below w.heap.size w w' := by
  by_cases h : b < a
  · rw [if_pos h, if_pos h]
    have e1 : ((a - b : Nat) : Int) = (a : Int) - (b : Int) := by omega
    rw [e1]
    have HE := Lib.hid e1; clear e1
    go_enter Try.func52, Try.ntmps52
    go_wp2
    refine bodyPost_ret (v := .agg #[.int .i64 ((a : Int) - (b : Int)), .int .i64 (b : Int)]) (results_sh Try.results52 rfl (held_new1 _ _ _ _)) rfl ⟨rfl, ?_⟩
    exact ((Below.refl _ w).alloc (Nat.le_refl _) _).alloc (by simp) _
  · rw [if_neg h, if_neg h]
    have e1 : ((b - a : Nat) : Int) = (b : Int) - (a : Int) := by omega
    rw [e1]
    have HE := Lib.hid e1; clear e1
    have hd : decide ((b : Int) < (a : Int)) = false := decide_eq_false (by omega)
    go_enter Try.func52, Try.ntmps52
    go_wp2
    refine bodyPost_ret (v := .agg #[.int .i64 (a : Int), .int .i64 ((b : Int) - (a : Int))]) (results_sh Try.results52 rfl (held_new1 _ _ _ _)) rfl ⟨rfl, ?_⟩
    exact ((Below.refl _ w).alloc (Nat.le_refl _) _).alloc (by simp) _


theorem run_eql_sh (a b c d : Int) (w : World) : (binOp .eql 36 (.agg #[.int .i64 a, .int .i64 b]) (.agg #[.int .i64 c, .int .i64 d])).run Try.prog w = .ok (.bool (decide (a = c ∧ b = d))) w := by
  have u3 := Try.underlying3
  have a3 := Try.isAgg3
  have z3 := Try.sizeOf3
  have hS : Try.prog.underlying 36 = some (.struct (Try.prog.fieldsOf 36)) := by kernel_rfl
  have hp : Try.prog.stoodInHeld 36 = false := by kernel_rfl
  have h : (Op.equalIn 10000 36 (.agg #[.int .i64 a, .int .i64 b]) (.agg #[.int .i64 c, .int .i64 d])).run Try.prog w = .ok (decide (a = c ∧ b = d)) w := by
    rw [show (10000 : Nat) = 9999 + 1 from rfl, run_equalIn_agg w 9999 36 _ _ hS hp]
    simp only [Program.fieldsOf, Try.underlying36]
    go_simp
    by_cases h1 : a = c <;> by_cases h2 : b = d <;> simp [h1, h2]
  simp only [binOp]
  simp [Op.equal, Op.maxDepth, h]
theorem Try.guardSh : Try.prog.eqGuardType Try.prog.depth 36 = false := by kernel_rfl
theorem guard_sh (op : BinOp) (x y : Operand) (A B : Array Value) (w : World) : (eqGuard op 36 x y (.agg A) (.agg B)).run Try.prog w = .ok () w := by
  unfold eqGuard
  cases op <;> first | (simp; done) | simp [Try.guardSh]

set_option maxRecDepth 100000 in
set_option maxHeartbeats 1000000 in
theorem shInRows_any (w h a b : Nat) (hw : w ≤ 12) (hh : h ≤ 12) (ha : 1 ≤ a) (hb : 1 ≤ b) (ha2 : a ≤ 12) (hb2 : b ≤ 12) (W : World) :
    Calls Try.prog 33 #[.agg #[.int .i64 (w : Int), .int .i64 (h : Int)], .agg #[.int .i64 (a : Int), .int .i64 (b : Int)]] W fun e W' => e = .returned (.int .i64 (((w / a) * (h / b) : Nat) : Int)) ∧ Below W.heap.size W W' := by
  have e1 : w / a ≤ 12 := Nat.le_trans (Nat.div_le_self _ _) hw
  have e2 : h / b ≤ 12 := Nat.le_trans (Nat.div_le_self _ _) hh
  have e3 : (w / a) * (h / b) ≤ 12 * 12 := Nat.mul_le_mul e1 e2
  rw [Int.natCast_mul]
  have hF : wrap64 (wrap64 ((w : Int) / (a : Int)) * wrap64 ((h : Int) / (b : Int))) = ((w / a : Nat) : Int) * ((h / b : Nat) : Int) := by
    rw [← Int.natCast_ediv, ← Int.natCast_ediv]
    generalize w / a = x at *
    generalize h / b = y at *
    rw [sh64 (x : Int) ⟨by omega, by omega⟩, sh64 (y : Int) ⟨by omega, by omega⟩, ← Int.natCast_mul]
    exact sh64 _ ⟨by omega, by omega⟩
  have HF := Lib.hid hF; clear hF e1 e2 e3
  go_enter Try.func33, Try.ntmps33
  go_wp2
  go_quiet (fail)
  go_wp2
  go_ret
  exact ⟨by rw [← HF.out]; rfl, ((((Below.refl _ W).alloc (Nat.le_refl _) _).alloc (by simp) _)).trans (below_drewN _ _ _)⟩

set_option maxRecDepth 100000 in
set_option maxHeartbeats 2000000 in
theorem shRead_any (w h : Int) (W : World) :
    Calls Try.prog 38 #[.int .i64 w, .int .i64 h] W fun e W' =>
      e = .returned (.tuple #[.agg #[.int .i64 (if 1 ≤ w ∧ w ≤ 12 ∧ 1 ≤ h ∧ h ≤ 12 then w else 0), .int .i64 (if 1 ≤ w ∧ w ≤ 12 ∧ 1 ≤ h ∧ h ≤ 12 then h else 0)], .bool (decide (1 ≤ w ∧ w ≤ 12 ∧ 1 ≤ h ∧ h ≤ 12))]) ∧ Below W.heap.size W W' := by
  by_cases hy : 1 ≤ w ∧ w ≤ 12 ∧ 1 ≤ h ∧ h ≤ 12
  · rw [if_pos hy, if_pos hy, decide_eq_true hy]
    obtain ⟨h1, h2, h3, h4⟩ := hy
    have d1 : decide (w < 1) = false := decide_eq_false (by omega)
    have d2 : decide (12 < w) = false := decide_eq_false (by omega)
    have d3 : decide (h < 1) = false := decide_eq_false (by omega)
    have d4 : decide (12 < h) = false := decide_eq_false (by omega)
    go_enter Try.func38, Try.ntmps38
    go_wp2
    refine bodyPost_ret (v := .tuple #[.agg #[.int .i64 w, .int .i64 h], .bool true]) (results_sh2 Try.results38 rfl (HeldB.new _ _ _) rfl) rfl ⟨rfl, ?_⟩
    exact (Below.refl _ W).alloc (Nat.le_refl _) _
  · rw [if_neg hy, if_neg hy, decide_eq_false hy]
    have arm : ∀ p q r s : Bool, decide (w < 1) = p → decide (12 < w) = q → decide (h < 1) = r → decide (12 < h) = s → Calls Try.prog 38 #[.int .i64 w, .int .i64 h] W fun e W' =>
      e = .returned (.tuple #[.agg #[.int .i64 0, .int .i64 0], .bool false]) ∧ Below W.heap.size W W' := by
      intro p q r s h1 h2 h3 h4
      have hps : p = true ∨ q = true ∨ r = true ∨ s = true := by
        rw [← h1, ← h2, ← h3, ← h4]; simp only [decide_eq_true_eq]; omega
      clear hy
      cases p <;> cases q <;> cases r <;> cases s <;> first
        | (exfalso; simp at hps; done)
        | (clear hps
           go_enter Try.func38, Try.ntmps38
           go_wp2
           refine bodyPost_ret (v := .tuple #[.agg #[.int .i64 0, .int .i64 0], .bool false]) (results_sh2 Try.results38 rfl (HeldB.new _ _ _) rfl) rfl ⟨rfl, ?_⟩
           exact (Below.refl _ W).alloc (Nat.le_refl _) _)
    exact arm _ _ _ _ rfl rfl rfl rfl


def shB (w h : Int) : Bool := decide (1 ≤ w ∧ w ≤ 12 ∧ 1 ≤ h ∧ h ≤ 12)
theorem shB_yes {w h : Int} (hy : shB w h = true) : ∃ x y : Nat, w = (x : Int) ∧ h = (y : Int) ∧ 1 ≤ x ∧ x ≤ 12 ∧ 1 ≤ y ∧ y ≤ 12 := by
  unfold shB at hy
  rw [decide_eq_true_eq] at hy
  exact ⟨w.toNat, h.toNat, by omega, by omega, by omega, by omega, by omega, by omega⟩
theorem shB_nat {x y : Nat} (h1 : 1 ≤ x) (h2 : x ≤ 12) (h3 : 1 ≤ y) (h4 : y ≤ 12) : shB x y = true := by
  unfold shB; rw [decide_eq_true_eq]; omega
theorem shRead_yes {w h : Int} (hy : shB w h = true) (W : World) :
    Calls Try.prog 38 #[.int .i64 w, .int .i64 h] W fun e W' => e = .returned (.tuple #[.agg #[.int .i64 w, .int .i64 h], .bool true]) ∧ Below W.heap.size W W' := by
  have := shRead_any w h W
  unfold shB at hy
  rw [hy] at this
  rw [decide_eq_true_eq] at hy
  rw [if_pos hy, if_pos hy] at this
  exact this
theorem shRead_no {w h : Int} (hn : shB w h = false) (W : World) :
    Calls Try.prog 38 #[.int .i64 w, .int .i64 h] W fun e W' => e = .returned (.tuple #[.agg #[.int .i64 0, .int .i64 0], .bool false]) ∧ Below W.heap.size W W' := by
  have := shRead_any w h W
  unfold shB at hn
  rw [hn] at this
  rw [decide_eq_false_iff_not] at hn
  rw [if_neg hn, if_neg hn] at this
  exact this
def sh0 (b : Bool) (x : Int) : Int := if b then x else 0
set_option maxRecDepth 100000 in
set_option maxHeartbeats 2000000 in
theorem shRead2_any (w h a b : Int) (W : World) :
    Calls Try.prog 29 #[.int .i64 w, .int .i64 h, .int .i64 a, .int .i64 b] W fun e W' =>
      e = .returned (.tuple #[.agg #[.int .i64 (sh0 (shB w h && shB a b) w), .int .i64 (sh0 (shB w h && shB a b) h)], .agg #[.int .i64 (sh0 (shB w h && shB a b) a), .int .i64 (sh0 (shB w h && shB a b) b)], .bool (shB w h && shB a b)]) ∧ Below W.heap.size W W' := by
  have arm : ∀ p q : Bool, shB w h = p → shB a b = q → Calls Try.prog 29 #[.int .i64 w, .int .i64 h, .int .i64 a, .int .i64 b] W fun e W' =>
      e = .returned (.tuple #[.agg #[.int .i64 (sh0 (p && q) w), .int .i64 (sh0 (p && q) h)], .agg #[.int .i64 (sh0 (p && q) a), .int .i64 (sh0 (p && q) b)], .bool (p && q)]) ∧ Below W.heap.size W W' := by
    intro p q hp hq
    cases p <;> cases q
    · have H1 := Lib.hid (fun W => shRead_no hp W)
      have H2 := Lib.hid (fun W => shRead_no hq W)
      clear hp hq
      simp only [sh0, Bool.and_false, Bool.false_eq_true, if_false]
      have HSZ := Lib.hid (show (Try.prog.info? 36).map (·.size) = some (#[.int .i64 0, .int .i64 0] : Array Value).size by kernel_rfl)
      have HON := Lib.hid (show (#[.int .i64 0, .int .i64 0] : Array Value).all (·.oneCell') = true by kernel_rfl)
      go_enter Try.func29, Try.ntmps29
      go_wp2_with (first
        | (go_at_call 38; refine (H1.out _).mono ?_; rintro e w1 ⟨rfl, hb1⟩; clear H1
           have k0 : HeldB w1 W.heap.size 36 #[.int .i64 0, .int .i64 0] := ((HeldB.new W _ _).alloc _).below hb1
           have k1 : HeldB w1 (W.heap.size + 1) 36 #[.int .i64 0, .int .i64 0] := (held_new1 W _ _ _).below hb1
           have B1 : Below W.heap.size W w1 := below_step (((Below.refl _ W).alloc (Nat.le_refl _) _).alloc (by simp) _) (by simp; omega) hb1)
        | (go_at_call 38; refine (H2.out _).mono ?_; rintro e w2 ⟨rfl, hb2⟩; clear H2
           have B2 := below_step (B1.alloc B1.size _) (Nat.le_trans B1.size (by simp)) hb2
           have j0 := ((k0.alloc _).below hb2).alloc (.cells #[.int .i64 0, .int .i64 0] 36)
           have j1 := ((k1.alloc _).below hb2).alloc (.cells #[.int .i64 0, .int .i64 0] 36)
           have r1 := (j1.otherRow (B' := W.heap.size) (by omega) #[.int .i64 0, .int .i64 0] : HeldB _ (W.heap.size + 1) 36 #[.int .i64 0, .int .i64 0])
           have B3 := B2.alloc B2.size (.cells #[.int .i64 0, .int .i64 0] 36))
        | (refine wpList_store_row rfl 36 _ _ rfl W.heap.size #[.int .i64 0, .int .i64 0] rfl rfl 36 _ j0 HSZ.out rfl HON.out ?_)
        | (refine wpList_store_row rfl 36 _ _ rfl (W.heap.size + 1) #[.int .i64 0, .int .i64 0] rfl rfl 36 _ r1 HSZ.out rfl HON.out ?_))
      refine bodyPost_ret (v := .tuple #[.agg #[.int .i64 0, .int .i64 0], .agg #[.int .i64 0, .int .i64 0], .bool false]) (results_sh3 Try.results29 rfl ((j0.setRow _).otherRow (by omega) _) rfl (r1.setRow _) rfl) rfl ⟨rfl, ?_⟩
      exact below_setRowB (below_setRowB B3 (Nat.le_refl _) _) (by omega) _
    · have H1 := Lib.hid (fun W => shRead_no hp W)
      have H2 := Lib.hid (fun W => shRead_yes hq W)
      clear hp hq
      simp only [sh0, Bool.false_and, Bool.false_eq_true, if_false]
      have HSZ := Lib.hid (show (Try.prog.info? 36).map (·.size) = some (#[.int .i64 0, .int .i64 0] : Array Value).size by kernel_rfl)
      have HON := Lib.hid (show (#[.int .i64 0, .int .i64 0] : Array Value).all (·.oneCell') = true by kernel_rfl)
      go_enter Try.func29, Try.ntmps29
      go_wp2_with (first
        | (go_at_call 38; refine (H1.out _).mono ?_; rintro e w1 ⟨rfl, hb1⟩; clear H1
           have k0 : HeldB w1 W.heap.size 36 #[.int .i64 0, .int .i64 0] := ((HeldB.new W _ _).alloc _).below hb1
           have k1 : HeldB w1 (W.heap.size + 1) 36 #[.int .i64 0, .int .i64 0] := (held_new1 W _ _ _).below hb1
           have B1 : Below W.heap.size W w1 := below_step (((Below.refl _ W).alloc (Nat.le_refl _) _).alloc (by simp) _) (by simp; omega) hb1)
        | (go_at_call 38; refine (H2.out _).mono ?_; rintro e w2 ⟨rfl, hb2⟩; clear H2
           have B2 := below_step (B1.alloc B1.size _) (Nat.le_trans B1.size (by simp)) hb2
           have j0 := ((k0.alloc _).below hb2).alloc (.cells #[.int .i64 a, .int .i64 b] 36)
           have j1 := ((k1.alloc _).below hb2).alloc (.cells #[.int .i64 a, .int .i64 b] 36)
           have r1 := (j1.otherRow (B' := W.heap.size) (by omega) #[.int .i64 0, .int .i64 0] : HeldB _ (W.heap.size + 1) 36 #[.int .i64 0, .int .i64 0])
           have B3 := B2.alloc B2.size (.cells #[.int .i64 a, .int .i64 b] 36))
        | (refine wpList_store_row rfl 36 _ _ rfl W.heap.size #[.int .i64 0, .int .i64 0] rfl rfl 36 _ j0 HSZ.out rfl HON.out ?_)
        | (refine wpList_store_row rfl 36 _ _ rfl (W.heap.size + 1) #[.int .i64 0, .int .i64 0] rfl rfl 36 _ r1 HSZ.out rfl HON.out ?_))
      refine bodyPost_ret (v := .tuple #[.agg #[.int .i64 0, .int .i64 0], .agg #[.int .i64 0, .int .i64 0], .bool false]) (results_sh3 Try.results29 rfl ((j0.setRow _).otherRow (by omega) _) rfl (r1.setRow _) rfl) rfl ⟨rfl, ?_⟩
      exact below_setRowB (below_setRowB B3 (Nat.le_refl _) _) (by omega) _
    · have H1 := Lib.hid (fun W => shRead_yes hp W)
      have H2 := Lib.hid (fun W => shRead_no hq W)
      clear hp hq
      simp only [sh0, Bool.and_false, Bool.false_eq_true, if_false]
      have HSZ := Lib.hid (show (Try.prog.info? 36).map (·.size) = some (#[.int .i64 0, .int .i64 0] : Array Value).size by kernel_rfl)
      have HON := Lib.hid (show (#[.int .i64 0, .int .i64 0] : Array Value).all (·.oneCell') = true by kernel_rfl)
      go_enter Try.func29, Try.ntmps29
      go_wp2_with (first
        | (go_at_call 38; refine (H1.out _).mono ?_; rintro e w1 ⟨rfl, hb1⟩; clear H1
           have k0 : HeldB w1 W.heap.size 36 #[.int .i64 0, .int .i64 0] := ((HeldB.new W _ _).alloc _).below hb1
           have k1 : HeldB w1 (W.heap.size + 1) 36 #[.int .i64 0, .int .i64 0] := (held_new1 W _ _ _).below hb1
           have B1 : Below W.heap.size W w1 := below_step (((Below.refl _ W).alloc (Nat.le_refl _) _).alloc (by simp) _) (by simp; omega) hb1)
        | (go_at_call 38; refine (H2.out _).mono ?_; rintro e w2 ⟨rfl, hb2⟩; clear H2
           have B2 := below_step (B1.alloc B1.size _) (Nat.le_trans B1.size (by simp)) hb2
           have j0 := ((k0.alloc _).below hb2).alloc (.cells #[.int .i64 0, .int .i64 0] 36)
           have j1 := ((k1.alloc _).below hb2).alloc (.cells #[.int .i64 0, .int .i64 0] 36)
           have r1 := (j1.otherRow (B' := W.heap.size) (by omega) #[.int .i64 0, .int .i64 0] : HeldB _ (W.heap.size + 1) 36 #[.int .i64 0, .int .i64 0])
           have B3 := B2.alloc B2.size (.cells #[.int .i64 0, .int .i64 0] 36))
        | (refine wpList_store_row rfl 36 _ _ rfl W.heap.size #[.int .i64 0, .int .i64 0] rfl rfl 36 _ j0 HSZ.out rfl HON.out ?_)
        | (refine wpList_store_row rfl 36 _ _ rfl (W.heap.size + 1) #[.int .i64 0, .int .i64 0] rfl rfl 36 _ r1 HSZ.out rfl HON.out ?_))
      refine bodyPost_ret (v := .tuple #[.agg #[.int .i64 0, .int .i64 0], .agg #[.int .i64 0, .int .i64 0], .bool false]) (results_sh3 Try.results29 rfl ((j0.setRow _).otherRow (by omega) _) rfl (r1.setRow _) rfl) rfl ⟨rfl, ?_⟩
      exact below_setRowB (below_setRowB B3 (Nat.le_refl _) _) (by omega) _
    · have H1 := Lib.hid (fun W => shRead_yes hp W)
      have H2 := Lib.hid (fun W => shRead_yes hq W)
      clear hp hq
      simp only [sh0, Bool.and_true, if_true]
      go_enter Try.func29, Try.ntmps29
      go_wp2_with (first
        | (go_at_call 38; refine (H1.out _).mono ?_; rintro e w1 ⟨rfl, hb1⟩; clear H1
           have k0 : HeldB w1 W.heap.size 36 #[.int .i64 0, .int .i64 0] := ((HeldB.new W _ _).alloc _).below hb1
           have k1 : HeldB w1 (W.heap.size + 1) 36 #[.int .i64 0, .int .i64 0] := (held_new1 W _ _ _).below hb1
           have B1 : Below W.heap.size W w1 := below_step (((Below.refl _ W).alloc (Nat.le_refl _) _).alloc (by simp) _) (by simp; omega) hb1
           have hs1 : W.heap.size + 2 ≤ w1.heap.size := by have := hb1.size; simp at this; omega)
        | (go_at_call 38; refine (H2.out _).mono ?_; rintro e w2 ⟨rfl, hb2⟩; clear H2
           have B2 := below_step (B1.alloc B1.size _) (Nat.le_trans B1.size (by simp)) hb2
           have hs2 : w1.heap.size + 1 ≤ w2.heap.size := by have := hb2.size; simp at this; omega
           have j0 := ((k0.alloc _).below hb2).alloc (.cells #[.int .i64 a, .int .i64 b] 36)
           have j1 := ((k1.alloc _).below hb2).alloc (.cells #[.int .i64 a, .int .i64 b] 36)
           have j2 := ((HeldB.new w1 _ _).below hb2).alloc (.cells #[.int .i64 a, .int .i64 b] 36)
           have j3 := HeldB.new w2 36 #[.int .i64 a, .int .i64 b]
           have B3 := B2.alloc B2.size (.cells #[.int .i64 a, .int .i64 b] 36)))
      have hs3 : w2.heap.size < (w2.alloc (.cells #[.int .i64 a, .int .i64 b] 36)).heap.size := by simp
      generalize w2.alloc (.cells #[.int .i64 a, .int .i64 b] 36) = w3 at *
      generalize hg1 : w1.heap.size = g1 at *
      generalize hg2 : w2.heap.size = g2 at *
      clear hb1 hb2 B1 B2 k0 k1 hg1 hg2
      have c00 := j0.cell 0
      have c01 := j0.cell 1
      have c10 := j1.cell 0
      have c11 := j1.cell 1
      have c20 := j2.cell 0
      have c21 := j2.cell 1
      have c30 := j3.cell 0
      have c31 := j3.cell 1
      have f00 := j0.frozen 0
      have f01 := j0.frozen 1
      have f10 := j1.frozen 0
      have f11 := j1.frozen 1
      have r0 : HeldB ((((w3.setCell ⟨W.heap.size, 0, none⟩ (.int .i64 w)).setCell ⟨W.heap.size, 1, none⟩ (.int .i64 h)).setCell ⟨W.heap.size + 1, 0, none⟩ (.int .i64 a)).setCell ⟨W.heap.size + 1, 1, none⟩ (.int .i64 b)).drew W.heap.size 36 #[.int .i64 w, .int .i64 h] :=
        ((((j0.set 0 _).set 1 _).other (by simp) _).other (by simp) _).drew
      have r1 : HeldB ((((w3.setCell ⟨W.heap.size, 0, none⟩ (.int .i64 w)).setCell ⟨W.heap.size, 1, none⟩ (.int .i64 h)).setCell ⟨W.heap.size + 1, 0, none⟩ (.int .i64 a)).setCell ⟨W.heap.size + 1, 1, none⟩ (.int .i64 b)).drew (W.heap.size + 1) 36 #[.int .i64 a, .int .i64 b] :=
        ((((j1.other (by simp) _).other (by simp) _).set 0 _).set 1 _).drew
      have B4 : Below W.heap.size W ((((w3.setCell ⟨W.heap.size, 0, none⟩ (.int .i64 w)).setCell ⟨W.heap.size, 1, none⟩ (.int .i64 h)).setCell ⟨W.heap.size + 1, 0, none⟩ (.int .i64 a)).setCell ⟨W.heap.size + 1, 1, none⟩ (.int .i64 b)).drew :=
        ((((B3.setCell (Nat.le_refl _) _).setCell (Nat.le_refl _) _).setCell (by simp) _).setCell (by simp) _).trans (below_drewN _ _ 1)
      clear j0 j1 j2 j3
      go_region
      go_wp2
      exact bodyPost_ret (v := .tuple #[.agg #[.int .i64 w, .int .i64 h], .agg #[.int .i64 a, .int .i64 b], .bool true]) (results_sh3 Try.results29 rfl r0 rfl r1 rfl) rfl ⟨rfl, B4⟩
  exact arm _ _ rfl rfl

end Go.Proofs.Ytfemfmkgdgcemaa
