
/-
  The program's drawings: none, and those of a plan with needs. (Walks.)
-/
import Derived.Test.YtmbpffpkmjechaaSizB
import Derived.Test.YtmbpffpkmjechaaSizS
namespace Go.Proofs.Ytmbpffpkmjechaa
open Go.RowKit

/-! # a drawing of nothing -/
def noDw : Array Value := dwC (ordC zeroC noF) 0 (.slice none 0 0)
theorem zeroO_size : (ordC zeroC noF).size = 201 := ordC_size (planC_size 0 0 0 (fun _ _ => 0)) noF
theorem noDw_size : noDw.size = 203 := dwC_size zeroO_size _ _
theorem noDw_info : (Try.prog.info? 49).map (·.size) = some noDw.size := by rw [noDw_size]; kernel_rfl
theorem noDw_2 : noDw[2]? = some (.int .i64 ((0 : Nat) : Int)) := by
  unfold noDw
  rw [dwC_lo (by rw [zeroO_size]; omega), ordC_lo noF (by rw [show zeroC.size = 39 from planC_size 0 0 0 (fun _ _ => 0)]; omega)]
  rfl
theorem noDw_n : noDw[202]? = some (.slice none 0 0) := dwC_needs zeroO_size _ _
set_option maxRecDepth 100000 in
theorem noDw_one : noDw.all (·.oneCell') = true := by kernel_rfl
set_option maxRecDepth 100000 in
theorem noDw_lit : noDw = #[.int .i64 0, .int .i64 0, .int .i64 0, .int .i64 0, .int .i64 0, .int .i64 0, .int .i64 0, .int .i64 0, .int .i64 0, .int .i64 0, .int .i64 0, .int .i64 0, .int .i64 0, .int .i64 0, .int .i64 0, .int .i64 0, .int .i64 0, .int .i64 0, .int .i64 0, .int .i64 0, .int .i64 0, .int .i64 0, .int .i64 0, .int .i64 0, .int .i64 0, .int .i64 0, .int .i64 0, .int .i64 0, .int .i64 0, .int .i64 0, .int .i64 0, .int .i64 0, .int .i64 0, .int .i64 0, .int .i64 0, .int .i64 0, .int .i64 0, .int .i64 0, .int .i64 0, .bool false, .bool false, .bool false, .bool false, .bool false, .bool false, .bool false, .bool false, .bool false, .bool false, .bool false, .bool false, .bool false, .bool false, .bool false, .bool false, .bool false, .bool false, .bool false, .bool false, .bool false, .bool false, .bool false, .bool false, .bool false, .bool false, .bool false, .bool false, .bool false, .bool false, .bool false, .bool false, .bool false, .bool false, .bool false, .bool false, .bool false, .bool false, .bool false, .bool false, .bool false, .bool false, .bool false, .bool false, .bool false, .bool false, .bool false, .bool false, .bool false, .bool false, .bool false, .bool false, .bool false, .bool false, .bool false, .bool false, .bool false, .bool false, .bool false, .bool false, .bool false, .bool false, .bool false, .bool false, .bool false, .bool false, .bool false, .bool false, .bool false, .bool false, .bool false, .bool false, .bool false, .bool false, .bool false, .bool false, .bool false, .bool false, .bool false, .bool false, .bool false, .bool false, .bool false, .bool false, .bool false, .bool false, .bool false, .bool false, .bool false, .bool false, .bool false, .bool false, .bool false, .bool false, .bool false, .bool false, .bool false, .bool false, .bool false, .bool false, .bool false, .bool false, .bool false, .bool false, .bool false, .bool false, .bool false, .bool false, .bool false, .bool false, .bool false, .bool false, .bool false, .bool false, .bool false, .bool false, .bool false, .bool false, .bool false, .bool false, .bool false, .bool false, .bool false, .bool false, .bool false, .bool false, .bool false, .bool false, .bool false, .bool false, .bool false, .bool false, .bool false, .bool false, .bool false, .bool false, .bool false, .bool false, .bool false, .bool false, .bool false, .bool false, .bool false, .bool false, .bool false, .bool false, .bool false, .bool false, .bool false, .bool false, .bool false, .bool false, .bool false, .bool false, .bool false, .bool false, .bool false, .bool false, .bool false, .bool false, .bool false, .bool false, .int .i64 0, .slice none 0 0] := by kernel_rfl
set_option maxRecDepth 100000 in
theorem noDw_zero (w : World) : (zeroValue 49).run Try.prog w = .ok (.agg noDw) w := by
  rw [noDw_lit]; exact Try.zeroValue49 w
set_option maxRecDepth 100000 in
theorem noDw_built : Try.prog.built 49 [] = some noDw := by kernel_rfl
set_option maxRecDepth 100000 in
theorem built_dw (h wd r : Nat) (gg : Nat → Nat → Nat) (F : Nat → Nat → Nat → Bool) (way : Int) (ao : Option Addr) (n c : Nat) : Try.prog.built 49 [(0, .agg (ordC (planC h wd r gg) F)), (1, .int .i64 way), (2, .slice ao n c)] = some (dwC (ordC (planC h wd r gg) F) way (.slice ao n c)) := by kernel_rfl

set_option maxRecDepth 100000 in
theorem insertionNil_any (fv : Value) (w : World) :
    Calls Try.prog 65 #[.slice none 0 0, .int .i64 0, .int .i64 0, fv] w fun e w' => e = .returned (.tuple #[]) ∧ w' = w := by
  go_enter Try.func65, Try.ntmps65
  go_wp2
  refine wp_loop_rounds 1 ?_
  rw [rounds_succ]
  go_wp2
  exact bodyPost_end (v := .tuple #[]) (by simp [results, Try.results65, go_sem]) rfl ⟨rfl, rfl⟩
set_option maxRecDepth 100000 in
theorem pdqNil_any (lim : Int) (fv : Value) (w : World) :
    Calls Try.prog 51 #[.slice none 0 0, .int .i64 0, .int .i64 0, .int .i64 lim, fv] w fun e w' => e = .returned (.tuple #[]) ∧ w' = w := by
  go_enter Try.func51, Try.ntmps51
  go_wp2
  refine wp_loop_rounds 1 ?_
  rw [rounds_succ]
  go_wp2_with (go_at_call 65; refine (insertionNil_any _ _).mono ?_; rintro e w1 ⟨rfl, rfl⟩)
  exact bodyPost_ret (results_none rfl _ _ _) rfl ⟨rfl, rfl⟩
set_option maxRecDepth 100000 in
theorem sortNil_any (fv : Value) (w : World) :
    Calls Try.prog 42 #[.slice none 0 0, fv] w fun e w' => e = .returned (.tuple #[]) ∧ w' = w := by
  have HL := Lib.hid (fun w => len_any 0 (by omega) w)
  go_enter Try.func42, Try.ntmps42
  go_wp2_with (first
    | (go_at_call 52; refine (HL.out _).mono ?_; rintro e w' ⟨⟨l, rfl⟩, rfl⟩)
    | (go_at_call 51; refine (pdqNil_any _ _ _).mono ?_; rintro e w1 ⟨rfl, rfl⟩))
  go_end0
  exact ⟨rfl, rfl⟩
set_option maxRecDepth 100000 in
theorem cloneNil_any (w : World) :
    Calls Try.prog 41 #[.slice none 0 0] w fun e w' => e = .returned (.slice none 0 0) ∧ w' = w := by
  have hnil : ∀ W, (binOp .eql 47 (.slice none 0 0) (.slice none 0 0)).run Try.prog W = .ok (.bool true) W := fun W => Lib.run_eql_slice_nil_nil W _ _ Try.underlying47
  go_enter Try.func41, Try.ntmps41
  go_wp2
  go_ret
  exact ⟨rfl, rfl⟩
set_option maxRecDepth 100000 in
set_option maxHeartbeats 4000000 in
theorem aheadNil_any (fv : Value) (w : World) :
    Calls Try.prog 31 #[.agg noDw, fv] w fun e w' => PlRet w.heap.size [] e w' ∧ Below w.heap.size w w' := by
  have hB := HeldB.new w 49 noDw
  have c2 := (hB.cell 2).trans noDw_2
  have HKN := Lib.hid noDw_n
  have HB := Lib.hid hB
  have HB0 := Lib.hid (below_alloc w (.cells noDw 49))
  clear hB
  generalize noDw = D at *
  obtain ⟨im, hmi, hmz, hm1, hm2⟩ := info_parts Try.infoNum
  go_enter Try.func31, Try.ntmps31
  go_wp2_with (first
    | (at_make; refine wpList_make_full _ rfl _ _ 23 rfl (w.heap.size + 1) 3 im (.int .i64 0) 1 Try.underlying23 hmi hmz hm1 .i64 .i64 _ _ 0 rfl rfl rfl rfl ?d2 ?d3 (by simp) ?_; rotate_left 2; intro w2 ho2 hg2; have bD2 := HB.out.kept hg2 (by simp); have kN2 := (bD2.cell 202).trans HKN.out)
    | (go_at_call 41; refine (cloneNil_any _).mono ?_; rintro e w3 ⟨rfl, rfl⟩)
    | (go_at_call 42; refine (sortNil_any _ _).mono ?_; rintro e w4 ⟨rfl, rfl⟩))
  case d2 => rw [hm2]; omega
  case d3 => unfold maxLen; omega
  have hz2 := held_zeros ho2
  simp only [World.size_alloc] at hz2
  have hb2 := HB0.out.trans ((below_of_grownBy hg2 (Nat.le_refl _) (by simp)).mono (by simp))
  clear ho2 hg2 bD2 kN2 c2
  refine wp_loop_rounds 1 ?_
  rw [rounds_succ]
  go_wp2
  go_ret
  exact ⟨⟨w.heap.size + 1, by omega, rfl, hz2⟩, hb2⟩
set_option maxRecDepth 100000 in
set_option maxHeartbeats 4000000 in
theorem leastNil_any (w : World) :
    Calls Try.prog 29 #[.agg noDw] w fun e w' => e = .returned (.int .i64 ((0 : Nat) : Int)) ∧ Below w.heap.size w w' := by
  have HAH := Lib.hid (fun fv w => aheadNil_any fv w)
  have hB := HeldB.new w 49 noDw
  have HKN := Lib.hid noDw_n
  have HSZ := Lib.hid noDw_info
  have hb0 := below_alloc w (.cells noDw 49)
  generalize noDw = D at *
  have hW1 : (w.alloc (.cells D 49)).heap[w.heap.size]? = some (.cells D 49 (0, 0)) := hB
  go_enter Try.func29, Try.ntmps29
  go_wp2_with (first
    | (refine wpList_load_row rfl 49 _ rfl w.heap.size rfl 49 D (0, 0) _ hW1 Try.underlying49 rfl HSZ.out ?_)
    | (go_at_call 31; refine (HAH.out _ _).mono ?_; rintro e w2 ⟨⟨gA, hgA, rfl, hA⟩, hb2⟩; have bD2 := hB.below hb2; have kN2 := (bD2.cell 202).trans HKN.out; clear HAH))
  refine wp_loop_rounds 1 ?_
  rw [rounds_succ]
  go_wp2
  go_ret
  exact ⟨rfl, below_step hb0 hb0.size hb2⟩

end Go.Proofs.Ytmbpffpkmjechaa
