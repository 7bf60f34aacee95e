
/-
  Merged texts: SizS SizC SizU.
-/
import Derived.Test.YthlbekookpcacaaSizX
import Derived.Test.YthlbekookpcacaaOrdAB
import Derived.BigRegion

/-
  The model's least widths. (Walks.)
-/
namespace Go.Proofs.Ythlbekookpcacaa
open Go.RowKit

/-- the needs of a list -/
def dN (l : List Int) (a : Nat) : Nat := (l.getD a 0).toNat
/-- may a list be needs of a plan -/
def needB (l : List Int) : Bool := l.all fun x => decide (1 ≤ x) && decide (x ≤ 9)
def sizedB (p : List ByteArray) (l : List Int) : Bool := plainB p && (decide (l.length = gridR p) && needB l)
theorem needB_at {l : List Int} (h : needB l = true) {a : Nat} (ha : a < l.length) : l.getD a 0 = ((dN l a : Nat) : Int) ∧ 1 ≤ dN l a ∧ dN l a ≤ 9 := by
  unfold needB at h
  rw [List.all_eq_true] at h
  have := h (l.getD a 0) (by rw [List.getD_eq_getElem?_getD, List.getElem?_eq_getElem ha]; exact List.getElem_mem ha)
  rw [Bool.and_eq_true, decide_eq_true_eq, decide_eq_true_eq] at this
  unfold dN
  omega
theorem needB_take {l : List Int} {i : Nat} (hi : i < l.length) : needB (l.take (i + 1)) = (needB (l.take i) && (decide (1 ≤ l.getD i 0) && decide (l.getD i 0 ≤ 9))) := by
  unfold needB
  rw [take_succ_getD l i 0 hi, List.all_append]
  simp
theorem needB_stop {l : List Int} {i : Nat} (hi : i < l.length) (h : (decide (1 ≤ l.getD i 0) && decide (l.getD i 0 ≤ 9)) = false) : needB l = false := by
  cases hn : needB l
  · rfl
  · have := needB_at hn hi
    rw [Bool.and_eq_false_iff, decide_eq_false_iff_not, decide_eq_false_iff_not] at h
    omega
theorem sizedB_yes {p : List ByteArray} {l : List Int} (h : sizedB p l = true) : plainB p = true ∧ l.length = gridR p ∧ needB l = true := by
  unfold sizedB at h
  rw [Bool.and_eq_true, Bool.and_eq_true, decide_eq_true_eq] at h
  exact h

theorem max_sumS (y x e : Nat) : (if (y : Int) < (x : Int) + (e : Int) then (x : Int) + (e : Int) else (y : Int)) = ((max y (x + e) : Nat) : Int) := by split <;> omega
def PzSt (w : World) (gs : Nat) (S0 S : List Nat) (wr : World) : Prop := HeldB wr gs 3 (setsV S0) ∧ HeldB wr w.heap.size 3 (setsV S) ∧ Below w.heap.size w wr
theorem PzSt.put {w : World} {gs : Nat} {S0 S T : List Nat} {wr : World} (h : PzSt w gs S0 S wr) (hgn : gs ≠ w.heap.size) (x m : Nat) (hT : S.set x m = T) : PzSt w gs S0 T (wr.setCell ⟨w.heap.size, x, none⟩ (.int .i64 (m : Nat))) := by
  refine ⟨h.1.other (by simpa using hgn) _, ?_, h.2.2.setCell (Nat.le_refl _) _⟩
  rw [← hT, ← setsV_put]
  exact h.2.1.set x _
theorem PzSt.drew {w : World} {gs : Nat} {S0 S : List Nat} {wr : World} (h : PzSt w gs S0 S wr) : PzSt w gs S0 S wr.drew := ⟨h.1.drew, h.2.1.drew, h.2.2.drew⟩
set_option maxRecDepth 100000 in
set_option maxHeartbeats 8000000 in
theorem l7Places_any (ao bo : Option Addr) (ca cb : Nat) (p : List ByteArray) (l : List Int) (kind : Nat) (w : World) (hl : p.length ≤ 1048576) (hs : ∀ s ∈ p, s.size ≤ 1048576) (hp : plainB p = true) (hlen : l.length = gridR p) (hn : needB l = true) (hk : kind < 2)
    (hc : CellsAt w ao (p.map Value.string)) (hd : CellsAt w bo (l.map (Value.int .i64))) :
    Calls Try.prog 49 #[.slice ao p.length ca, .slice bo (gridR p) cb, .int .i64 kind] w fun e w' => PlRet w.heap.size (sumL (pL p kind) (dN l) (gridR p)) e w' ∧ Below w.heap.size w w' := by
  have HA := Lib.hid (fun w hc => l5AllP_any ao ca p kind w hl hs (plainB_plan hp) hc)
  have hr9 := (planP_of (plainB_plan hp)).few
  have hr1 : 1 ≤ gridR p := by
    have hP := planP_of (plainB_plan hp)
    have h := gridG_lt (p := p) (i := 0) (j := 0) (by have := hP.grid.h1; omega) (by have := hP.grid.w1; omega)
    omega
  have G := pL_goes hp hk
  have hdd : ∀ a, a < gridR p → dN l a ≤ 9 := fun a ha => (needB_at hn (by omega)).2.2
  have HUP := Lib.hid (fun b (hb : b < gridR p) => G.sum_few hdd hb hr9)
  have HND := Lib.hid (fun a (ha : a < gridR p) => needB_at hn (by omega : a < l.length))
  have HLN := Lib.hid hlen
  have HG := Lib.hid G
  clear hl hs hp hlen hn hdd G
  generalize pL p kind = f at *
  generalize firstQ (pL p) = q at *
  generalize gridR p = r at *
  generalize hdl : dN l = d at *
  clear hdl
  obtain ⟨im, hmi, hmz, hm1, hm2⟩ := info_parts Try.infoNum
  have HDC := Lib.hid hd
  clear hd
  go_enter Try.func49, Try.ntmps49
  go_wp2_with fail
  refine (HA.out _ hc).mono ?_
  rintro e w1 ⟨⟨S0, his, gs, hgs, rfl, hB0⟩, hb1⟩
  have HBIT := Lib.hid (fun (x y : Nat) (hx : x < r) => show (bits .and .i64 (((S0.getD x 0 : Nat) : Int) / 2 ^ y) 1 == 1) = f x y by
    rw [← his.bit x y hx]; exact bit_i64 _ y (his.low x hx))
  have HCEL := Lib.hid (fun (x : Nat) (hx : x < r) => show (setsV S0)[x]? = some (.int .i64 ((S0.getD x 0 : Nat) : Int)) from setsV_at (by rw [his.len]; exact hx))
  have hsl := his.len
  clear his
  rw [hsl]
  have HSL := Lib.hid hsl
  clear hsl
  have hdc1 := HDC.out.below hb1
  clear hc HA
  go_wp2_with (at_make; refine wpList_make_full _ rfl _ _ 31 rfl w1.heap.size 3 im (.int .i64 0) 1 Try.underlying31 hmi hmz hm1 .i64 .i64 _ _ r rfl rfl rfl rfl ?d2 ?d3 (Nat.le_refl _) ?_; rotate_left 2; intro w3 ho3 hg3; have hb3 : Below w1.heap.size w1 w3 := below_of_grownBy hg3 (Nat.le_refl _) (by simp); have hz := held_zeros ho3)
  case d2 => rw [hm2]; omega
  case d3 => unfold maxLen; omega
  have hgn : gs ≠ w1.heap.size := by have := hB0.lt; omega
  have st3 : PzSt w1 gs S0 (List.replicate r 0) w3 := ⟨hB0.below hb3, hz, hb3⟩
  have wa3 : WaJ f d r 0 0 0 (List.replicate r 0) := WaJ.start f d r
  obtain ⟨nb, no, rfl, -⟩ := hdc1.int 0 (by rw [HLN.out]; omega)
  have HDC1 := Lib.hid hdc1
  clear hz hB0 hb3 ho3 hg3 hdc1 HDC
  go_loopw [9, 10, 11] (fun v9 _ _ wr => ∃ (t : Nat) (S : List Nat), t ≤ r ∧ v9 = .int .i64 (t : Int) ∧ PzSt w1 gs S0 S wr ∧ WaJ f d r t 0 0 S) (fun v _ _ _ => r - (intOf v).toNat)
  case atStart => exact ⟨0, _, Nat.zero_le _, rfl, st3, wa3⟩
  case round =>
    clear st3 wa3
    obtain ⟨t, S, ht, rfl, hst, hwa⟩ := hrel
    by_cases htr : t < r
    · go_wp2
      go_loopw [10, 11] (fun v10 _ wr => ∃ (a : Nat) (S : List Nat), a ≤ r ∧ v10 = .int .i64 (a : Int) ∧ PzSt w1 gs S0 S wr ∧ WaJ f d r t a 0 S) (fun v _ _ => r - (intOf v).toNat)
      case atStart => exact ⟨0, S, Nat.zero_le _, rfl, hst, hwa⟩
      case round =>
        clear hst hwa
        obtain ⟨a, S, ha, rfl, hst, hwa⟩ := hrel
        by_cases har : a < r
        · go_wp2
          go_loopw [11] (fun v11 wr => ∃ (j : Nat) (S : List Nat), j ≤ r ∧ v11 = .int .i64 (j : Int) ∧ PzSt w1 gs S0 S wr ∧ WaJ f d r t a j S) (fun v _ => r - (intOf v).toNat)
          case atStart => exact ⟨0, S, Nat.zero_le _, rfl, hst, hwa⟩
          case round =>
            clear hst hwa
            obtain ⟨j, S, hj, rfl, hst, hwa⟩ := hrel
            by_cases hjr : j < r
            · have hl := hwa.len
              have c1 := (hst.1.cell a).trans (HCEL.out a har)
              have t1 := HBIT.out a j har
              have hari : (a : Int) < (r : Int) := by omega
              have hjri : (j : Int) < (r : Int) := by omega
              generalize S0.getD a 0 = z at *
              cases hf : f a j
              · rw [hf] at t1
                have hw2 := hwa.skip hf
                clear hwa
                go_wp2
                go_roundw
                case rel => exact ⟨j + 1, S, by omega, by go_num, hst, hw2⟩
                case measure => simp [intOf]; omega
              · rw [hf] at t1
                have kj := (hst.2.1.cell j).trans (setsV_at (S := S) (by rw [hl]; exact hjr))
                have ka := (hst.2.1.cell a).trans (setsV_at (S := S) (by rw [hl]; exact har))
                have fj := hst.2.1.frozen j
                have hu1 := Nat.le_trans (hwa.up j hjr) (HUP.out j hjr)
                have hu2 := Nat.le_trans (hwa.up a har) (HUP.out a har)
                obtain ⟨hda, hd1, hd9⟩ := HND.out a har
                obtain ⟨b2, o2, e2, kd⟩ := (HDC1.out.below hst.2.2).int a (by rw [HLN.out]; exact har)
                cases e2
                rw [hda] at kd
                have hw2 := hwa.step HG.out hf
                obtain ⟨mm, hmm⟩ : ∃ mm, mm = max (S.getD j 0) (S.getD a 0 + d a) := ⟨_, rfl⟩
                rw [← hmm] at hw2
                have hst3 := hst.put hgn j mm rfl
                obtain ⟨y, hy⟩ : ∃ y, y = S.getD j 0 := ⟨_, rfl⟩
                obtain ⟨x, hx⟩ : ∃ x, x = S.getD a 0 := ⟨_, rfl⟩
                rw [← hy] at kj hmm hu1
                rw [← hx] at ka hmm hu2
                have HMX := Lib.hid (show (if (y : Int) < (x : Int) + (d a : Int) then (x : Int) + (d a : Int) else (y : Int)) = (mm : Int) by rw [max_sumS, hmm])
                have HS3 := Lib.hid hst3
                clear hst hwa hl hy hx hmm hst3 hda
                generalize d a = e at *
                go_wp2
                go_region
                rw [HMX.out]
                go_wp2
                go_roundw
                case rel => exact ⟨j + 1, _, by omega, by go_num, HS3.out.drew, hw2⟩
                case measure => simp [intOf]; omega
            · obtain rfl : j = r := by omega
              have hw2 := hwa.row
              clear hwa
              go_wp2
              go_roundw
              case rel => exact ⟨a + 1, S, by omega, by go_num, hst, hw2⟩
              case measure => simp [intOf]; omega
        · obtain rfl : a = r := by omega
          have hw2 := hwa.round
          clear hwa
          go_wp2
          go_roundw
          case rel => exact ⟨t + 1, S, by omega, by go_num, hst, hw2⟩
          case measure => simp [intOf]; omega
    · obtain rfl : t = r := by omega
      have hd := hwa.done
      subst hd
      go_wp2
      go_ret
      refine ⟨⟨w1.heap.size, hb1.size, ?_, hst.2.1⟩, hb1.trans (hst.2.2.mono hb1.size)⟩
      rw [sumL_len]; rfl

end Go.Proofs.Ythlbekookpcacaa

/-
  The program's drawings: none, and those of a plan with needs. (Walks.)
-/
namespace Go.Proofs.Ythlbekookpcacaa
open Go.RowKit

/-! # a drawing of nothing -/
def noDw : Array Value := dwC (ordC zeroC noF) 0 (.slice none 0 0)
theorem zeroO_size : (ordC zeroC noF).size = 201 := ordC_size (planC_size 0 0 0 (fun _ _ => 0)) noF
theorem noDw_size : noDw.size = 203 := dwC_size zeroO_size _ _
theorem noDw_info : (Try.prog.info? 69).map (·.size) = some noDw.size := by rw [noDw_size]; kernel_rfl
theorem noDw_2 : noDw[2]? = some (.int .i64 ((0 : Nat) : Int)) := by
  unfold noDw
  rw [dwC_lo (by rw [zeroO_size]; omega), ordC_lo noF (by rw [show zeroC.size = 39 from planC_size 0 0 0 (fun _ _ => 0)]; omega)]
  rfl
theorem noDw_n : noDw[202]? = some (.slice none 0 0) := dwC_needs zeroO_size _ _
set_option maxRecDepth 100000 in
theorem noDw_one : noDw.all (·.oneCell') = true := by kernel_rfl
set_option maxRecDepth 100000 in
theorem noDw_lit : noDw = #[.int .i64 0, .int .i64 0, .int .i64 0, .int .i64 0, .int .i64 0, .int .i64 0, .int .i64 0, .int .i64 0, .int .i64 0, .int .i64 0, .int .i64 0, .int .i64 0, .int .i64 0, .int .i64 0, .int .i64 0, .int .i64 0, .int .i64 0, .int .i64 0, .int .i64 0, .int .i64 0, .int .i64 0, .int .i64 0, .int .i64 0, .int .i64 0, .int .i64 0, .int .i64 0, .int .i64 0, .int .i64 0, .int .i64 0, .int .i64 0, .int .i64 0, .int .i64 0, .int .i64 0, .int .i64 0, .int .i64 0, .int .i64 0, .int .i64 0, .int .i64 0, .int .i64 0, .bool false, .bool false, .bool false, .bool false, .bool false, .bool false, .bool false, .bool false, .bool false, .bool false, .bool false, .bool false, .bool false, .bool false, .bool false, .bool false, .bool false, .bool false, .bool false, .bool false, .bool false, .bool false, .bool false, .bool false, .bool false, .bool false, .bool false, .bool false, .bool false, .bool false, .bool false, .bool false, .bool false, .bool false, .bool false, .bool false, .bool false, .bool false, .bool false, .bool false, .bool false, .bool false, .bool false, .bool false, .bool false, .bool false, .bool false, .bool false, .bool false, .bool false, .bool false, .bool false, .bool false, .bool false, .bool false, .bool false, .bool false, .bool false, .bool false, .bool false, .bool false, .bool false, .bool false, .bool false, .bool false, .bool false, .bool false, .bool false, .bool false, .bool false, .bool false, .bool false, .bool false, .bool false, .bool false, .bool false, .bool false, .bool false, .bool false, .bool false, .bool false, .bool false, .bool false, .bool false, .bool false, .bool false, .bool false, .bool false, .bool false, .bool false, .bool false, .bool false, .bool false, .bool false, .bool false, .bool false, .bool false, .bool false, .bool false, .bool false, .bool false, .bool false, .bool false, .bool false, .bool false, .bool false, .bool false, .bool false, .bool false, .bool false, .bool false, .bool false, .bool false, .bool false, .bool false, .bool false, .bool false, .bool false, .bool false, .bool false, .bool false, .bool false, .bool false, .bool false, .bool false, .bool false, .bool false, .bool false, .bool false, .bool false, .bool false, .bool false, .bool false, .bool false, .bool false, .bool false, .bool false, .bool false, .bool false, .bool false, .bool false, .bool false, .bool false, .bool false, .bool false, .bool false, .bool false, .bool false, .bool false, .bool false, .bool false, .bool false, .bool false, .bool false, .bool false, .bool false, .bool false, .bool false, .bool false, .bool false, .bool false, .bool false, .int .i64 0, .slice none 0 0] := by kernel_rfl
set_option maxRecDepth 100000 in
theorem noDw_zero (w : World) : (zeroValue 69).run Try.prog w = .ok (.agg noDw) w := by
  rw [noDw_lit]; exact Try.zeroValue69 w
set_option maxRecDepth 100000 in
theorem noDw_built : Try.prog.built 69 [] = some noDw := by kernel_rfl
set_option maxRecDepth 100000 in
theorem built_dw (h wd r : Nat) (gg : Nat → Nat → Nat) (F : Nat → Nat → Nat → Bool) (way : Int) (ao : Option Addr) (n c : Nat) : Try.prog.built 69 [(0, .agg (ordC (planC h wd r gg) F)), (1, .int .i64 way), (2, .slice ao n c)] = some (dwC (ordC (planC h wd r gg) F) way (.slice ao n c)) := by kernel_rfl

set_option maxRecDepth 100000 in
theorem insertionNil_any (fv : Value) (w : World) :
    Calls Try.prog 131 #[.slice none 0 0, .int .i64 0, .int .i64 0, fv] w fun e w' => e = .returned (.tuple #[]) ∧ w' = w := by
  go_enter Try.func131, Try.ntmps131
  go_wp2
  refine wp_loop_rounds 1 ?_
  rw [rounds_succ]
  go_wp2
  exact bodyPost_end (v := .tuple #[]) (by simp [results, Try.results131, go_sem]) rfl ⟨rfl, rfl⟩
set_option maxRecDepth 100000 in
theorem pdqNil_any (lim : Int) (fv : Value) (w : World) :
    Calls Try.prog 116 #[.slice none 0 0, .int .i64 0, .int .i64 0, .int .i64 lim, fv] w fun e w' => e = .returned (.tuple #[]) ∧ w' = w := by
  go_enter Try.func116, Try.ntmps116
  go_wp2
  refine wp_loop_rounds 1 ?_
  rw [rounds_succ]
  go_wp2_with (go_at_call 131; refine (insertionNil_any _ _).mono ?_; rintro e w1 ⟨rfl, rfl⟩)
  exact bodyPost_ret (results_none rfl _ _ _) rfl ⟨rfl, rfl⟩
set_option maxRecDepth 100000 in
theorem sortNil_any (fv : Value) (w : World) :
    Calls Try.prog 104 #[.slice none 0 0, fv] w fun e w' => e = .returned (.tuple #[]) ∧ w' = w := by
  have HL := Lib.hid (fun w => len_any 0 (by omega) w)
  go_enter Try.func104, Try.ntmps104
  go_wp2_with (first
    | (go_at_call 117; refine (HL.out _).mono ?_; rintro e w' ⟨⟨l, rfl⟩, rfl⟩)
    | (go_at_call 116; refine (pdqNil_any _ _ _).mono ?_; rintro e w1 ⟨rfl, rfl⟩))
  go_end0
  exact ⟨rfl, rfl⟩
set_option maxRecDepth 100000 in
theorem cloneNil_any (w : World) :
    Calls Try.prog 103 #[.slice none 0 0] w fun e w' => e = .returned (.slice none 0 0) ∧ w' = w := by
  have hnil : ∀ W, (binOp .eql 67 (.slice none 0 0) (.slice none 0 0)).run Try.prog W = .ok (.bool true) W := fun W => Lib.run_eql_slice_nil_nil W _ _ Try.underlying67
  go_enter Try.func103, Try.ntmps103
  go_wp2
  go_ret
  exact ⟨rfl, rfl⟩
set_option maxRecDepth 100000 in
set_option maxHeartbeats 4000000 in
theorem aheadNil_any (fv : Value) (w : World) :
    Calls Try.prog 79 #[.agg noDw, fv] w fun e w' => PlRet w.heap.size [] e w' ∧ Below w.heap.size w w' := by
  have hB := HeldB.new w 69 noDw
  have c2 := (hB.cell 2).trans noDw_2
  have HKN := Lib.hid noDw_n
  have HB := Lib.hid hB
  have HB0 := Lib.hid (below_alloc w (.cells noDw 69))
  clear hB
  generalize noDw = D at *
  obtain ⟨im, hmi, hmz, hm1, hm2⟩ := info_parts Try.infoNum
  go_enter Try.func79, Try.ntmps79
  go_wp2_with (first
    | (at_make; refine wpList_make_full _ rfl _ _ 31 rfl (w.heap.size + 1) 3 im (.int .i64 0) 1 Try.underlying31 hmi hmz hm1 .i64 .i64 _ _ 0 rfl rfl rfl rfl ?d2 ?d3 (by simp) ?_; rotate_left 2; intro w2 ho2 hg2; have bD2 := HB.out.kept hg2 (by simp); have kN2 := (bD2.cell 202).trans HKN.out)
    | (go_at_call 103; refine (cloneNil_any _).mono ?_; rintro e w3 ⟨rfl, rfl⟩)
    | (go_at_call 104; refine (sortNil_any _ _).mono ?_; rintro e w4 ⟨rfl, rfl⟩))
  case d2 => rw [hm2]; omega
  case d3 => unfold maxLen; omega
  have hz2 := held_zeros ho2
  simp only [World.size_alloc] at hz2
  have hb2 := HB0.out.trans ((below_of_grownBy hg2 (Nat.le_refl _) (by simp)).mono (by simp))
  clear ho2 hg2 bD2 kN2 c2
  refine wp_loop_rounds 1 ?_
  rw [rounds_succ]
  go_wp2
  go_ret
  exact ⟨⟨w.heap.size + 1, by omega, rfl, hz2⟩, hb2⟩
set_option maxRecDepth 100000 in
set_option maxHeartbeats 4000000 in
theorem leastNil_any (w : World) :
    Calls Try.prog 81 #[.agg noDw] w fun e w' => e = .returned (.int .i64 ((0 : Nat) : Int)) ∧ Below w.heap.size w w' := by
  have HAH := Lib.hid (fun fv w => aheadNil_any fv w)
  have hB := HeldB.new w 69 noDw
  have HKN := Lib.hid noDw_n
  have HSZ := Lib.hid noDw_info
  have hb0 := below_alloc w (.cells noDw 69)
  generalize noDw = D at *
  have hW1 : (w.alloc (.cells D 69)).heap[w.heap.size]? = some (.cells D 69 (0, 0)) := hB
  go_enter Try.func81, Try.ntmps81
  go_wp2_with (first
    | (refine wpList_load_row rfl 69 _ rfl w.heap.size rfl 69 D (0, 0) _ hW1 Try.underlying69 rfl HSZ.out ?_)
    | (go_at_call 79; refine (HAH.out _ _).mono ?_; rintro e w2 ⟨⟨gA, hgA, rfl, hA⟩, hb2⟩; have bD2 := hB.below hb2; have kN2 := (bD2.cell 202).trans HKN.out; clear HAH))
  refine wp_loop_rounds 1 ?_
  rw [rounds_succ]
  go_wp2
  go_ret
  exact ⟨rfl, below_step hb0 hb0.size hb2⟩

end Go.Proofs.Ythlbekookpcacaa

/-
  Merged texts: SizD SizE SizT.
-/
/-
  The program's drawing of a plan with a list of needs. (Walks.)
-/
namespace Go.Proofs.Ythlbekookpcacaa
open Go.RowKit

theorem ndL_succ (d : Nat → Nat) (i : Nat) : ndL d (List.range (i + 1)) = ndL d (List.range i) ++ (nd1 d i).toList := by
  have h1 := ndC_put (d := d) (L := List.range (i + 1)) (i := i) (by simp) i
  apply List.ext_getElem?
  intro k
  have e1 : ∀ n k, k < 2 * n → (ndL d (List.range n))[k]? = some (.int .i64 (((if k % 2 = 0 then k / 2 else d (k / 2)) : Nat) : Int)) := fun n k hk => by
    have := ndC_at (d := d) (L := List.range n) (k := k) (by rw [List.length_range]; exact hk)
    unfold ndC at this
    rw [List.getElem?_toArray, range_at (by omega)] at this
    exact this
  by_cases hk : k < 2 * i
  · rw [e1 _ _ (by omega), List.getElem?_append_left (by rw [ndL_len, List.length_range]; exact hk), e1 _ _ hk]
  · rw [List.getElem?_append_right (by rw [ndL_len, List.length_range]; omega), ndL_len, List.length_range]
    by_cases hk2 : k < 2 * (i + 1)
    · rw [e1 _ _ hk2]
      have hc : k = 2 * i ∨ k = 2 * i + 1 := by omega
      rcases hc with rfl | rfl
      · rw [if_pos (by omega), Nat.sub_self, show 2 * i / 2 = i by omega]; rfl
      · rw [if_neg (by omega), show 2 * i + 1 - 2 * i = 1 by omega, show (2 * i + 1) / 2 = i by omega]; rfl
    · rw [List.getElem?_eq_none (by rw [ndL_len, List.length_range]; omega), List.getElem?_eq_none (by simp [nd1]; omega)]
/-- what is told of a drawing -/
def DwRet (base : Nat) (O : Array Value) (way : Int) (r : Nat) (l : List Int) (b : Bool) (e : Ending) (w' : World) : Prop :=
  ∃ D, e = .returned (.tuple #[.agg D, .bool b]) ∧ (b = false → D = noDw) ∧ (b = true → ∃ gn cn, D = dwC O way (.slice (some ⟨gn, 0, none⟩) r cn) ∧ base ≤ gn ∧ CellsAt w' (some ⟨gn, 0, none⟩) (ndL (dN l) (List.range r)))
theorem results_dw {fn : Func} {p u : Tmp} (h : fn.results = #[.cell p 69, .tmp u]) {tmps : Array Value} {w : World} {B : Nat} {C : Array Value} {v : Value}
    (hp : tmps.getD p undef = .pointer (some ⟨B, 0, none⟩)) (hB : HeldB w B 69 C) (hs : C.size = 203) (hv : tmps.getD u undef = v) :
    (results fn tmps).run Try.prog w = .ok (.tuple #[.agg C, v]) w := by
  rw [results_cell_tmp h, hp, hv]
  have hr := run_loadVar_row (P := Try.prog) w B 69 69 C (0, 0) _ hB Try.underlying69 rfl (by rw [hs]; kernel_rfl)
  simp [asAddr, hr, Result.andThen]
theorem nd1_ones (x y : Int) : ∀ v ∈ [Value.int .i64 x, .int .i64 y], v.oneCell' = true := fun v hv => by
  simp only [List.mem_cons, List.not_mem_nil, or_false] at hv
  rcases hv with rfl | rfl <;> rfl
set_option maxRecDepth 100000 in
set_option maxHeartbeats 8000000 in
theorem drawing_any (h wd r : Nat) (gg : Nat → Nat → Nat) (F : Nat → Nat → Nat → Bool) (way : Int) (bo : Option Addr) (cb : Nat) (l : List Int) (w : World) (hr : r ≤ 9) (hr1 : 1 ≤ r) (hl : l.length ≤ 1048576) (hd : CellsAt w bo (l.map (Value.int .i64))) :
    Calls Try.prog 77 #[.agg (ordC (planC h wd r gg) F), .int .i64 way, .slice bo l.length cb] w
      fun e w' => DwRet w.heap.size (ordC (planC h wd r gg) F) way r l (decide (l.length = r) && needB l) e w' ∧ Below w.heap.size w w' := by
  have hC := planC_size h wd r gg
  have hO := ordC_size hC F
  have HO2 := Lib.hid (show (ordC (planC h wd r gg) F)[2]? = some (.int .i64 (r : Nat)) by rw [ordC_lo F (by rw [planC_size]; omega), planC_2])
  have HBD := Lib.hid (fun ao n c => built_dw h wd r gg F way ao n c)
  have HDS := Lib.hid (fun v => dwC_size hO way v)
  have HDI := Lib.hid (fun v => dw_info hO way v)
  have HO1 := Lib.hid (show ∀ ao n c, (dwC (ordC (planC h wd r gg) F) way (.slice ao n c)).all (·.oneCell') = true from fun ao n c => by
    rw [Array.all_eq_true_iff_forall_mem]
    intro v hv
    unfold dwC at hv
    rw [Array.mem_append] at hv
    rcases hv with hv | hv
    · exact Array.all_eq_true_iff_forall_mem.1 (ordC_one (planC_one h wd r gg) F) v hv
    · simp only [List.mem_toArray, List.mem_cons, List.not_mem_nil, or_false] at hv
      rcases hv with rfl | rfl <;> rfl)
  have HOI := Lib.hid (show (Try.prog.info? 66).map (·.size) = some (ordC (planC h wd r gg) F).size by rw [hO]; kernel_rfl)
  have HZ := Lib.hid noDw_zero; have HZB := Lib.hid noDw_built; have HZ1 := Lib.hid noDw_one; have HZI := Lib.hid noDw_info; have HZS := Lib.hid noDw_size
  have hDW : ∀ v, dwC (ordC (planC h wd r gg) F) way v = dwC (ordC (planC h wd r gg) F) way v := fun _ => rfl
  clear hC hO hDW
  generalize hOO : ordC (planC h wd r gg) F = O at *
  clear hOO
  have bO := HeldB.new w 66 O
  have bO1 := bO.alloc (.cells noDw 69)
  have bZ1 := HeldB.new (w.alloc (.cells O 66)) 69 noDw
  simp only [World.size_alloc] at bZ1
  have hb1 : Below w.heap.size w ((w.alloc (.cells O 66)).alloc (.cells noDw 69)) := ((Below.refl _ w).alloc (Nat.le_refl _) _).alloc (by simp) _
  have cO2 := (bO1.cell 2).trans HO2.out
  clear bO
  unfold DwRet
  generalize noDw = Z at *
  by_cases hlr : l.length = r
  · have HN := Lib.hid (fun i (hi : i < l.length) => needB_take (l := l) hi)
    have HST := Lib.hid (fun i (hi : i < l.length) h => needB_stop (l := l) (i := i) hi h)
    have heq : ((l.length : Int) == (r : Int)) = true := by rw [beq_iff_eq]; omega
    rw [decide_eq_true hlr, Bool.true_and]
    have HLR := Lib.hid hlr; clear hlr
    have HLL := Lib.hid (show l.take r = l from List.take_of_length_le (by rw [HLR.out]; exact Nat.le_refl _))
    have hN0 : needB (l.take 0) = true := rfl
    generalize hll : l.length = ll at *
    obtain rfl : ll = r := HLR.out
    have HLE := Lib.hid hll; clear hll HLR
    obtain ⟨im, hmi, hmz, hm1, hm2⟩ := info_parts Try.infoNd
    have HD := Lib.hid hd; clear hd
    go_enter Try.func77, Try.ntmps77
    go_wp2_with (first
      | (refine wpList_alloc_zero rfl 69 rfl Z HZ.out ?_)
      | (at_make; refine wpList_make_own _ rfl _ _ 67 rfl (w.heap.size + 2) 105 im (.agg #[.int .i64 0, .int .i64 0]) 2 Try.underlying67 hmi hmz hm1 .i64 .i64 _ ll rfl rfl rfl ?c2 ?c3 (by simp) ?_; rotate_left 2; intro w2 hown hg2))
    case c2 => rw [hm2]; omega
    case c3 => unfold maxLen; omega
    have bO2 := bO1.kept hg2 (by simp)
    have bZ2 := bZ1.kept hg2 (by simp)
    have hB2 := hb1.trans ((below_of_grownBy hg2 (Nat.le_refl _) (by simp)).mono (by simp; omega))
    have hown2 : w2.ownsRow (w.heap.size + 2) 105 2 (.slice (some ⟨w.heap.size + 1 + 1, 0, none⟩) 0 ll) 0 (ndL (dN l) (List.range 0)) := by simpa [ndL] using hown
    clear hown hg2 bO1 bZ1 hb1 cO2
    go_loopw [8, 23] (fun v8 vi wr => ∃ (i : Nat) (ao : Option Addr) (c : Nat), i ≤ ll ∧ vi = .int .i64 (i : Int) ∧ v8 = .slice ao i c ∧ wr.ownsRow (w.heap.size + 2) 105 2 (.slice ao i c) i (ndL (dN l) (List.range i)) ∧ HeldB wr w.heap.size 66 O ∧ HeldB wr (w.heap.size + 1) 69 Z ∧ Below w.heap.size w wr ∧ needB (l.take i) = true) (fun _ vi _ => ll - (intOf vi).toNat)
    case atStart => exact ⟨0, _, _, Nat.zero_le _, rfl, rfl, hown2, bO2, bZ2, hB2, hN0⟩
    case round =>
      clear hown2 bO2 bZ2 hB2 hN0
      obtain ⟨i, ao, c, hi, rfl, rfl, hown, bO, bZ, hB, hnd⟩ := hrel
      by_cases hir : i < ll
      · obtain ⟨b, off, rfl, hcell⟩ := (HD.out.below hB).int i (by rw [HLE.out]; exact hir)
        have hn1 := HN.out i hir
        have hs1 := HST.out i hir
        rw [hnd, Bool.true_and] at hn1
        have hirI : (i : Int) < (ll : Int) := by omega
        have hdx : dN l i = (l.getD i 0).toNat := rfl
        generalize l.getD i 0 = x at *
        by_cases hx1 : 1 ≤ x
        · by_cases hx9 : x ≤ 9
          · rw [decide_eq_true hx1, decide_eq_true hx9] at hn1
            have hxd : x = ((dN l i : Nat) : Int) := by omega
            have HS := Lib.hid (ndL_succ (dN l) i)
            have HNN := Lib.hid hn1
            have HXD := Lib.hid hxd
            have h63 : i + 1 ≤ maxLen := by unfold maxLen; omega
            have hx0 : ¬ x < 1 := by omega
            have hx99 : ¬ 9 < x := by omega
            have hBs := hB.size
            have hZl := bZ.lt
            have hnx : w.heap.size + 2 ≤ wr.heap.size := by omega
            clear hxd hdx hn1 hs1 hnd
            go_wp2_with (at_builtin; refine wpList_pushK _ rfl _ _ 67 rfl (w.heap.size + 2) 105 im (.agg #[.int .i64 0, .int .i64 0]) 2 16 Try.underlying67 hmi hmz hm1 hm2 rfl (by decide) ao i c _ rfl (ownsRow_below hown (below_alloc _ _)) (#[Value.int .i64 (i : Int), .int .i64 x] : Array Value).toList 1 _ 0 1 rfl (by decide) rfl (cells_new _ _ _) (nd1_ones _ _) h63 (by omega) (by simp; omega) ?_; intro ao2 cap2 w3 hown3 hg3 hnew3)
            rw [HXD.out] at hown3
            go_roundw
            case rel => exact ⟨i + 1, ao2, cap2, by omega, by go_num, rfl, by rw [HS.out]; exact hown3, kept_own (bO.alloc _) hg3 (fun a ha => by have := (owns_lt hown a ha).1; omega), kept_own (bZ.alloc _) hg3 (fun a ha => by have := (owns_lt hown a ha).1; omega), below_push hB hBs hg3 (fun a ha => by have := (owns_lt hown a ha).1; omega), HNN.out⟩
            case measure => simp [intOf]; omega
          · have hx0 : ¬ x < 1 := by omega
            have hx99 : 9 < x := by omega
            have hnf := hs1 (by rw [decide_eq_false hx9]; exact Bool.and_false _)
            have HNF := Lib.hid hnf
            clear hnf hs1 hn1 hnd hdx hown
            go_wp2_with (first
              | (refine wpList_build_as rfl 69 _ rfl Z (by simp only [List.map_toArray, List.map_nil]; exact HZB.out) ?_)
              | (refine wpList_store_row rfl 69 _ _ rfl (w.heap.size + 1) Z rfl rfl 69 Z bZ HZI.out rfl HZ1.out ?_))
            exact bodyPost_ret (results_dw rfl rfl (bZ.setRow Z) HZS.out rfl) rfl ⟨⟨Z, by rw [HNF.out]; rfl, fun _ => rfl, fun h => by rw [HNF.out] at h; cases h⟩, below_setRowB hB (by omega) _⟩
        · have hx0 : x < 1 := by omega
          have hnf := hs1 (by rw [decide_eq_false hx1]; rfl)
          have HNF := Lib.hid hnf
          clear hnf hs1 hn1 hnd hdx hown
          go_wp2_with (first
            | (refine wpList_build_as rfl 69 _ rfl Z (by simp only [List.map_toArray, List.map_nil]; exact HZB.out) ?_)
            | (refine wpList_store_row rfl 69 _ _ rfl (w.heap.size + 1) Z rfl rfl 69 Z bZ HZI.out rfl HZ1.out ?_))
          exact bodyPost_ret (results_dw rfl rfl (bZ.setRow Z) HZS.out rfl) rfl ⟨⟨Z, by rw [HNF.out]; rfl, fun _ => rfl, fun h => by rw [HNF.out] at h; cases h⟩, below_setRowB hB (by omega) _⟩
      · obtain rfl : i = ll := by omega
        have hyes : needB l = true := by rw [← HLL.out]; exact hnd
        have HY := Lib.hid hyes
        obtain ⟨g, X, rfl, hg, hgc, hX⟩ := owns_ndX hown hr1
        clear hown hyes hnd
        go_wp2_with (first
          | (refine wpList_load_row rfl 66 _ rfl w.heap.size rfl 66 O (0, 0) _ bO Try.underlying66 rfl HOI.out ?_)
          | (refine wpList_build_as rfl 69 _ rfl (dwC O way (.slice (some ⟨g, 0, none⟩) i c)) (by simp only [List.map_toArray, List.map_cons, List.map_nil]; exact HBD.out _ _ _) ?_)
          | (refine wpList_store_row rfl 69 _ _ rfl (w.heap.size + 1) (dwC O way (.slice (some ⟨g, 0, none⟩) i c)) rfl rfl 69 Z bZ (HDI.out _) (by rw [HZS.out, HDS.out]) (HO1.out _ _ _) ?_))
        exact bodyPost_ret (results_dw rfl rfl (bZ.setRow _) (HDS.out _) rfl) rfl ⟨⟨_, by rw [HY.out]; rfl, fun h => (by rw [HY.out] at h; cases h), fun _ => ⟨g, c, rfl, by omega, ndX_cells (hX.otherRow (by omega) _)⟩⟩, below_setRowB hB (by omega) _⟩
  · rw [decide_eq_false hlr, Bool.false_and]
    have hne : ((l.length : Int) == (r : Int)) = false := by rw [beq_eq_false_iff_ne]; omega
    have HLR := Lib.hid hlr; clear hlr
    go_enter Try.func77, Try.ntmps77
    go_wp2_with (first
      | (refine wpList_alloc_zero rfl 69 rfl Z HZ.out ?_)
      | (refine wpList_build_as rfl 69 _ rfl Z (by simp only [List.map_toArray, List.map_nil]; exact HZB.out) ?_)
      | (refine wpList_store_row rfl 69 _ _ rfl (w.heap.size + 1) Z rfl rfl 69 Z bZ1 HZI.out rfl HZ1.out ?_))
    refine bodyPost_ret (results_dw rfl rfl (bZ1.setRow Z) HZS.out rfl) rfl ⟨⟨Z, rfl, fun _ => rfl, fun h => by cases h⟩, ?_⟩
    exact below_setRowB hb1 (by omega) _

theorem cells_setRow {W : World} {g B : Nat} {xs : List Value} (h : CellsAt W (some ⟨g, 0, none⟩) xs) (hne : g ≠ B) (cs : Array Value) : CellsAt (W.setRow B cs) (some ⟨g, 0, none⟩) xs := fun i u hu => by
  obtain ⟨b, off, e, hc⟩ := h i u hu
  cases e
  refine ⟨g, 0, rfl, ?_⟩
  unfold World.cell? at hc ⊢
  rw [setRow_other W B g cs hne]
  exact hc
theorem sizedB_is {p : List ByteArray} {l : List Int} (h : plainB p = true) : sizedB p l = (decide (l.length = gridR p) && needB l) := by unfold sizedB; rw [h, Bool.true_and]
theorem DwRet.below {base : Nat} {O : Array Value} {way : Int} {r : Nat} {l : List Int} {b : Bool} {e : Ending} {w w' : World} (h : DwRet base O way r l b e w) (hb : Below w.heap.size w w') : DwRet base O way r l b e w' := by
  obtain ⟨D, h1, h2, h3⟩ := h
  exact ⟨D, h1, h2, fun hh => by obtain ⟨gn, cn, h4, h6, h5⟩ := h3 hh; exact ⟨gn, cn, h4, h6, h5.below hb⟩⟩
set_option maxRecDepth 100000 in
set_option maxHeartbeats 8000000 in
theorem readDrawing_any (ao bo : Option Addr) (ca cb : Nat) (p : List ByteArray) (way : Int) (l : List Int) (w : World) (hl : p.length ≤ 1048576) (hs : ∀ s ∈ p, s.size ≤ 1048576) (hll : l.length ≤ 1048576)
    (hc : CellsAt w ao (p.map Value.string)) (hd : CellsAt w bo (l.map (Value.int .i64))) :
    Calls Try.prog 51 #[.slice ao p.length ca, .int .i64 way, .slice bo l.length cb] w
      fun e w' => DwRet w.heap.size (ordP p) way (gridR p) l (sizedB p l) e w' ∧ Below w.heap.size w w' := by
  have HRO := Lib.hid (fun w hc => readOrder_any ao ca p w hl hs hc)
  have HZ := Lib.hid noDw_zero; have HZB := Lib.hid noDw_built; have HZ1 := Lib.hid noDw_one; have HZI := Lib.hid noDw_info; have HZS := Lib.hid noDw_size
  have HO0 := Lib.hid zero_ordC
  have HOS := Lib.hid (ordP_size p); have HOI := Lib.hid (ordP_info p); have HO1 := Lib.hid (ordP_one p)
  have HOZ := Lib.hid zeroO_size
  have hb0 := below_alloc w (.cells noDw 69)
  have bZ0 := HeldB.new w 69 noDw
  cases hp : plainB p
  · have hsz : sizedB p l = false := by unfold sizedB; rw [hp]; rfl
    rw [hsz]
    rw [hp] at HRO
    unfold DwRet
    generalize noDw = Z at *
    generalize ordP p = O at *
    generalize ordC zeroC noF = ZO at *
    clear hp hsz
    have HC := Lib.hid (hc.below hb0)
    clear hc
    go_enter Try.func51, Try.ntmps51
    go_wp2_with (first
      | (refine wpList_alloc_zero rfl 69 rfl Z HZ.out ?_)
      | (refine wpList_alloc_zero rfl 66 rfl ZO HO0.out ?_)
      | (refine wpList_store_new rfl 66 _ _ rfl _ ZO O rfl rfl rfl HOI.out (by rw [HOS.out, HOZ.out]) HO1.out ?_)
      | (refine wpList_build_as rfl 69 _ rfl Z (by simp only [List.map_toArray, List.map_nil]; exact HZB.out) ?_)
      | (refine wpList_store_row rfl 69 _ _ rfl w.heap.size Z rfl rfl 69 Z bZ1 HZI.out rfl HZ1.out ?_)
      | (go_at_call 76; refine (HRO.out _ HC.out).mono ?_; rintro e w1 ⟨rfl, hb1⟩; have bZ1 := (bZ0.below hb1).alloc (.cells O 66); have hb2 := below_step hb0 hb0.size hb1; have hb3 := hb2.alloc hb2.size (.cells O 66)))
    exact bodyPost_ret (results_dw rfl rfl (bZ1.setRow Z) HZS.out rfl) rfl ⟨⟨Z, rfl, fun _ => rfl, fun h => by cases h⟩, below_setRowB hb3 (Nat.le_refl _) _⟩
  · have hr9 := (planP_of (plainB_plan hp)).few
    have hr1 : 1 ≤ gridR p := by
      have hP := planP_of (plainB_plan hp)
      have h := gridG_lt (p := p) (i := 0) (j := 0) (by have := hP.grid.h1; omega) (by have := hP.grid.w1; omega)
      omega
    have hoy := ordP_yes hp
    have HDR := Lib.hid (fun (w : World) hd => drawing_any p.length (wideB p) (gridR p) (gridG p) (ledF p.length (wideB p) (gridR p) (gridG p)) way bo cb l w hr9 hr1 hll hd)
    rw [← hoy, ← sizedB_is hp] at HDR
    have HDN := Lib.hid (show ∀ D : Array Value, (sizedB p l = false → D = noDw) → (sizedB p l = true → ∃ gn cn, D = dwC (ordP p) way (.slice (some ⟨gn, 0, none⟩) (gridR p) cn) ∧ True) → D.size = 203 ∧ (Try.prog.info? 69).map (·.size) = some D.size ∧ D.all (·.oneCell') = true from fun D h1 h2 => by
      cases hz : sizedB p l
      · rw [h1 hz]; exact ⟨noDw_size, noDw_info, noDw_one⟩
      · obtain ⟨gn, cn, rfl, _⟩ := h2 hz
        refine ⟨dwC_size (ordP_size p) _ _, dw_info (ordP_size p) _ _, ?_⟩
        rw [Array.all_eq_true_iff_forall_mem]
        intro v hv
        unfold dwC at hv
        rw [Array.mem_append] at hv
        rcases hv with hv | hv
        · exact Array.all_eq_true_iff_forall_mem.1 (ordP_one p) v hv
        · simp only [List.mem_toArray, List.mem_cons, List.not_mem_nil, or_false] at hv
          rcases hv with rfl | rfl <;> rfl)
    rw [hp] at HRO
    clear hoy hp hr9 hr1
    unfold DwRet at HDR ⊢
    generalize noDw = Z at *
    generalize ordP p = O at *
    generalize ordC zeroC noF = ZO at *
    generalize sizedB p l = sb at *
    generalize gridR p = r at *
    have HC := Lib.hid (hc.below hb0)
    have HD := Lib.hid (hd.below hb0)
    clear hc hd
    go_enter Try.func51, Try.ntmps51
    go_wp2_with (first
      | (refine wpList_alloc_zero rfl 69 rfl Z HZ.out ?_)
      | (refine wpList_alloc_zero rfl 66 rfl ZO HO0.out ?_)
      | (refine wpList_store_new rfl 66 _ _ rfl _ ZO O rfl rfl rfl HOI.out (by rw [HOS.out, HOZ.out]) HO1.out ?_)
      | (refine wpList_load_row rfl 66 _ rfl w1.heap.size rfl 66 O (0, 0) _ bO1 Try.underlying66 rfl HOI.out ?_)
      | (refine wpList_store_row rfl 69 _ _ rfl w.heap.size D rfl rfl 69 Z bZ2 hdn.2.1 (by rw [HZS.out]; exact hdn.1.symm) hdn.2.2 ?_)
      | (go_at_call 76; refine (HRO.out _ HC.out).mono ?_; rintro e w1 ⟨rfl, hb1⟩; have bZ1 := (bZ0.below hb1).alloc (.cells O 66); have hb2 := below_step hb0 hb0.size hb1; have hb3 := hb2.alloc hb2.size (.cells O 66); have bO1 := HeldB.new w1 66 O; have hd3 := (HD.out.below hb1).below (below_alloc w1 (.cells O 66)))
      | (go_at_call 77; refine (HDR.out _ hd3).mono ?_; rintro e w4 ⟨⟨D, rfl, hd1, hd2⟩, hb4⟩; have bZ2 := bZ1.below hb4; have hb5 := below_step hb3 hb3.size hb4; have hdn := HDN.out D hd1 (fun h => by obtain ⟨gn, cn, h4, _, h5⟩ := hd2 h; exact ⟨gn, cn, h4, trivial⟩)))
    refine bodyPost_ret (results_dw rfl rfl (bZ2.setRow D) hdn.1 rfl) rfl ⟨⟨D, rfl, hd1, fun h => ?_⟩, below_setRowB hb5 (Nat.le_refl _) _⟩
    obtain ⟨gn, cn, h4, h6, h5⟩ := hd2 h
    have hsz := hb2.size
    simp only [World.size_alloc] at h6
    exact ⟨gn, cn, h4, by omega, cells_setRow h5 (by omega) _⟩

end Go.Proofs.Ythlbekookpcacaa

/-
  The program's least widths and heights, and places. (Walks.)
-/
namespace Go.Proofs.Ythlbekookpcacaa
open Go.RowKit

/-- the least width, or the least height -/
def wideV (p : List ByteArray) (l : List Int) (way : Nat) : Nat := if sizedB p l = true then endS (pL p way) (dN l) (gridR p) else 0
def placesV (p : List ByteArray) (l : List Int) (way : Nat) : List Nat := if sizedB p l = true then sumL (pL p way) (dN l) (gridR p) else []
theorem sized_facts {p : List ByteArray} {l : List Int} (h : sizedB p l = true) : plainB p = true ∧ l.length = gridR p ∧ needB l = true ∧ gridR p ≤ 9 ∧ 1 ≤ gridR p ∧ ∀ a, a < gridR p → dN l a ≤ 9 := by
  obtain ⟨h1, h2, h3⟩ := sizedB_yes h
  have hP := planP_of (plainB_plan h1)
  have hg := gridG_lt (p := p) (i := 0) (j := 0) (by have := hP.grid.h1; omega) (by have := hP.grid.w1; omega)
  exact ⟨h1, h2, h3, hP.few, by omega, fun a ha => (needB_at h3 (by omega)).2.2⟩
theorem dw_any {base : Nat} {p : List ByteArray} {l : List Int} {way : Int} {e : Ending} {w' : World} (h : DwRet base (ordP p) way (gridR p) l (sizedB p l) e w') : ∃ D, e = .returned (.tuple #[.agg D, .bool (sizedB p l)]) ∧ D.size = 203 ∧ D.all (·.oneCell') = true ∧ (sizedB p l = false → D = noDw) ∧ (sizedB p l = true → ∃ gn cn, D = dwC (ordC (planC p.length (wideB p) (gridR p) (gridG p)) (pL p)) way (.slice (some ⟨gn, 0, none⟩) (gridR p) cn) ∧ CellsAt w' (some ⟨gn, 0, none⟩) (ndL (dN l) (List.range (gridR p)))) := by
  obtain ⟨D, h1, h2, h3⟩ := h
  cases hz : sizedB p l
  · rw [hz] at h1
    refine ⟨D, h1, by rw [h2 hz]; exact noDw_size, by rw [h2 hz]; exact noDw_one, fun _ => h2 hz, fun h => by cases h⟩
  · rw [hz] at h1
    obtain ⟨gn, cn, rfl, _, h5⟩ := h3 hz
    refine ⟨_, h1, dwC_size (ordP_size p) _ _, ?_, fun h => (by cases h), fun _ => ⟨gn, cn, ?_, h5⟩⟩
    · rw [Array.all_eq_true_iff_forall_mem]
      intro v hv
      unfold dwC at hv
      rw [Array.mem_append] at hv
      rcases hv with hv | hv
      · exact Array.all_eq_true_iff_forall_mem.1 (ordP_one p) v hv
      · simp only [List.mem_toArray, List.mem_cons, List.not_mem_nil, or_false] at hv
        rcases hv with rfl | rfl <;> rfl
    · rw [ordP_yes (sizedB_yes hz).1]; rfl
end Go.Proofs.Ythlbekookpcacaa

/-
  The model's answers about sizes, and areas. (Walks.)
-/
namespace Go.Proofs.Ythlbekookpcacaa
open Go.RowKit

set_option maxRecDepth 100000 in
set_option maxHeartbeats 8000000 in
theorem l7Least_any (ao bo : Option Addr) (ca cb : Nat) (p : List ByteArray) (l : List Int) (kind : Nat) (w : World) (hl : p.length ≤ 1048576) (hs : ∀ s ∈ p, s.size ≤ 1048576) (hz : sizedB p l = true) (hk : kind < 2)
    (hc : CellsAt w ao (p.map Value.string)) (hd : CellsAt w bo (l.map (Value.int .i64))) :
    Calls Try.prog 50 #[.slice ao p.length ca, .slice bo l.length cb, .int .i64 kind] w fun e w' => e = .returned (.int .i64 ((endS (pL p kind) (dN l) (gridR p) : Nat) : Int)) ∧ Below w.heap.size w w' := by
  obtain ⟨hp, hlen, hnb, hr9, hr1, hdd⟩ := sized_facts hz
  rw [hlen]
  have HPL := Lib.hid (fun (w : World) hc hd => l7Places_any ao bo ca cb p l kind w hl hs hp hlen hnb hk hc hd)
  have G := pL_goes hp hk
  have hf : ∀ b, b < gridR p → sumS (pL p kind) (dN l) (gridR p) b + dN l b ≤ 81 := fun b hb => by have := G.sum_few hdd hb hr9; have := hdd b hb; omega
  have HEF := Lib.hid (fun k (hk : k ≤ gridR p) => show eM (fun a => sumS (pL p kind) (dN l) (gridR p) a + dN l a) k ≤ 81 from (eM_le k).2 fun a ha => hf a (by omega))
  have HF := Lib.hid hf
  have HAT := Lib.hid (fun b (hb : b < gridR p) => show (setsV (sumL (pL p kind) (dN l) (gridR p)))[b]? = some (.int .i64 ((sumS (pL p kind) (dN l) (gridR p) b : Nat) : Int)) by rw [setsV_at (by rw [sumL_len]; exact hb), sumL_at hb])
  have HES := Lib.hid (show endS (pL p kind) (dN l) (gridR p) = eM (fun a => sumS (pL p kind) (dN l) (gridR p) a + dN l a) (gridR p) from rfl)
  have HST := Lib.hid (fun k => show eM (fun a => sumS (pL p kind) (dN l) (gridR p) a + dN l a) (k + 1) = max (eM (fun a => sumS (pL p kind) (dN l) (gridR p) a + dN l a) k) (sumS (pL p kind) (dN l) (gridR p) k + dN l k) from rfl)
  have HZ := Lib.hid (show eM (fun a => sumS (pL p kind) (dN l) (gridR p) a + dN l a) 0 = 0 from rfl)
  have HND := Lib.hid (fun a (ha : a < gridR p) => (needB_at hnb (by omega : a < l.length)).1)
  have HLN := Lib.hid hlen
  have HSL := Lib.hid (sumL_len (pL p kind) (dN l) (gridR p))
  clear G hf hl hs hz hp hlen hnb hdd
  generalize sumL (pL p kind) (dN l) (gridR p) = SL at *
  generalize endS (pL p kind) (dN l) (gridR p) = es at *
  generalize hsu : sumS (pL p kind) (dN l) (gridR p) = su at *
  generalize hdl : dN l = d at *
  generalize hem : eM (fun a => su a + d a) = em at *
  generalize gridR p = r at *
  clear hsu hem hdl
  go_enter Try.func50, Try.ntmps50
  go_wp2_with fail
  refine (HPL.out _ hc hd).mono ?_
  rintro e w1 ⟨⟨gA, hgA, rfl, hA⟩, hb1⟩
  rw [HSL.out]
  have hd1 := hd.below hb1
  obtain ⟨nb, no, rfl, -⟩ := hd1.int 0 (by rw [HLN.out]; omega)
  have HD := Lib.hid hd
  clear HPL hc hd hd1
  go_wp2
  go_loopw [8, 9] (fun vm vk wr => ∃ (k : Nat), k ≤ r ∧ vk = .int .i64 (k : Int) ∧ vm = .int .i64 ((em k : Nat) : Int) ∧ HeldB wr gA 3 (setsV SL) ∧ Below w.heap.size w wr) (fun _ vk _ => r - (intOf vk).toNat)
  case atStart => exact ⟨0, Nat.zero_le _, rfl, by rw [HZ.out]; rfl, hA, hb1⟩
  case round =>
    clear hA hb1
    obtain ⟨k, hk, rfl, rfl, hA, hB⟩ := hrel
    by_cases hkr : k < r
    · have hkrI : (k : Int) < (r : Int) := by omega
      have cS := (hA.cell k).trans (HAT.out k hkr)
      obtain ⟨b2, o2, e2, kd⟩ := (HD.out.below hB).int k (by rw [HLN.out]; exact hkr)
      cases e2
      rw [HND.out k hkr] at kd
      have hs81 := HF.out k hkr
      have he81 := HEF.out k hk
      have hst := HST.out k
      obtain ⟨mm, hmm⟩ : ∃ mm, em (k + 1) = mm := ⟨_, rfl⟩
      have HEQ := Lib.hid (show (Value.int .i64 (mm : Int)) = .int .i64 ((em (k + 1) : Nat) : Int) by rw [hmm])
      rw [hmm] at hst
      clear hmm
      generalize em k = y at *
      generalize su k = x at *
      have HMX := Lib.hid (show (if (y : Int) < (x : Int) + (d k : Int) then (x : Int) + (d k : Int) else (y : Int)) = (mm : Int) by rw [max_sum, hst])
      clear hst
      generalize d k = e at *
      go_wp2
      go_region
      rw [HMX.out]
      go_wp2
      go_roundw
      case rel => exact ⟨k + 1, by omega, by go_num, HEQ.out, hA.below (below_drewN _ _ 1), hB.trans (below_drewN _ _ 1)⟩
      case measure => simp [intOf]; omega
    · obtain rfl : k = r := by omega
      have he := HES.out
      clear hA
      go_wp2
      go_ret
      exact ⟨by first | rfl | (rw [he]; rfl), hB⟩
theorem l6B_19 (x : Int) : l6B x 1 9 = (decide (1 ≤ x) && decide (x ≤ 9)) := by unfold l6B; rw [Bool.eq_iff_iff]; simp
set_option maxRecDepth 100000 in
set_option maxHeartbeats 8000000 in
theorem l7Needs_any (ao bo : Option Addr) (ca cb : Nat) (p : List ByteArray) (l : List Int) (w : World) (hl : p.length ≤ 1048576) (hs : ∀ s ∈ p, s.size ≤ 1048576) (hll : l.length ≤ 1048576)
    (hc : CellsAt w ao (p.map Value.string)) (hd : CellsAt w bo (l.map (Value.int .i64))) :
    Calls Try.prog 47 #[.slice ao p.length ca, .slice bo l.length cb] w fun e w' => e = .returned (.bool (sizedB p l)) ∧ Below w.heap.size w w' := by
  have HP := Lib.hid (fun w hc => l5Plain_any ao ca p w hl hs hc)
  have HR := Lib.hid (fun w hc => l1Rooms_any ao ca p w hl hs hc)
  cases hp : plainB p
  · rw [show sizedB p l = false by unfold sizedB; rw [hp]; rfl]
    rw [hp] at HP
    clear hp
    go_enter Try.func47, Try.ntmps47
    go_wp2_with (go_at_call 73; refine (HP.out _ hc).mono ?_; rintro e w1 ⟨rfl, hb1⟩)
    go_ret
    exact ⟨rfl, hb1⟩
  · rw [sizedB_is hp]
    rw [hp] at HP
    have HRR := Lib.hid (planP_of (plainB_plan hp)).rooms
    rw [HRR.out] at HR
    have HC := Lib.hid hc
    clear hp hc
    generalize gridR p = r at *
    by_cases hlr : l.length = r
    · have HN := Lib.hid (fun i (hi : i < l.length) => needB_take (l := l) hi)
      have HST := Lib.hid (fun i (hi : i < l.length) h => needB_stop (l := l) (i := i) hi h)
      have hnn : ((l.length : Int) != (r : Int)) = false := by rw [bne_eq_false_iff_eq]; omega
      have heq : ((l.length : Int) == (r : Int)) = true := by rw [beq_iff_eq]; omega
      rw [decide_eq_true hlr, Bool.true_and]
      have HLL := Lib.hid (show l.take l.length = l from List.take_length)
      have hN0 : needB (l.take 0) = true := rfl
      have HIN := Lib.hid (fun x w => l6In_any x 1 9 w)
      clear hlr
      have HD := Lib.hid hd; clear hd
      go_enter Try.func47, Try.ntmps47
      go_wp2_with (first
        | (go_at_call 73; refine (HP.out _ HC.out).mono ?_; rintro e w1 ⟨rfl, hb1⟩)
        | (go_at_call 41; refine (HR.out _ (HC.out.below hb1)).mono ?_; rintro e w2 ⟨rfl, rfl⟩))
      go_loopw [5] (fun vi wr => ∃ (i : Nat), i ≤ l.length ∧ vi = .int .i64 (i : Int) ∧ Below w.heap.size w wr ∧ needB (l.take i) = true) (fun vi _ => l.length - (intOf vi).toNat)
      case atStart => exact ⟨0, Nat.zero_le _, rfl, hb1, hN0⟩
      case round =>
        clear hb1 hN0
        obtain ⟨i, hi, rfl, hB, hnd⟩ := hrel
        by_cases hil : i < l.length
        · obtain ⟨b, off, rfl, hcell⟩ := (HD.out.below hB).int i hil
          have hn1 := HN.out i hil
          have hs1 := HST.out i hil
          rw [hnd, Bool.true_and] at hn1
          have hilI : (i : Int) < (l.length : Int) := by omega
          generalize l.getD i 0 = x at *
          have HX := Lib.hid (fun w => HIN.out x w)
          rw [l6B_19] at HX
          cases hx : (decide (1 ≤ x) && decide (x ≤ 9))
          · rw [hx] at HX
            have HNF := Lib.hid (hs1 hx)
            clear hn1 hs1 hx hnd
            go_wp2_with (go_at_call 74; refine (HX.out _).mono ?_; rintro e w2 ⟨rfl, rfl⟩)
            go_ret
            exact ⟨ret_bool HNF.out.symm, hB⟩
          · rw [hx] at HX hn1
            have HNN := Lib.hid hn1
            clear hn1 hs1 hx hnd
            go_wp2_with (go_at_call 74; refine (HX.out _).mono ?_; rintro e w2 ⟨rfl, rfl⟩)
            go_roundw
            case rel => exact ⟨i + 1, by omega, by go_num, hB, HNN.out⟩
            case measure => simp [intOf]; omega
        · obtain rfl : i = l.length := by omega
          rw [HLL.out] at hnd
          have HY := Lib.hid hnd
          clear hnd
          go_wp2
          go_ret
          exact ⟨ret_bool HY.out.symm, hB⟩
    · rw [decide_eq_false hlr, Bool.false_and]
      have hnn : ((l.length : Int) != (r : Int)) = true := by rw [bne_iff_ne]; omega
      have heq : ((l.length : Int) == (r : Int)) = false := by rw [beq_eq_false_iff_ne]; omega
      have HLR := Lib.hid hlr; clear hlr
      go_enter Try.func47, Try.ntmps47
      go_wp2_with (first
        | (go_at_call 73; refine (HP.out _ HC.out).mono ?_; rintro e w1 ⟨rfl, hb1⟩)
        | (go_at_call 41; refine (HR.out _ (HC.out.below hb1)).mono ?_; rintro e w2 ⟨rfl, rfl⟩))
      go_ret
      exact ⟨rfl, hb1⟩

theorem wideV_le (p : List ByteArray) (l : List Int) {way : Nat} (hw : way < 2) : wideV p l way ≤ 81 := by
  unfold wideV
  split
  · next hz =>
    obtain ⟨hp, _, _, hr9, _, hdd⟩ := sized_facts hz
    have G := pL_goes hp hw
    exact (eM_le _).2 fun a ha => by have := G.sum_few hdd ha hr9; have := hdd a ha; omega
  · omega
/-- the product of the least width and the least height -/
def areaV (p : List ByteArray) (l m : List Int) : Nat := wideV p l 0 * wideV p m 1
theorem areaV_no {p : List ByteArray} {l m : List Int} (h : (sizedB p l && sizedB p m) = false) : areaV p l m = 0 := by
  unfold areaV wideV
  cases h1 : sizedB p l
  · simp
  · cases h2 : sizedB p m
    · simp
    · rw [h1, h2] at h; cases h
theorem mul_bound {x y : Nat} (hx : x ≤ 81) (hy : y ≤ 81) : wrap64 ((x : Int) * (y : Int)) = ((x * y : Nat) : Int) := by
  have h1 : x * y ≤ 81 * 81 := Nat.mul_le_mul hx hy
  rw [← Int.natCast_mul]
  unfold wrap64
  omega
theorem placesV_few (p : List ByteArray) (l : List Int) : (intsL (placesV p l 0)).length ≤ 1048576 := by
  rw [intsL_len]
  unfold placesV
  split
  · next hz => rw [sumL_len]; have := (sized_facts hz).2.2.2.1; omega
  · exact Nat.zero_le _
end Go.Proofs.Ythlbekookpcacaa
