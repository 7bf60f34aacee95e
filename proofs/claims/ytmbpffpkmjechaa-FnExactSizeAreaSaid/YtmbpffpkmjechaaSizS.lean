
/-
  The model's least widths. (Walks.)
-/
import Derived.Test.YtmbpffpkmjechaaSizM
import Derived.Test.YtmbpffpkmjechaaOrdAB
import Derived.BigRegion
namespace Go.Proofs.Ytmbpffpkmjechaa
open Go.RowKit

/-- the needs of a list -/
def dN (l : List Int) (a : Nat) : Nat := (l.getD a 0).toNat
/-- may a list be needs of a plan -/
def needB (l : List Int) : Bool := l.all fun x => decide (1 ≤ x) && decide (x ≤ 9)
def sizedB (p : List ByteArray) (l : List Int) : Bool := plainB p && (decide (l.length = gridR p) && needB l)
theorem needB_at {l : List Int} (h : needB l = true) {a : Nat} (ha : a < l.length) : l.getD a 0 = ((dN l a : Nat) : Int) ∧ 1 ≤ dN l a ∧ dN l a ≤ 9 := by
  unfold needB at h
  rw [List.all_eq_true] at h
  have := h (l.getD a 0) (by rw [List.getD_eq_getElem?_getD, List.getElem?_eq_getElem ha]; exact List.getElem_mem ha)
  rw [Bool.and_eq_true, decide_eq_true_eq, decide_eq_true_eq] at this
  unfold dN
  omega
theorem needB_take {l : List Int} {i : Nat} (hi : i < l.length) : needB (l.take (i + 1)) = (needB (l.take i) && (decide (1 ≤ l.getD i 0) && decide (l.getD i 0 ≤ 9))) := by
  unfold needB
  rw [take_succ_getD l i 0 hi, List.all_append]
  simp
theorem needB_stop {l : List Int} {i : Nat} (hi : i < l.length) (h : (decide (1 ≤ l.getD i 0) && decide (l.getD i 0 ≤ 9)) = false) : needB l = false := by
  cases hn : needB l
  · rfl
  · have := needB_at hn hi
    rw [Bool.and_eq_false_iff, decide_eq_false_iff_not, decide_eq_false_iff_not] at h
    omega
theorem sizedB_yes {p : List ByteArray} {l : List Int} (h : sizedB p l = true) : plainB p = true ∧ l.length = gridR p ∧ needB l = true := by
  unfold sizedB at h
  rw [Bool.and_eq_true, Bool.and_eq_true, decide_eq_true_eq] at h
  exact h

theorem max_sumS (y x e : Nat) : (if (y : Int) < (x : Int) + (e : Int) then (x : Int) + (e : Int) else (y : Int)) = ((max y (x + e) : Nat) : Int) := by split <;> omega
def PzSt (w : World) (gs : Nat) (S0 S : List Nat) (wr : World) : Prop := HeldB wr gs 3 (setsV S0) ∧ HeldB wr w.heap.size 3 (setsV S) ∧ Below w.heap.size w wr
theorem PzSt.put {w : World} {gs : Nat} {S0 S T : List Nat} {wr : World} (h : PzSt w gs S0 S wr) (hgn : gs ≠ w.heap.size) (x m : Nat) (hT : S.set x m = T) : PzSt w gs S0 T (wr.setCell ⟨w.heap.size, x, none⟩ (.int .i64 (m : Nat))) := by
  refine ⟨h.1.other (by simpa using hgn) _, ?_, h.2.2.setCell (Nat.le_refl _) _⟩
  rw [← hT, ← setsV_put]
  exact h.2.1.set x _
theorem PzSt.drew {w : World} {gs : Nat} {S0 S : List Nat} {wr : World} (h : PzSt w gs S0 S wr) : PzSt w gs S0 S wr.drew := ⟨h.1.drew, h.2.1.drew, h.2.2.drew⟩
set_option maxRecDepth 100000 in
set_option maxHeartbeats 8000000 in
theorem l7Places_any (ao bo : Option Addr) (ca cb : Nat) (p : List ByteArray) (l : List Int) (kind : Nat) (w : World) (hl : p.length ≤ 1048576) (hs : ∀ s ∈ p, s.size ≤ 1048576) (hp : plainB p = true) (hlen : l.length = gridR p) (hn : needB l = true) (hk : kind < 2)
    (hc : CellsAt w ao (p.map Value.string)) (hd : CellsAt w bo (l.map (Value.int .i64))) :
    Calls Try.prog 30 #[.slice ao p.length ca, .slice bo (gridR p) cb, .int .i64 kind] w fun e w' => PlRet w.heap.size (sumL (pL p kind) (dN l) (gridR p)) e w' ∧ Below w.heap.size w w' := by
  have HA := Lib.hid (fun w hc => l5AllP_any ao ca p kind w hl hs (plainB_plan hp) hc)
  have hr9 := (planP_of (plainB_plan hp)).few
  have hr1 : 1 ≤ gridR p := by
    have hP := planP_of (plainB_plan hp)
    have h := gridG_lt (p := p) (i := 0) (j := 0) (by have := hP.grid.h1; omega) (by have := hP.grid.w1; omega)
    omega
  have G := pL_goes hp hk
  have hdd : ∀ a, a < gridR p → dN l a ≤ 9 := fun a ha => (needB_at hn (by omega)).2.2
  have HUP := Lib.hid (fun b (hb : b < gridR p) => G.sum_few hdd hb hr9)
  have HND := Lib.hid (fun a (ha : a < gridR p) => needB_at hn (by omega : a < l.length))
  have HLN := Lib.hid hlen
  have HG := Lib.hid G
  clear hl hs hp hlen hn hdd G
  generalize pL p kind = f at *
  generalize firstQ (pL p) = q at *
  generalize gridR p = r at *
  generalize hdl : dN l = d at *
  clear hdl
  obtain ⟨im, hmi, hmz, hm1, hm2⟩ := info_parts Try.infoNum
  have HDC := Lib.hid hd
  clear hd
  go_enter Try.func30, Try.ntmps30
  go_wp2_with fail
  refine (HA.out _ hc).mono ?_
  rintro e w1 ⟨⟨S0, his, gs, hgs, rfl, hB0⟩, hb1⟩
  have HBIT := Lib.hid (fun (x y : Nat) (hx : x < r) => show (bits .and .i64 (((S0.getD x 0 : Nat) : Int) / 2 ^ y) 1 == 1) = f x y by
    rw [← his.bit x y hx]; exact bit_i64 _ y (his.low x hx))
  have HCEL := Lib.hid (fun (x : Nat) (hx : x < r) => show (setsV S0)[x]? = some (.int .i64 ((S0.getD x 0 : Nat) : Int)) from setsV_at (by rw [his.len]; exact hx))
  have hsl := his.len
  clear his
  rw [hsl]
  have HSL := Lib.hid hsl
  clear hsl
  have hdc1 := HDC.out.below hb1
  clear hc HA
  go_wp2_with (at_make; refine wpList_make_full _ rfl _ _ 23 rfl w1.heap.size 3 im (.int .i64 0) 1 Try.underlying23 hmi hmz hm1 .i64 .i64 _ _ r rfl rfl rfl rfl ?d2 ?d3 (Nat.le_refl _) ?_; rotate_left 2; intro w3 ho3 hg3; have hb3 : Below w1.heap.size w1 w3 := below_of_grownBy hg3 (Nat.le_refl _) (by simp); have hz := held_zeros ho3)
  case d2 => rw [hm2]; omega
  case d3 => unfold maxLen; omega
  have hgn : gs ≠ w1.heap.size := by have := hB0.lt; omega
  have st3 : PzSt w1 gs S0 (List.replicate r 0) w3 := ⟨hB0.below hb3, hz, hb3⟩
  have wa3 : WaJ f d r 0 0 0 (List.replicate r 0) := WaJ.start f d r
  obtain ⟨nb, no, rfl, -⟩ := hdc1.int 0 (by rw [HLN.out]; omega)
  have HDC1 := Lib.hid hdc1
  clear hz hB0 hb3 ho3 hg3 hdc1 HDC
  go_loopw [9, 10, 11] (fun v9 _ _ wr => ∃ (t : Nat) (S : List Nat), t ≤ r ∧ v9 = .int .i64 (t : Int) ∧ PzSt w1 gs S0 S wr ∧ WaJ f d r t 0 0 S) (fun v _ _ _ => r - (intOf v).toNat)
  case atStart => exact ⟨0, _, Nat.zero_le _, rfl, st3, wa3⟩
  case round =>
    clear st3 wa3
    obtain ⟨t, S, ht, rfl, hst, hwa⟩ := hrel
    by_cases htr : t < r
    · go_wp2
      go_loopw [10, 11] (fun v10 _ wr => ∃ (a : Nat) (S : List Nat), a ≤ r ∧ v10 = .int .i64 (a : Int) ∧ PzSt w1 gs S0 S wr ∧ WaJ f d r t a 0 S) (fun v _ _ => r - (intOf v).toNat)
      case atStart => exact ⟨0, S, Nat.zero_le _, rfl, hst, hwa⟩
      case round =>
        clear hst hwa
        obtain ⟨a, S, ha, rfl, hst, hwa⟩ := hrel
        by_cases har : a < r
        · go_wp2
          go_loopw [11] (fun v11 wr => ∃ (j : Nat) (S : List Nat), j ≤ r ∧ v11 = .int .i64 (j : Int) ∧ PzSt w1 gs S0 S wr ∧ WaJ f d r t a j S) (fun v _ => r - (intOf v).toNat)
          case atStart => exact ⟨0, S, Nat.zero_le _, rfl, hst, hwa⟩
          case round =>
            clear hst hwa
            obtain ⟨j, S, hj, rfl, hst, hwa⟩ := hrel
            by_cases hjr : j < r
            · have hl := hwa.len
              have c1 := (hst.1.cell a).trans (HCEL.out a har)
              have t1 := HBIT.out a j har
              have hari : (a : Int) < (r : Int) := by omega
              have hjri : (j : Int) < (r : Int) := by omega
              generalize S0.getD a 0 = z at *
              cases hf : f a j
              · rw [hf] at t1
                have hw2 := hwa.skip hf
                clear hwa
                go_wp2
                go_roundw
                case rel => exact ⟨j + 1, S, by omega, by go_num, hst, hw2⟩
                case measure => simp [intOf]; omega
              · rw [hf] at t1
                have kj := (hst.2.1.cell j).trans (setsV_at (S := S) (by rw [hl]; exact hjr))
                have ka := (hst.2.1.cell a).trans (setsV_at (S := S) (by rw [hl]; exact har))
                have fj := hst.2.1.frozen j
                have hu1 := Nat.le_trans (hwa.up j hjr) (HUP.out j hjr)
                have hu2 := Nat.le_trans (hwa.up a har) (HUP.out a har)
                obtain ⟨hda, hd1, hd9⟩ := HND.out a har
                obtain ⟨b2, o2, e2, kd⟩ := (HDC1.out.below hst.2.2).int a (by rw [HLN.out]; exact har)
                cases e2
                rw [hda] at kd
                have hw2 := hwa.step HG.out hf
                obtain ⟨mm, hmm⟩ : ∃ mm, mm = max (S.getD j 0) (S.getD a 0 + d a) := ⟨_, rfl⟩
                rw [← hmm] at hw2
                have hst3 := hst.put hgn j mm rfl
                obtain ⟨y, hy⟩ : ∃ y, y = S.getD j 0 := ⟨_, rfl⟩
                obtain ⟨x, hx⟩ : ∃ x, x = S.getD a 0 := ⟨_, rfl⟩
                rw [← hy] at kj hmm hu1
                rw [← hx] at ka hmm hu2
                have HMX := Lib.hid (show (if (y : Int) < (x : Int) + (d a : Int) then (x : Int) + (d a : Int) else (y : Int)) = (mm : Int) by rw [max_sumS, hmm])
                have HS3 := Lib.hid hst3
                clear hst hwa hl hy hx hmm hst3 hda
                generalize d a = e at *
                go_wp2
                go_region
                rw [HMX.out]
                go_wp2
                go_roundw
                case rel => exact ⟨j + 1, _, by omega, by go_num, HS3.out.drew, hw2⟩
                case measure => simp [intOf]; omega
            · obtain rfl : j = r := by omega
              have hw2 := hwa.row
              clear hwa
              go_wp2
              go_roundw
              case rel => exact ⟨a + 1, S, by omega, by go_num, hst, hw2⟩
              case measure => simp [intOf]; omega
        · obtain rfl : a = r := by omega
          have hw2 := hwa.round
          clear hwa
          go_wp2
          go_roundw
          case rel => exact ⟨t + 1, S, by omega, by go_num, hst, hw2⟩
          case measure => simp [intOf]; omega
    · obtain rfl : t = r := by omega
      have hd := hwa.done
      subst hd
      go_wp2
      go_ret
      refine ⟨⟨w1.heap.size, hb1.size, ?_, hst.2.1⟩, hb1.trans (hst.2.2.mono hb1.size)⟩
      rw [sumL_len]; rfl

end Go.Proofs.Ytmbpffpkmjechaa
