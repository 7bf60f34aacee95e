/-
  Merged texts: SideA SideB SideC EndS EndT.
-/
import Derived.Test.YtpgcpmfemcfoaaaSpecWXO
import Derived.Test.YtpgcpmfemcfoaaaLawsO
import Derived.Test.YtpgcpmfemcfoaaaNeckO
import Derived.Lib.SliceRun
import Derived.BigQuiet

/-
  Lists without repeats beside each other: the mathematics, and the library's function that makes them. (Walk.)
-/
namespace Go.Proofs.Ytpgcpmfemcfoaaa
open Go.RowKit

/-- a number put behind a list that does not end with it -/
def putL (l : List Int) (x : Int) : List Int := if l.getLast? = some x then l else l ++ [x]
/-- a list without repeats beside each other -/
def compactL (xs : List Int) : List Int := xs.foldl putL []
theorem compactL_snoc (xs : List Int) (x : Int) : compactL (xs ++ [x]) = putL (compactL xs) x := by simp [compactL]
theorem putL_last (l : List Int) (x : Int) : (putL l x).getLast? = some x := by
  unfold putL; split
  · assumption
  · simp
theorem compactL_last (xs : List Int) : (compactL xs).getLast? = xs.getLast? := by
  induction xs using snoc_ind with
  | h0 => rfl
  | h1 l c _ => rw [compactL_snoc, putL_last]; simp
theorem compactL_len (xs : List Int) : (compactL xs).length ≤ xs.length := by
  induction xs using snoc_ind with
  | h0 => exact Nat.le_refl _
  | h1 l c ih =>
    rw [compactL_snoc, List.length_append]
    unfold putL
    split
    · simp only [List.length_singleton]; omega
    · rw [List.length_append]; simp only [List.length_singleton]; omega
theorem take_last {xs : List Int} {k : Nat} (h : k < xs.length) : (xs.take (k + 1)).getLast? = some (xs.getD k 0) := by
  rw [take_succ_getD xs k 0 h]; simp
/-- one more number: it is put, or left out -/
theorem compactL_take {xs : List Int} {k : Nat} (h : k + 1 < xs.length) :
    compactL (xs.take (k + 2)) = if xs.getD k 0 = xs.getD (k + 1) 0 then compactL (xs.take (k + 1)) else compactL (xs.take (k + 1)) ++ [xs.getD (k + 1) 0] := by
  rw [take_succ_getD xs (k + 1) 0 h, compactL_snoc]
  unfold putL
  rw [compactL_last, take_last (by omega)]
  simp only [Option.some.injEq]

/-- a block of the call's own, whose first cells are these numbers -/
def OwnNums (w : World) (g cap : Nat) (ys : List Int) : Prop := ∃ cur : Array Value, HeldB w g 3 cur ∧ cur.size = cap ∧ ys.length ≤ cap ∧ cap ≤ maxLen ∧ cur.toList.take ys.length = ys.map (Value.int .i64)

theorem OwnNums.at_ {cur : Array Value} {ys : List Int} (ht : cur.toList.take ys.length = ys.map (Value.int .i64)) {i : Nat} (hi : i < ys.length) : cur[i]? = some (.int .i64 (ys.getD i 0)) := by
  have h1 : (cur.toList.take ys.length)[i]? = (ys.map (Value.int .i64))[i]? := by rw [ht]
  rw [List.getElem?_take_of_lt hi] at h1
  rw [← Array.getElem?_toList, h1]
  simp [hi]
theorem OwnNums.cell {w : World} {g cap : Nat} {ys : List Int} (h : OwnNums w g cap ys) {i : Nat} (hi : i < ys.length) : w.cell? ⟨g, i, none⟩ = some (.int .i64 (ys.getD i 0)) := by
  obtain ⟨cur, hh, _, _, _, ht⟩ := h
  rw [hh.cell i]; exact OwnNums.at_ ht hi
theorem OwnNums.frozen {w : World} {g cap : Nat} {ys : List Int} (h : OwnNums w g cap ys) (i : Nat) : w.frozen? ⟨g, i, none⟩ = false := by
  obtain ⟨cur, hh, _⟩ := h; exact hh.frozen i
theorem OwnNums.set {w : World} {g cap : Nat} {ys : List Int} (h : OwnNums w g cap ys) {i : Nat} (_hi : i < ys.length) (v : Int) : OwnNums (w.setCell ⟨g, i, none⟩ (.int .i64 v)) g cap (ys.set i v) := by
  obtain ⟨cur, hh, h1, h2, h3, ht⟩ := h
  refine ⟨_, hh.set i (.int .i64 v), by simp [h1], by rw [List.length_set]; exact h2, h3, ?_⟩
  rw [List.length_set, Array.toList_setIfInBounds, List.take_set, ht, List.map_set]
theorem OwnNums.drewN {w : World} {g cap : Nat} {ys : List Int} (h : OwnNums w g cap ys) (n : Nat) : OwnNums (w.drewN n) g cap ys := h
theorem OwnNums.lt {w : World} {g cap : Nat} {ys : List Int} (h : OwnNums w g cap ys) : g < w.heap.size := by
  obtain ⟨cur, hh, _⟩ := h; exact hh.lt
theorem OwnNums.owns {w : World} {g cap base : Nat} {ys : List Int} (h : OwnNums w g cap ys) (hg : base ≤ g) (k : Nat) (hk : k ≤ ys.length) : w.ownsRow base 3 1 (.slice (some ⟨g, 0, none⟩) k cap) k ((ys.take k).map (Value.int .i64)) := by
  obtain ⟨cur, hh, h1, h2, h3, ht⟩ := h
  refine ⟨by rw [List.length_map, List.length_take]; omega, .inr ⟨g, cap, cur, rfl, hg, hh, by omega, h3, by omega, ?_⟩⟩
  rw [Nat.mul_one, List.map_take, ← ht, List.take_take, Nat.min_eq_left hk]
theorem ownNums_of {w : World} {base : Nat} {ao : Option Addr} {n cap : Nat} {ys : List Int} (h : w.ownsRow base 3 1 (.slice ao n cap) n (ys.map (Value.int .i64))) (hn : 0 < n) : ∃ g, ao = some ⟨g, 0, none⟩ ∧ base ≤ g ∧ ys.length = n ∧ OwnNums w g cap ys := by
  have hl := ownsRow_len h
  rw [List.length_map] at hl
  rcases h.2 with ⟨_, h0⟩ | ⟨g, cap', cur, hv, hb, hg, h1, h2, h3, h4⟩
  · omega
  · simp only [Value.slice.injEq] at hv
    obtain ⟨rfl, _, rfl⟩ := hv
    refine ⟨g, rfl, hb, hl, cur, hg, by omega, by omega, h2, ?_⟩
    rw [Nat.mul_one] at h4
    rw [hl]; exact h4

/-- cells of one block written in a row: the numbers ahead of them stay -/
theorem OwnNums.cleared {g cap : Nat} : ∀ (n k : Nat) (ys : List Int) (w : World), OwnNums w g cap ys → k + n ≤ ys.length → ∃ zs, OwnNums (w.setCells g k (List.replicate n (.int .i64 0))) g cap zs ∧ zs.length = ys.length ∧ zs.take k = ys.take k
  | 0, k, ys, w, h, _ => ⟨ys, h, rfl, rfl⟩
  | n + 1, k, ys, w, h, hk => by
    obtain ⟨zs, h1, h2, h3⟩ := OwnNums.cleared n (k + 1) (ys.set k 0) (w.setCell ⟨g, k, none⟩ (.int .i64 0)) (h.set (by omega) 0) (by rw [List.length_set]; omega)
    refine ⟨zs, h1, by rw [h2, List.length_set], ?_⟩
    have h4 : (zs.take (k + 1)).take k = ((ys.set k 0).take (k + 1)).take k := by rw [h3]
    rw [List.take_take, List.take_take, Nat.min_eq_left (by omega)] at h4
    rw [h4, List.take_set_of_le (Nat.le_refl _)]
theorem setCell_only (w : World) (g k : Nat) (v : Value) : w.grownBy (w.setCell ⟨g, k, none⟩ v) (some g) := by
  refine ⟨rfl, rfl, rfl, by simp, fun b hb hne => Below.heap_setCell w ⟨g, k, none⟩ v b (fun e => hne (by rw [e]))⟩
theorem setCells_only (g : Nat) : ∀ (vs : List Value) (k : Nat) (w0 w : World), w0.grownBy w (some g) → w0.grownBy (w.setCells g k vs) (some g)
  | [], _, _, _, h => h
  | v :: vs, k, w0, w, h => setCells_only g vs (k + 1) w0 _ (grownBy_trans h (setCell_only w g k v))
theorem drewN_only (w : World) (n g : Nat) : w.grownBy (w.drewN n) (some g) := ⟨rfl, rfl, rfl, Nat.le_refl _, fun _ _ _ => rfl⟩

theorem getD_append_drop {c xs : List Int} {i : Nat} (h : c.length ≤ i) : (c ++ xs.drop c.length).getD i 0 = xs.getD i 0 := by
  rw [List.getD_eq_getElem?_getD, List.getD_eq_getElem?_getD, List.getElem?_append_right h, List.getElem?_drop, show c.length + (i - c.length) = i from by omega]
theorem set_append_drop {c xs : List Int} (h : c.length < xs.length) (v : Int) : (c ++ xs.drop c.length).set c.length v = (c ++ [v]) ++ xs.drop (c ++ [v]).length := by
  rw [List.set_append_right _ _ (Nat.le_refl _), Nat.sub_self, List.drop_eq_getElem_cons h, List.set_cons_zero, List.append_assoc, List.length_append]
  rfl
theorem len_append_drop {c xs : List Int} (h : c.length ≤ xs.length) : (c ++ xs.drop c.length).length = xs.length := by
  rw [List.length_append, List.length_drop]; omega

set_option maxRecDepth 100000 in
set_option maxHeartbeats 4000000 in
theorem compact_any (base : Nat) (ao : Option Addr) (cap n : Nat) (xs : List Int) (w : World) (hn : xs.length = n) (hl : n ≤ 1000) (hown : w.ownsRow base 3 1 (.slice ao n cap) n (xs.map (Value.int .i64))) :
    Calls Try.prog 102 #[.slice ao n cap] w
      fun e w' => e = .returned (.slice ao (compactL xs).length cap) ∧ w'.ownsRow base 3 1 (.slice ao (compactL xs).length cap) (compactL xs).length ((compactL xs).map (Value.int .i64)) ∧ w.grownBy w' (Value.ownBlock (.slice ao n cap)) := by
  by_cases h2 : n < 2
  · have hd : decide ((n : Int) < 2) = true := by rw [decide_eq_true_eq]; omega
    have hc : compactL xs = xs := by
      match xs, hn with
      | [], _ => rfl
      | [x], _ => rfl
      | _ :: _ :: _, hn => simp at hn; omega
    rw [hc, hn]
    clear hc
    go_enter Try.func102, Try.ntmps102
    go_wp2
    go_ret
    exact ⟨rfl, hown, ⟨rfl, rfl, rfl, Nat.le_refl _, fun _ _ _ => rfl⟩⟩
  · have hd : decide ((n : Int) < 2) = false := by rw [decide_eq_false_iff_not]; omega
    obtain ⟨g, rfl, hbg, _, hon⟩ := ownNums_of hown (by omega)
    subst hn
    have HON := Lib.hid hon
    clear hown hon
    have HCL := Lib.hid (compactL_len xs)
    go_enter Try.func102, Try.ntmps102
    go_wp2
    go_loopw [3] (fun vk wr => ∃ k : Nat, 1 ≤ k ∧ k ≤ xs.length ∧ vk = .int .i64 k ∧ compactL (xs.take k) = xs.take k ∧ Quiet w wr) (fun vk _ => xs.length - (intOf vk).toNat)
    case atStart => exact ⟨1, Nat.le_refl _, by omega, rfl, by
      rw [take_succ_getD xs 0 0 (by omega)]; rfl, Quiet.refl _⟩
    case round =>
      obtain ⟨k, hk1, hk, rfl, hcs, hq⟩ := hrel
      have HCS := Lib.hid hcs; clear hcs
      by_cases hkn : k < xs.length
      · have hkn' : decide ((k : Int) < (xs.length : Int)) = true := by rw [decide_eq_true_eq]; omega
        have hkn2 : (k : Int) < (xs.length : Int) := by omega
        have hk1' : (k : Int) - 1 = ((k - 1 : Nat) : Int) := by omega
        have hon : OwnNums wr g cap xs := by obtain ⟨m, rfl⟩ := hq; exact HON.out
        have c0 := hon.cell hkn
        have c1 := hon.cell (show k - 1 < xs.length by omega)
        have htk := compactL_take (xs := xs) (k := k - 1) (by omega)
        rw [show k - 1 + 2 = k + 1 from by omega, show k - 1 + 1 = k from by omega, HCS.out] at htk
        have HTK := Lib.hid htk; clear htk
        have HTS := Lib.hid (take_succ_getD xs k 0 hkn)
        have HCO := Lib.hid (show compactL (xs.take k) = xs.take k from HCS.out)
        generalize hx : xs.getD k 0 = x at *
        generalize hy : xs.getD (k - 1) 0 = y at *
        have HX := Lib.hid hx; have HY := Lib.hid hy; clear hx hy
        by_cases hxy : x = y
        · have hb : (x == y) = true := by rw [hxy]; simp
          have hcn : compactL (xs.take (k + 1)) = xs.take k := by rw [HTK.out, if_pos hxy.symm]
          have HCN := Lib.hid hcn; clear hcn hxy
          have hcap : xs.length ≤ cap := by obtain ⟨_, _, _, q, _⟩ := HON.out; exact q
          have hle1 : k ≤ cap := by omega
          have hle2 : k ≤ xs.length := hk
          go_wp2
          go_quiet (fail)
          go_wp2
          have hbt : (xs.take k).length = k := by rw [List.length_take]; omega
          have hon1 := hon.drewN nq
          have hgr1 : w.grownBy (wr.drewN nq) (some g) := grownBy_of_below ((hq.then nq).below _) (some g)
          clear hq hon c0 c1 hb
          go_loopw [3, 5] (fun vk vt wm => ∃ (t : Nat) (c : List Int), 1 ≤ t ∧ k + t ≤ xs.length ∧ vt = .int .i64 t ∧ compactL (xs.take (k + t)) = c ∧ vk = .int .i64 (c.length : Nat) ∧ c.length < k + t ∧ OwnNums wm g cap (c ++ xs.drop c.length) ∧ w.grownBy wm (some g)) (fun _ vt _ => xs.length - (intOf vt).toNat)
          case atStart => exact ⟨1, xs.take k, Nat.le_refl _, by omega, rfl, HCN.out, by rw [hbt], by rw [hbt]; omega, by rw [hbt, List.take_append_drop]; exact hon1, hgr1⟩
          case round =>
            clear hon1 hgr1
            obtain ⟨t, c, ht1, ht2, rfl, hc, rfl, hct, hon, hgr⟩ := hrel
            have HC := Lib.hid hc; clear hc
            have hlen := len_append_drop (c := c) (xs := xs) (by omega)
            by_cases htn : k + t < xs.length
            · have htn' : decide ((t : Int) < (xs.length : Int) - (k : Int)) = true := by rw [decide_eq_true_eq]; omega
              have htn2 : decide ((t : Int) < ((xs.length - k : Nat) : Int)) = true := by rw [decide_eq_true_eq]; omega
              have htn3 : (t : Int) < ((xs.length - k : Nat) : Int) := by omega
              have ht1' : (t : Int) - 1 = ((t - 1 : Nat) : Int) := by omega
              have htn4 : ((t - 1 : Nat) : Int) < ((xs.length - k : Nat) : Int) := by omega
              have c0 := hon.cell (i := k + t) (by rw [hlen]; omega)
              have c1 := hon.cell (i := k + (t - 1)) (by rw [hlen]; omega)
              rw [getD_append_drop (by omega)] at c0 c1
              have htk := compactL_take (xs := xs) (k := k + (t - 1)) (by omega)
              rw [show k + (t - 1) + 2 = k + (t + 1) from by omega, show k + (t - 1) + 1 = k + t from by omega, HC.out] at htk
              have HTK := Lib.hid htk; clear htk
              generalize xs.getD (k + t) 0 = x2 at *
              generalize xs.getD (k + (t - 1)) 0 = y2 at *
              by_cases hxy : x2 = y2
              · have hb : (x2 != y2) = false := by rw [hxy]; simp
                have hcn : compactL (xs.take (k + (t + 1))) = c := by rw [HTK.out, if_pos hxy.symm]
                have HCN2 := Lib.hid hcn; clear hcn hxy
                go_wp2
                go_quiet (fail)
                go_wp2
                go_roundw
                case rel => exact ⟨t + 1, c, by omega, by omega, by go_num, HCN2.out, rfl, by omega, hon.drewN nq, grownBy_trans hgr (drewN_only _ _ _)⟩
                case measure => simp [intOf]; omega
              · have hb : (x2 != y2) = true := by rw [bne_iff_ne]; exact hxy
                have hcn : compactL (xs.take (k + (t + 1))) = c ++ [x2] := by rw [HTK.out, if_neg (fun e => hxy e.symm)]
                have HCN2 := Lib.hid hcn; clear hcn hxy
                have hcl2 : (c.length : Int) < (xs.length : Int) := by omega
                have hset := set_append_drop (c := c) (xs := xs) (by omega) x2
                have HSET := Lib.hid hset; clear hset
                have f0 := hon.frozen c.length
                have cc := hon.cell (i := c.length) (by rw [hlen]; omega)
                generalize hz : (c ++ xs.drop c.length).getD c.length 0 = z at *
                clear hz
                have HLN := Lib.hid (show (c ++ [x2]).length = c.length + 1 by rw [List.length_append]; rfl)
                go_wp2
                go_quiet (fail)
                go_wp2
                go_roundw
                case rel => exact ⟨t + 1, c ++ [x2], by omega, by omega, by go_num, HCN2.out, by rw [HLN.out]; go_num, by rw [HLN.out]; omega, by rw [← HSET.out]; exact (hon.drewN nq).set (by rw [hlen]; omega) x2, grownBy_trans (grownBy_trans hgr (drewN_only _ _ _)) (setCell_only _ _ _ _)⟩
                case measure => simp [intOf]; omega
            · have hkt : k + t = xs.length := by omega
              have htn2 : decide ((t : Int) < ((xs.length - k : Nat) : Int)) = false := by rw [decide_eq_false_iff_not]; omega
              have hcx : compactL xs = c := by have := HC.out; rwa [hkt, List.take_length] at this
              have HCX := Lib.hid hcx; clear hcx
              have HKT := Lib.hid hkt
              have hcl2 : (c.length : Int) ≤ (xs.length : Int) := by omega
              have hcap : xs.length ≤ cap := by obtain ⟨_, _, _, q, _⟩ := HON.out; exact q
              have hclr := fun ty => Lib.run_clear_slice (P := Try.prog) wr 32 3 ty (.int .i64 0) Try.underlying32 Try.zeroValue3 rfl rfl g c.length (xs.length - c.length) (cap - c.length) (by omega) (fun j hj => by rw [hon.cell (i := c.length + j) (by rw [hlen]; omega)]; rfl) (fun j _ => hon.frozen _)
              obtain ⟨zs, hz1, hz2, hz3⟩ := OwnNums.cleared (xs.length - c.length) c.length _ wr hon (by rw [hlen]; omega)
              have hgr2 := setCells_only g (List.replicate (xs.length - c.length) (.int .i64 0)) c.length w wr hgr
              rw [List.take_append_of_le_length (Nat.le_refl _), List.take_length] at hz3
              obtain ⟨WC, hWC⟩ : ∃ WC, wr.setCells g c.length (List.replicate (xs.length - c.length) (.int .i64 0)) = WC := ⟨_, rfl⟩
              rw [hWC] at hclr hz1 hgr2
              clear hWC
              have hfin := hz1.owns hbg c.length (by rw [hz2, hlen]; omega)
              rw [hz3] at hfin
              clear hkt hz1 hz2 hz3 hon hgr
              go_wp2
              go_ret
              exact ⟨by rw [HCX.out]; rfl, by rw [HCX.out]; exact hfin, hgr2⟩
        · have hb : (x == y) = false := by rw [beq_eq_false_iff_ne]; exact hxy
          have hcn : compactL (xs.take (k + 1)) = xs.take (k + 1) := by rw [HTK.out, if_neg (fun e => hxy e.symm), HTS.out]
          have HCN := Lib.hid hcn; clear hcn hxy
          go_wp2
          go_quiet (fail)
          go_wp2
          go_roundw
          case rel => exact ⟨k + 1, by omega, by omega, by go_num, HCN.out, hq.then nq⟩
          case measure => simp [intOf]; omega
      · obtain rfl : k = xs.length := by omega
        have hkn' : decide ((xs.length : Int) < (xs.length : Int)) = false := by rw [decide_eq_false_iff_not]; omega
        have hall : compactL xs = xs := by have := HCS.out; rwa [List.take_length] at this
        have HALL := Lib.hid hall
        have hfin : w.ownsRow base 3 1 (.slice (some ⟨g, 0, none⟩) xs.length cap) xs.length ((xs.take xs.length).map (Value.int .i64)) := HON.out.owns hbg xs.length (Nat.le_refl _)
        rw [List.take_length] at hfin
        have hfin2 := hq.owns hfin
        have hgr := grownBy_of_below (hq.below _) (some g)
        clear hall hfin
        go_wp2
        go_ret
        exact ⟨by rw [HALL.out]; rfl, by rw [HALL.out]; exact hfin2, hgr⟩

end Go.Proofs.Ytpgcpmfemcfoaaa

/-
  The rooms of both sides of a wall: the program's answer. (Walks.)
-/
namespace Go.Proofs.Ytpgcpmfemcfoaaa
open Go.RowKit

/-- the rooms on both sides, cell by cell -/
def cellsA (g : Nat → Nat → Nat) (X : Wl) (t : Nat) : List Int := (List.range t).map fun s => ((sideA g X.way X.line (X.first + s) : Nat) : Int)
def cellsB' (g : Nat → Nat → Nat) (X : Wl) (t : Nat) : List Int := (List.range t).map fun s => ((sideB g X.way X.line (X.first + s) : Nat) : Int)
theorem cellsA_succ (g : Nat → Nat → Nat) (X : Wl) (t : Nat) : cellsA g X (t + 1) = cellsA g X t ++ [((sideA g X.way X.line (X.first + t) : Nat) : Int)] := by simp [cellsA, List.range_succ]
theorem cellsB_succ (g : Nat → Nat → Nat) (X : Wl) (t : Nat) : cellsB' g X (t + 1) = cellsB' g X t ++ [((sideB g X.way X.line (X.first + t) : Nat) : Int)] := by simp [cellsB', List.range_succ]
theorem cellsA_len (g : Nat → Nat → Nat) (X : Wl) (t : Nat) : (cellsA g X t).length = t := by simp [cellsA]
theorem cellsB_len (g : Nat → Nat → Nat) (X : Wl) (t : Nat) : (cellsB' g X t).length = t := by simp [cellsB']

/-- two slices of numbers, each of the call's own, apart -/
def TwoRet (base : Nat) (S T : List Int) (e : Ending) (w' : World) : Prop :=
  ∃ r0 q0 r1 q1, e = .returned (.tuple #[.slice r0 S.length q0, .slice r1 T.length q1]) ∧ w'.ownsRow base 3 1 (.slice r0 S.length q0) S.length (S.map (Value.int .i64)) ∧
    w'.ownsRow base 3 1 (.slice r1 T.length q1) T.length (T.map (Value.int .i64)) ∧ Apart r0 r1

set_option maxRecDepth 100000 in
set_option maxHeartbeats 4000000 in
theorem sides_any (h wd r : Nat) (g : Nat → Nat → Nat) (X : Wl) (w : World) (h1 : 1 ≤ X.line) (h2 : X.line < 6) (h3 : X.first + X.long ≤ 6) :
    Calls Try.prog 70 #[.agg (planC h wd r g), .agg (wlC X)] w
      fun e w' => TwoRet w.heap.size (compactL (cellsA g X X.long)) (compactL (cellsB' g X X.long)) e w' ∧ Below w.heap.size w w' := by
  obtain ⟨im, hmi, hmz, hm1, hm2⟩ := info_parts Try.infoNum
  have HAC := Lib.hid (fun (i : Nat) (hi : i < 6) w => across_any h wd r g X.way X.line i w h1 h2 hi)
  have HCS := Lib.hid (planC_size h wd r g)
  generalize planC h wd r g = C at *
  have hsz : (Try.prog.info? 47).map (·.size) = some C.size := by rw [HCS.out]; kernel_rfl
  have HSZ := Lib.hid hsz; clear hsz
  have HA := Lib.hid (fun t => cellsA_succ g X t); have HB := Lib.hid (fun t => cellsB_succ g X t)
  have HAL := Lib.hid (fun t => cellsA_len g X t); have HBL := Lib.hid (fun t => cellsB_len g X t)
  have bP : HeldB ((w.alloc (.cells C 47)).alloc (.cells (wlC X) 108)) w.heap.size 47 C := (HeldB.new w _ _).alloc _
  have bX : HeldB ((w.alloc (.cells C 47)).alloc (.cells (wlC X) 108)) (w.heap.size + 1) 108 (wlC X) := by
    have := HeldB.new (w.alloc (.cells C 47)) 108 (wlC X)
    rwa [World.size_alloc] at this
  have hB0 : Below w.heap.size w ((w.alloc (.cells C 47)).alloc (.cells (wlC X) 108)) := ((Below.refl _ w).alloc (Nat.le_refl _) _).alloc (by simp) _
  have hs0 : w.heap.size + 2 ≤ ((w.alloc (.cells C 47)).alloc (.cells (wlC X) 108)).heap.size := by simp
  have x2 := bX.cell 2
  have y2 : (wlC X)[2]? = some (.int .i64 (X.first : Nat)) := rfl
  rw [y2] at x2
  go_enter Try.func70, Try.ntmps70
  go_wp2
  clear x2 y2
  go_loopw [6, 7, 8] (fun v6 v7 v8 wr => ∃ (t : Nat) (a1 a2 : Option Addr) (c1 c2 : Nat), t ≤ X.long ∧ v8 = .int .i64 ((X.first + t : Nat) : Int) ∧ v6 = .slice a1 t c1 ∧ v7 = .slice a2 t c2 ∧
    wr.ownsRow (w.heap.size + 2) 3 1 (.slice a1 t c1) t ((cellsA g X t).map (Value.int .i64)) ∧ wr.ownsRow (w.heap.size + 2) 3 1 (.slice a2 t c2) t ((cellsB' g X t).map (Value.int .i64)) ∧ Apart a1 a2 ∧
    HeldB wr w.heap.size 47 C ∧ HeldB wr (w.heap.size + 1) 108 (wlC X) ∧ w.heap.size + 2 ≤ wr.heap.size ∧ Below w.heap.size w wr) (fun _ _ v8 _ => X.first + X.long - (intOf v8).toNat)
  case atStart => exact ⟨0, none, none, 0, 0, Nat.zero_le _, rfl, rfl, rfl, ⟨rfl, .inl ⟨rfl, rfl⟩⟩, ⟨rfl, .inl ⟨rfl, rfl⟩⟩, apart_nil _, bP, bX, hs0, hB0⟩
  case round =>
    clear bP bX hB0 hs0
    obtain ⟨t, a1, a2, c1, c2, ht, rfl, rfl, rfl, ho1, ho2, hap, bP, bX, hs, hB⟩ := hrel
    have x0 := bX.cell 0; have x1 := bX.cell 1; have x2 := bX.cell 2; have x3 := bX.cell 3
    have y0 : (wlC X)[0]? = some (.int .i64 (X.way : Nat)) := rfl
    have y1 : (wlC X)[1]? = some (.int .i64 (X.line : Nat)) := rfl
    have y2 : (wlC X)[2]? = some (.int .i64 (X.first : Nat)) := rfl
    have y3 : (wlC X)[3]? = some (.int .i64 (X.long : Nat)) := rfl
    rw [y0] at x0; rw [y1] at x1; rw [y2] at x2; rw [y3] at x3
    clear y0 y1 y2 y3
    by_cases htl : t < X.long
    · have hlt' : decide (((X.first + t : Nat) : Int) < (X.first : Int) + (X.long : Int)) = true := by rw [decide_eq_true_eq]; omega
      have HAt := Lib.hid (HA.out t); have HBt := Lib.hid (HB.out t)
      have HAC2 := Lib.hid (HAC.out (X.first + t) (by omega))
      generalize sideA g X.way X.line (X.first + t) = A at *
      generalize sideB g X.way X.line (X.first + t) = B at *
      have h63 : t + 1 ≤ maxLen := by unfold maxLen; omega
      have h64 : (t + 1) * 8 ≤ 140737488355328 := by omega
      have hlt1 := owns_lt ho1
      have hlt2 := owns_lt ho2
      go_wp2_with (first
        | (refine wpList_load_row rfl 47 _ rfl w.heap.size rfl 47 C (0, 0) _ bP Try.underlying47 rfl HSZ.out ?_)
        | (at_builtin; refine wpList_push _ rfl (.tmp 32) (.tmp 34) 32 rfl (w.heap.size + 2) 3 im (.int .i64 0) 8 Try.underlying32 hmi hmz hm1 hm2 rfl a1 t c1 _ rfl ((ownsRow_below ho1 hb2).alloc _) _ _ _ rfl (cell_new _ _ _) rfl h63 h64 (by simp; omega) ?_; intro n1 d1 w3 ho3 hg3 hnew3; have hs3 := hg3.size)
        | (at_builtin; refine wpList_push _ rfl (.tmp 36) (.tmp 38) 32 rfl (w.heap.size + 2) 3 im (.int .i64 0) 8 Try.underlying32 hmi hmz hm1 hm2 rfl a2 t c2 _ rfl ((owns_push_other (ownsRow_below ho2 hb2) hg3 hap.symm).alloc _) _ _ _ rfl (cell_new _ _ _) rfl h63 h64 (by simp at hs3; simp; omega) ?_; intro n2 d2 w4 ho4 hg4 hnew4)
        | (go_at_call 101; refine (HAC2.out _).mono ?_; rintro e w2 ⟨rfl, hb2⟩; have hbs2 := hb2.size))
      have hs3' : w2.heap.size + 1 ≤ w3.heap.size := by simpa using hs3
      have hap3 : Apart n1 a2 := hap.push hnew3 (fun a ha => by have := (hlt2 a ha).2; simp; omega)
      have hap4 : Apart n2 n1 := hap3.symm.push hnew4 (fun a ha => by have := (owns_lt ho3 a ha).2; simp; omega)
      have ho5 := owns_push_other ho3 hg4 hap3
      have k1 : ∀ {bb : Nat} {ty : TypeId} {cs : Array Value}, bb < w.heap.size + 2 → HeldB wr bb ty cs → HeldB w4 bb ty cs := fun hbb hh =>
        kept_own ((kept_own ((hh.below hb2).alloc _) hg3 (fun a ha => by have := (hlt1 a ha).1; omega)).alloc _) hg4 (fun a ha => by have := (hlt2 a ha).1; omega)
      have hB3 := below_push (below_step hB hB.size hb2) (by omega) hg3 (fun a ha => by have := (hlt1 a ha).1; omega)
      have hB4 := below_push hB3 (by omega) hg4 (fun a ha => by have := (hlt2 a ha).1; omega)
      have hs4 : w3.heap.size + 1 ≤ w4.heap.size := by have := hg4.size; simpa using this
      go_roundw
      case rel => exact ⟨t + 1, n1, n2, d1, d2, by omega, by go_num, rfl, rfl, owns_eq ho5 (by rw [HAt.out, List.map_append]; rfl), owns_eq ho4 (by rw [HBt.out, List.map_append]; rfl), hap4.symm, k1 (by omega) bP, k1 (by omega) bX, by omega, hB4⟩
      case measure => simp [intOf]; omega
    · obtain rfl : t = X.long := by omega
      have hlt' : decide (((X.first + X.long : Nat) : Int) < (X.first : Int) + (X.long : Int)) = false := by rw [decide_eq_false_iff_not]; omega
      have hlt1 := owns_lt ho1
      have hlt2 := owns_lt ho2
      go_wp2_with (first
        | (go_at_call 102; refine (compact_any (w.heap.size + 2) a2 c2 X.long (cellsB' g X X.long) _ (HBL.out _) (by omega) ho3).mono ?_; rintro e w5 ⟨rfl, ho5, hg5⟩)
        | (go_at_call 102; refine (compact_any (w.heap.size + 2) a1 c1 X.long (cellsA g X X.long) _ (HAL.out _) (by omega) ho1).mono ?_; rintro e w2 ⟨rfl, ho2', hg2⟩; have ho3 := owns_kept ho2 hg2 hap.symm))
      have ho6 := owns_kept ho2' hg5 (m' := X.long) (cap' := c2) hap
      have hB2 := below_of_grownBy' hB hg2 (fun a ha => by have := (hlt1 a ha).1; omega)
      have hB5 := below_of_grownBy' hB2 hg5 (fun a ha => by have := (hlt2 a ha).1; omega)
      go_ret2
      exact ⟨⟨a1, c1, a2, c2, rfl, ownsRow_base ho6 (by omega), ownsRow_base ho5 (by omega), hap⟩, hB5⟩

end Go.Proofs.Ytpgcpmfemcfoaaa

/-
  The rooms of both sides of a wall told by its number: the program's answer. (Walk.)
-/
namespace Go.Proofs.Ytpgcpmfemcfoaaa
open Go.RowKit

theorem wallsP_mem {p : List ByteArray} {X : Wl} (h : X ∈ wallsP p) : 1 ≤ X.line ∧ X.line < 6 ∧ X.first + X.long ≤ 6 ∧ X.way < 2 := by
  obtain ⟨a, b, c, d, e, _⟩ := wallsG_mem h
  have h1 : acrossN (planH p) (planW p) X.way ≤ 6 := by unfold acrossN; have := planH_le p; have := planW_le p; split <;> omega
  have h2 : alongN (planH p) (planW p) X.way ≤ 6 := by unfold alongN; have := planH_le p; have := planW_le p; split <;> omega
  exact ⟨b, by omega, by omega, a⟩

end Go.Proofs.Ytpgcpmfemcfoaaa

/-
  The model counts ends of walls at the outline. (Walks.)
-/
namespace Go.Proofs.Ytpgcpmfemcfoaaa
open Go.RowKit

end Go.Proofs.Ytpgcpmfemcfoaaa

/-
  Ends at the outline: the model's answer. (Walks.)
-/
namespace Go.Proofs.Ytpgcpmfemcfoaaa
open Go.RowKit

end Go.Proofs.Ytpgcpmfemcfoaaa
